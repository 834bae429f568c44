/- The small living call of every statement on values answers true. -/
import Derived.Test.YtoihcjokifjcgabDoorTy7
namespace Go.Proofs.YtoihcjokifjcgabDoor
open Go.RowKit Go.Proofs.Ty
set_option linter.unusedVariables false
set_option maxRecDepth 1000000
/-- A value that was told is laid down beside what stands. -/
theorem keepV {q : Nat} {v : Vl} {B : Nat} {w x : World} (f : Va q v x) (b : Below B w x) (hB : B ≤ x.heap.size) (u : Vl) :
    Va x.heap.size Vl.nul (x.alloc (.cells #[.int .i64 0, .int .u64 0, .string ⟨#[]⟩] 25)) ∧ Va x.heap.size u ((x.alloc (.cells #[.int .i64 0, .int .u64 0, .string ⟨#[]⟩] 25)).setRow x.heap.size u.arr) ∧ Va q v ((x.alloc (.cells #[.int .i64 0, .int .u64 0, .string ⟨#[]⟩] 25)).setRow x.heap.size u.arr)
      ∧ Below B w ((x.alloc (.cells #[.int .i64 0, .int .u64 0, .string ⟨#[]⟩] 25)).setRow x.heap.size u.arr) ∧ Below x.heap.size x ((x.alloc (.cells #[.int .i64 0, .int .u64 0, .string ⟨#[]⟩] 25)).setRow x.heap.size u.arr) := by
  have gn : Va x.heap.size Vl.nul (x.alloc (.cells #[.int .i64 0, .int .u64 0, .string ⟨#[]⟩] 25)) := Va.new x Vl.nul
  have hl := f.lt
  exact ⟨gn, gn.row u, (setRow_other _ _ _ _ (by omega)).trans (f.alloc _), below_row (b.alloc hB _) hB (by rw [size_alloc]; omega) _, below_row ((Below.refl _ _).alloc (Nat.le_refl _) _) (Nat.le_refl _) (by rw [size_alloc]; omega) _⟩
def v0 : Vl := ⟨3, 18446744073709551614, ⟨#[]⟩, by decide, by decide, by decide⟩
theorem live_chk : v0.chk = 0 := by decide +kernel
theorem live_enc : v0.enc = [254, 255] := by decide +kernel
theorem live_dec : decW 3 [254, 255] = v0 := (vlB_iff _ _).1 (by decide +kernel)
theorem live_decE : decE 3 [254, 255] = 0 := by decide +kernel
set_option maxHeartbeats 1000000 in
theorem lives7_any (w : World) :
    Calls Tryd.prog 7 #[] w fun e w' => e = .returned (.bool true) ∧ Below w.heap.size w w' := by
  have hE := Encode_v v0
  have hC := Check_v v0
  rw [live_chk, live_enc] at hE
  rw [live_chk] at hC
  have hD := fun x w => Decode_v 3 (by decide) x [254, 255] w
  rw [live_dec, live_decE] at hD
  have fn := Va.new w v0
  have bn : Below w.heap.size w (w.alloc (.cells v0.arr 25)) := (Below.refl _ _).alloc (Nat.le_refl _) _
  have sn := size_alloc w (.cells v0.arr 25)
  go_enter Tryd.func7, Tryd.ntmps7
  go_wp2_with fail
  change Calls Tryd.prog 19 #[.agg v0.arr] (w.alloc (.cells v0.arr 25)) _
  generalize hq : w.heap.size = q at *
  refine (hE _).mono ?_
  rintro e w1 ⟨x, rfl, hB, b1⟩
  have f1 := fn.below b1
  have B1 := bn.trans (b1.mono (by omega))
  have s1 := b1.size
  clear fn bn b1 hE
  have hD1 := hD x w1 hB
  clear hD
  go_wp2_with fail
  refine hD1.mono ?_
  rintro e w2 ⟨rfl, b2⟩
  have f2 := f1.below b2
  have hB2 := hB.below b2
  have B2 := B1.trans (b2.mono (by omega))
  have s2 := b2.size
  obtain ⟨gn, g3, f3, B3, k3⟩ := keepV f2 B2 (by omega) v0
  have hT := (hB2.below k3).text
  have hs := vlB_same v0
  clear hD1 b2 f1 f2 hB hB2 B1 B2 k3
  go_wp2_with (first | refine gn.sd v0 rfl _ _ rfl rfl rfl ?_ | refine f3.ld rfl _ rfl rfl ?_ | refine g3.ld rfl _ rfl rfl ?_ | refine eqv v0 v0 rfl _ _ rfl rfl rfl ?_)
  refine (hC _).mono ?_
  rintro e w4 ⟨rfl, b4⟩
  have B4 := B3.trans (b4.mono (by have := f3.lt; have := g3.lt; omega))
  clear f3 g3 B3 b4 gn
  go_wp2
  go_ret
  exact ⟨rfl, by rw [hq]; exact B4⟩
end Go.Proofs.YtoihcjokifjcgabDoor
