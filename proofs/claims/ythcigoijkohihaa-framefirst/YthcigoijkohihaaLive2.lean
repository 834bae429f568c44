/- The small living call of every statement of layer 2 answers true. -/
import Derived.Test.YthcigoijkohihaaEq
namespace Go.Proofs.Ythcigoijkohihaa
open Go.RowKit Go.Proofs.Bits
set_option linter.unusedVariables false
set_option maxRecDepth 1000000

def f0 : Fr := ⟨291, false, false, 2, [1, 2, 0, 0, 0, 0, 0, 0], by decide, by decide, rfl⟩
theorem live_chk : f0.chk = 0 := by decide +kernel
theorem live_long : (encV f0 true).length = 64 := by decide +kernel
theorem live_dec : frB (decF (encV f0 true)) f0 = true := by decide +kernel
theorem live_n : decN (encV f0 true) = 64 := by decide +kernel
theorem live_e : decE (encV f0 true) = 0 := by decide +kernel
theorem live_decV : decV (encV f0 true) = .tuple #[.agg f0.arr, .int .i64 64, .int .i64 0] := by
  rw [decV, live_n, live_e, (frB_iff _ _).1 live_dec]; rfl
theorem live_enc (w : World) : Calls Try.prog 9 #[.agg f0.arr, .bool true] w fun e w' => e = .returned (.tuple #[.string ⟨(encV f0 true).toArray⟩, .int .i64 0]) ∧ Below w.heap.size w w' := by
  have h := fEncode_any f0 true w
  rw [live_chk] at h
  exact h
theorem live_dcd (w : World) : Calls Try.prog 21 #[.string ⟨(encV f0 true).toArray⟩] w fun e w' => e = .returned (.tuple #[.agg f0.arr, .int .i64 64, .int .i64 0]) ∧ Below w.heap.size w w' := by
  have h := Decode_any (encV f0 true) w
  rw [live_decV] at h
  exact h
theorem live_check (w : World) : Calls Try.prog 13 #[.agg f0.arr] w fun e w' => e = .returned (.int .i64 0) ∧ Below w.heap.size w w' := by
  have h := fCheck_any f0 w
  rw [live_chk] at h
  exact h
theorem live_same (w : World) : Calls Try.prog 17 #[.agg f0.arr, .agg f0.arr] w fun e w' => e = .returned (.bool true) ∧ Below w.heap.size w w' := by
  have h := fSame_any f0 f0 w
  rw [frB_same] at h
  exact h
set_option maxHeartbeats 4000000 in
theorem lives2_any (w : World) :
    Calls Try.prog 18 #[] w fun e w' => e = .returned (.bool true) ∧ Below w.heap.size w w' := by
  have hsz : (⟨(encV f0 true).toArray⟩ : ByteArray).size = 64 := by
    have := live_long
    simpa [ByteArray.size] using this
  have hE := live_enc
  have hD := live_dcd
  have fn := Fa.new w f0
  have bn : Below w.heap.size w (w.alloc (.cells f0.arr 25)) := (Below.refl _ _).alloc (Nat.le_refl _) _
  have sn := size_alloc w (.cells f0.arr 25)
  generalize (⟨(encV f0 true).toArray⟩ : ByteArray) = S at *
  go_enter Try.func18, Try.ntmps18
  go_wp2_with fail
  change Calls Try.prog 9 #[.agg f0.arr, .bool true] (w.alloc (.cells f0.arr 25)) _
  refine (hE _).mono ?_
  rintro e w1 ⟨rfl, b1⟩
  have f1 : Fa w.heap.size f0 w1 := (b1.block _ (by omega)).trans fn
  have B1 := bn.trans (b1.mono (by omega))
  have s1 := b1.size
  generalize hq : w.heap.size = q at *
  clear fn bn b1
  go_wp2_with fail
  refine (hD _).mono ?_
  rintro e w2 ⟨rfl, b2⟩
  have f2 : Fa q f0 w2 := (b2.block _ f1.lt).trans f1
  have B2 := B1.trans (b2.mono (by omega))
  have s2 := b2.size
  have gn := Fa.new w2 Fr.nul
  have g3 := gn.row f0
  have f3 : Fa q f0 ((w2.alloc (.cells Fr.nul.arr 25)).setRow w2.heap.size f0.arr) := (setRow_other _ _ _ _ (by have := f1.lt; omega)).trans (f2.alloc _)
  have B3 : Below q w ((w2.alloc (.cells Fr.nul.arr 25)).setRow w2.heap.size f0.arr) := below_row (B2.alloc (by omega) _) (by omega) (by rw [size_alloc]; omega) _
  clear f1 f2 B1 B2 b2 hE hD
  have hs := frB_same f0
  go_wp2_with (first | refine gn.sd f0 rfl _ _ rfl rfl rfl ?_ | refine g3.ldw rfl _ rfl rfl ?_ | refine f3.ldw rfl _ rfl rfl ?_ | refine eqw f0 f0 rfl _ _ rfl rfl rfl ?_)
  have L1 := f3.lt
  have L2 := g3.lt
  refine (live_check _).mono ?_
  rintro e w4 ⟨rfl, b4⟩
  have f4 : Fa q f0 w4 := (b4.block _ L1).trans f3
  have g4 : Fa w2.heap.size f0 w4 := (b4.block _ L2).trans g3
  have B4 := B3.trans (b4.mono (by omega))
  have s4 := b4.size
  clear gn f3 g3 B3 b4
  go_wp2_with (first | refine g4.ldw rfl _ rfl rfl ?_ | refine f4.ldw rfl _ rfl rfl ?_)
  refine (live_same _).mono ?_
  rintro e w5 ⟨rfl, b5⟩
  have B5 := B4.trans (b5.mono (by omega))
  clear f4 g4 B4 b5
  go_wp2
  go_ret
  exact ⟨rfl, by rw [hq]; exact B5⟩
end Go.Proofs.Ythcigoijkohihaa
