/- Contracts of Encode and Field. -/
import Derived.Test.YtfddoindcmdooaaWrt2
import Derived.Test.YtfddoindcmdooaaStuff
namespace Go.Proofs.Ytfddoindcmdooaa
open Go.RowKit Go.Proofs.Bits
set_option linter.unusedVariables false
set_option maxRecDepth 1000000

/-- A frame's bits. -/
def Fr.bits (f : Fr) (ack : Bool) : List UInt8 := stuff f.body ++ flagV true ++ flagV (!ack) ++ [49, 49, 49, 49, 49, 49, 49, 49]
def encV (f : Fr) (ack : Bool) : List UInt8 := if f.chk = 0 then f.bits ack else []
def fldV (f : Fr) : List UInt8 := if f.chk = 0 then f.field else []
theorem body_short (f : Fr) : f.body.length ≤ 118 := by
  have := f.bytes_le
  rw [body_length]
  split <;> omega
theorem stuff_body_length (f : Fr) : (stuff f.body).length ≤ 236 := by
  have h1 := st_length f.body
  have h2 := body_short f
  show (st f.body).1.length ≤ 236
  omega
theorem chk_cases (f : Fr) : f.chk = 0 ∨ f.chk = 1 := by unfold Fr.chk; split <;> simp
theorem ret_str {a b : ByteArray} {x y : Int} (h : a = b) (h2 : x = y) : Ending.returned (.tuple #[.string a, .int .i64 x]) = .returned (.tuple #[.string b, .int .i64 y]) := by rw [h, h2]

section
variable {w w' : World}
theorem Wr.idle {g0 g1 : Nat} (h : w.heap[g1]? = some (.cells #[.pointer none, .slice none 0 0] 79 (0, 0))) (hk : Kp g0 w w') (hq : g1 ≠ g0) : w'.heap[g1]? = some (.cells #[.pointer none, .slice none 0 0] 79 (0, 0)) :=
  hk.2 g1 _ h (fun e => hq (Option.some.inj e)) (fun _ _ e => by cases e)
theorem Wr.fresh {g1 : Nat} (h : w.heap[g1]? = some (.cells #[.pointer none, .slice none 0 0] 79 (0, 0))) : Wr g1 [] w :=
  ⟨_, rfl, Nat.le_refl _, h, .inl rfl, _, rfl, World.ownsRowF_nil _ _ _ _⟩

set_option maxHeartbeats 4000000 in
theorem fField_any (f : Fr) (w : World) :
    Calls Try.prog 15 #[f.val] w fun e w' => e = .returned (.tuple #[.string ⟨(fldV f).toArray⟩, .int .i64 f.chk]) ∧ Below w.heap.size w w' := by
  have HV : Hid (fldV f = if f.chk = 0 then f.field else []) := rfl
  have HC := fCheck_any f
  have fn := Fa.new w f
  have bn : Below w.heap.size w (w.alloc (.cells f.arr 45)) := (Below.refl _ _).alloc (Nat.le_refl _) _
  have sn := size_alloc w (.cells f.arr 45)
  rcases chk_cases f with h0 | h0
  · rw [h0] at HC
    have HV : Hid (fldV f = f.field) := by show fldV f = _; rw [HV.out, if_pos h0]
    have hne : f.field ≠ [] := by
      intro e
      have := field_length f
      rw [e] at this
      simp at this
      split at this <;> omega
    rw [h0]
    generalize fldV f = V at *
    unfold Fr.val
    go_enter Try.func15, Try.ntmps15
    go_wp2_with (refine fn.ld rfl _ rfl rfl ?_)
    refine (HC _).mono ?_
    rintro e w1 ⟨rfl, b1⟩
    have f1 : Fa w.heap.size f w1 := (b1.block _ (by omega)).trans fn
    have B1 := bn.trans (b1.mono (by omega))
    have f2 : Fa w.heap.size f (w1.alloc (.cells #[.pointer none, .slice none 0 0] 79)) := f1.alloc _
    clear fn bn b1 sn HC
    go_wp2_with (refine f2.ld rfl _ rfl rfl ?_)
    have W0 := Wr.new w1
    have s1 := B1.size
    have B2 : Below w.heap.size w (w1.alloc (.cells #[.pointer none, .slice none 0 0] 79)) := B1.alloc s1 _
    generalize w1.alloc (.cells #[.pointer none, .slice none 0 0] 79) = A at *
    generalize w1.heap.size = g0 at *
    refine (wfield_any f h0 W0 (by simp)).mono ?_
    rintro e w2 ⟨rfl, R2, K2⟩
    have B3 := B2.trans (K2.1.mono s1)
    rw [List.nil_append] at R2
    clear f1 f2 B1 B2 W0 K2
    generalize f.field = BD at *
    go_wp2_with fail
    refine (R2.string hne).mono ?_
    rintro e w3 ⟨rfl, R3, K3⟩
    have B4 := B3.trans (K3.1.mono s1)
    clear R2 K3 B3 R3
    go_wp2
    go_ret2
    exact ⟨ret_str (by rw [HV.out]) rfl, B4⟩
  · rw [h0] at HC
    have HV : Hid (fldV f = []) := by show fldV f = _; rw [HV.out, if_neg (by rw [h0]; decide)]
    rw [h0]
    generalize fldV f = V at *
    unfold Fr.val
    go_enter Try.func15, Try.ntmps15
    go_wp2_with (refine fn.ld rfl _ rfl rfl ?_)
    refine (HC _).mono ?_
    rintro e w1 ⟨rfl, b1⟩
    clear fn HC
    go_wp2
    go_ret2
    exact ⟨ret_str (by rw [HV.out]) rfl, bn.trans (b1.mono (by omega))⟩

end
end Go.Proofs.Ytfddoindcmdooaa
