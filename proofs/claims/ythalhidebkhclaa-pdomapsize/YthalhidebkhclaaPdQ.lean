/- What Pack tells, plainly. -/
import Derived.Test.YthalhidebkhclaaPdP
namespace Go.Proofs.Ythalhidebkhclaa
open Go.RowKit Go.Shelf Go.Proofs.Ty
set_option linter.unusedVariables false
set_option maxRecDepth 1000000
set_option linter.unusedSimpArgs false
/-- The bytes of the first k. -/
def catK (its : List Im) (L : List Sl) : Nat → List UInt8
  | 0 => []
  | k + 1 => catK its L k ++ encL its L k
theorem catK_len {its : List Im} {inn : Bool} {L : List Sl} (hv : Vn its) (h : ckC its inn L = 0) : ∀ k, k ≤ L.length → (catK its L k).length = off L k
  | 0, _ => by simp [catK, off, en]
  | k + 1, hk => by
    have e := catK_len hv h k (by omega)
    have e2 := encL_len hv h k hk
    have e4 := (off_ask h k hk).2.2.1
    unfold catK
    rw [List.length_append, e, e2]
    omega
theorem pkB_cat {its : List Im} {inn : Bool} {L : List Sl} (hv : Vn its) (h : ckC its inn L = 0) : ∀ k, k ≤ L.length → pkB its L k = catK its L k ++ List.replicate (off L L.length - off L k) 0
  | 0, _ => by simp [catK, pkB, off, en]
  | k + 1, hk => by
    have e := pkB_cat hv h k (by omega)
    have e1 := catK_len hv h k (by omega)
    have e2 := encL_len hv h k hk
    have e3 := off_mono h (L.length - (k + 1)) (k + 1) (by omega)
    have e4 := (off_ask h k hk).2.2.1
    rw [show k + 1 + (L.length - (k + 1)) = L.length by omega] at e3
    unfold pkB catK lay13
    rw [e, List.take_append_of_le_length (by omega), List.take_of_length_le (by omega), e2, List.drop_append, List.drop_of_length_le (by omega), List.nil_append, e1, List.drop_replicate]
    congr 2
    omega
theorem pk_all {its : List Im} {inn : Bool} {L : List Sl} (hv : Vn its) (h : ckC its inn L = 0) : pkB its L L.length = catK its L L.length := by
  rw [pkB_cat hv h _ (Nat.le_refl _)]
  simp
end Go.Proofs.Ythalhidebkhclaa
