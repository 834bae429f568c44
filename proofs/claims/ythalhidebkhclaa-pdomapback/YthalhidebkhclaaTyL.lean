/- The small living call of every statement on values answers true. -/
import Derived.Test.YthalhidebkhclaaTy7
namespace Go.Proofs.Ythalhidebkhclaa
open Go.RowKit Go.Proofs.Ty
set_option linter.unusedVariables false
set_option maxRecDepth 1000000
/-- A value that was told is laid down beside what stands. -/
theorem keepV {q : Nat} {v : Vl} {B : Nat} {w x : World} (f : Va q v x) (b : Below B w x) (hB : B ≤ x.heap.size) (u : Vl) :
    Va x.heap.size Vl.nul (x.alloc (.cells #[.int .i64 0, .int .u64 0, .string ⟨#[]⟩] 42)) ∧ Va x.heap.size u ((x.alloc (.cells #[.int .i64 0, .int .u64 0, .string ⟨#[]⟩] 42)).setRow x.heap.size u.arr) ∧ Va q v ((x.alloc (.cells #[.int .i64 0, .int .u64 0, .string ⟨#[]⟩] 42)).setRow x.heap.size u.arr)
      ∧ Below B w ((x.alloc (.cells #[.int .i64 0, .int .u64 0, .string ⟨#[]⟩] 42)).setRow x.heap.size u.arr) ∧ Below x.heap.size x ((x.alloc (.cells #[.int .i64 0, .int .u64 0, .string ⟨#[]⟩] 42)).setRow x.heap.size u.arr) := by
  have gn : Va x.heap.size Vl.nul (x.alloc (.cells #[.int .i64 0, .int .u64 0, .string ⟨#[]⟩] 42)) := Va.new x Vl.nul
  have hl := f.lt
  exact ⟨gn, gn.row u, (setRow_other _ _ _ _ (by omega)).trans (f.alloc _), below_row (b.alloc hB _) hB (by rw [size_alloc]; omega) _, below_row ((Below.refl _ _).alloc (Nat.le_refl _) _) (Nat.le_refl _) (by rw [size_alloc]; omega) _⟩
def v0 : Vl := ⟨3, 18446744073709551614, ⟨#[]⟩, by decide, by decide, by decide⟩
theorem live_chk : v0.chk = 0 := by decide +kernel
theorem live_enc : v0.enc = [254, 255] := by decide +kernel
theorem live_dec : decW 3 [254, 255] = v0 := (vlB_iff _ _).1 (by decide +kernel)
theorem live_decE : decE 3 [254, 255] = 0 := by decide +kernel
end Go.Proofs.Ythalhidebkhclaa
