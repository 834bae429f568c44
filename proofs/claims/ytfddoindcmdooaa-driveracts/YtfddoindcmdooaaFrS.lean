/- Contracts of the program's Check, bytesOf and Longest, and of what looks at a text. -/
import Derived.Test.YtfddoindcmdooaaFrame
namespace Go.Proofs.Ytfddoindcmdooaa
open Go.RowKit Go.Proofs.Bits
set_option linter.unusedVariables false
set_option maxRecDepth 1000000

set_option maxHeartbeats 1000000 in
theorem fbytesOf_any (f : Fr) (w : World) :
    Calls Try.prog 47 #[f.val] w fun e w' => e = .returned (.int .i64 f.bytes) ∧ Below w.heap.size w w' := by
  have h2 := f.arr2
  have h3 := f.arr3
  have hlen := f.hlen
  have HB : Hid (f.bytes = if f.rem || decide (f.len < 0) then 0 else if 8 < f.len then 8 else f.len.toNat) := rfl
  unfold Fr.val
  generalize f.arr = A at *
  generalize f.bytes = n at *
  generalize f.rem = rem at *
  generalize f.len = len at *
  clear f
  go_enter Try.func47, Try.ntmps47
  cases rem
  · go_wp2
    go_ret
    refine ⟨ret_int ?_, (Below.refl _ _).alloc (Nat.le_refl _) _⟩
    rw [HB.out]
    simp only [Bool.false_or, decide_eq_true_eq]
    split
    · omega
    · split <;> omega
  · go_wp2
    go_ret
    exact ⟨ret_int (by rw [HB.out]; simp), (Below.refl _ _).alloc (Nat.le_refl _) _⟩

set_option maxHeartbeats 1000000 in
theorem fCheck_any (f : Fr) (w : World) :
    Calls Try.prog 32 #[f.val] w fun e w' => e = .returned (.int .i64 f.chk) ∧ Below w.heap.size w w' := by
  have h0 := f.arr0
  have h1 := f.arr1
  have h3 := f.arr3
  have hid := f.hid
  have hlen := f.hlen
  have HB : Hid (f.chk = if (decide (f.len < 0) || decide (15 < f.len) || decide (536870912 ≤ f.id) || (!f.ext && decide (2048 ≤ f.id))) then 1 else 0) := rfl
  unfold Fr.val
  generalize f.arr = A at *
  generalize f.chk = chk at *
  generalize f.id = id at *
  generalize f.ext = ext at *
  generalize f.len = len at *
  clear f
  go_enter Try.func32, Try.ntmps32
  cases ext
  all_goals
    go_wp2
    all_goals
      go_ret
      refine ⟨ret_int ?_, (Below.refl _ _).alloc (Nat.le_refl _) _⟩
      rw [HB.out]
      first
        | rw [if_pos (by simp; omega)]
        | rw [if_neg (by simp; omega)]

end Go.Proofs.Ytfddoindcmdooaa
