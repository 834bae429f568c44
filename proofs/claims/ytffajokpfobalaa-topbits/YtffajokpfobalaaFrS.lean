/- Contracts of the program's Check, bytesOf and Longest, and of what looks at a text. -/
import Derived.Test.YtffajokpfobalaaFrame
namespace Go.Proofs.Ytffajokpfobalaa
open Go.RowKit Go.Proofs.Bits
set_option linter.unusedVariables false
set_option maxRecDepth 1000000

set_option maxHeartbeats 1000000 in
theorem fbytesOf_any (f : Fr) (w : World) :
    Calls Try.prog 27 #[f.val] w fun e w' => e = .returned (.int .i64 f.bytes) ∧ Below w.heap.size w w' := by
  have h2 := f.arr2
  have h3 := f.arr3
  have hlen := f.hlen
  have HB : Hid (f.bytes = if f.rem || decide (f.len < 0) then 0 else if 8 < f.len then 8 else f.len.toNat) := rfl
  unfold Fr.val
  generalize f.arr = A at *
  generalize f.bytes = n at *
  generalize f.rem = rem at *
  generalize f.len = len at *
  clear f
  go_enter Try.func27, Try.ntmps27
  cases rem
  · go_wp2
    go_ret
    refine ⟨ret_int ?_, (Below.refl _ _).alloc (Nat.le_refl _) _⟩
    rw [HB.out]
    simp only [Bool.false_or, decide_eq_true_eq]
    split
    · omega
    · split <;> omega
  · go_wp2
    go_ret
    exact ⟨ret_int (by rw [HB.out]; simp), (Below.refl _ _).alloc (Nat.le_refl _) _⟩

set_option maxHeartbeats 1000000 in
theorem fCheck_any (f : Fr) (w : World) :
    Calls Try.prog 6 #[f.val] w fun e w' => e = .returned (.int .i64 f.chk) ∧ Below w.heap.size w w' := by
  have h0 := f.arr0
  have h1 := f.arr1
  have h3 := f.arr3
  have hid := f.hid
  have hlen := f.hlen
  have HB : Hid (f.chk = if (decide (f.len < 0) || decide (15 < f.len) || decide (536870912 ≤ f.id) || (!f.ext && decide (2048 ≤ f.id))) then 1 else 0) := rfl
  unfold Fr.val
  generalize f.arr = A at *
  generalize f.chk = chk at *
  generalize f.id = id at *
  generalize f.ext = ext at *
  generalize f.len = len at *
  clear f
  go_enter Try.func6, Try.ntmps6
  cases ext
  all_goals
    go_wp2
    all_goals
      go_ret
      refine ⟨ret_int ?_, (Below.refl _ _).alloc (Nat.le_refl _) _⟩
      rw [HB.out]
      first
        | rw [if_pos (by simp; omega)]
        | rw [if_neg (by simp; omega)]

set_option maxHeartbeats 1000000 in
theorem flook_any (s : ByteArray) (w : World) :
    Calls Try.prog 19 #[.string s] w fun e w' => e = .returned (.int .i64 (err s.data.toList)) ∧ Below w.heap.size w w' := by
  by_cases hl : 65536 < s.size
  · have HE : Hid (err s.data.toList = 2) := by show err _ = _; simp [err, hl]
    go_enter Try.func19, Try.ntmps19
    go_wp2
    go_ret
    exact ⟨ret_int HE.out.symm, Below.refl _ _⟩
  · by_cases h0 : err s.data.toList = 0
    · have HE : Hid (err s.data.toList = 0) := h0
      have HV := Valid_any s
      rw [h0] at HV
      clear h0
      go_enter Try.func19, Try.ntmps19
      go_wp2_with fail
      refine (HV _).mono ?_
      rintro e w1 ⟨rfl, b1⟩
      go_wp2
      go_ret
      exact ⟨ret_int HE.out.symm, b1⟩
    · have HE : Hid (err s.data.toList = 8) := by
        show err _ = _
        unfold err at h0 ⊢
        rw [if_neg (by rw [size_len]; exact hl)] at h0 ⊢
        split at h0
        · exact absurd rfl h0
        · rename_i h; rw [if_neg h]
      have HV := Valid_any s
      rw [show (err s.data.toList == 0) = false by simp [h0]] at HV
      clear h0
      go_enter Try.func19, Try.ntmps19
      go_wp2_with fail
      refine (HV _).mono ?_
      rintro e w1 ⟨rfl, b1⟩
      go_wp2
      go_ret
      exact ⟨ret_int HE.out.symm, b1⟩
end Go.Proofs.Ytffajokpfobalaa
