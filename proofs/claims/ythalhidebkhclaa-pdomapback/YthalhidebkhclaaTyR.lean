/- Contracts: Compare; which of two values is greater, in plain facts. -/
import Derived.Test.YthalhidebkhclaaTy3
import Derived.Sort.Walk0
namespace Go.Proofs.Ythalhidebkhclaa
open Go.RowKit Go.Proofs.Ty
set_option linter.unusedVariables false
set_option maxRecDepth 1000000
def cmpI (x y : Int) : Int := if x < y then -1 else if y < x then 1 else 0
def cmpL (x y : List UInt8) : Int := if x < y then -1 else if y < x then 1 else 0
theorem NaNu_any (x : Int) (w : World) : Calls Try.prog 94 #[.int .u64 x] w fun e w' => e = .returned (.bool false) ∧ w' = w := by
  go_enter Try.func94, Try.ntmps94
  go_wp2
  go_ret
  exact ⟨ret_bool (by simp), rfl⟩
theorem NaNi_any (x : Int) (w : World) : Calls Try.prog 95 #[.int .i64 x] w fun e w' => e = .returned (.bool false) ∧ w' = w := by
  go_enter Try.func95, Try.ntmps95
  go_wp2
  go_ret
  exact ⟨ret_bool (by simp), rfl⟩
theorem NaNs_any (x : ByteArray) (w : World) : Calls Try.prog 96 #[.string x] w fun e w' => e = .returned (.bool false) ∧ w' = w := by
  go_enter Try.func96, Try.ntmps96
  go_wp2
  go_ret
  exact ⟨ret_bool (by simp), rfl⟩
theorem Cmpu_any (x y : Int) (w : World) : Calls Try.prog 85 #[.int .u64 x, .int .u64 y] w fun e w' => e = .returned (.int .i64 (cmpI x y)) ∧ w' = w := by
  have hx := NaNu_any x
  have hy := NaNu_any y
  have HV : Hid (cmpI x y = if x < y then -1 else if y < x then 1 else 0) := rfl
  generalize cmpI x y = V at *
  go_enter Try.func85, Try.ntmps85
  by_cases h1 : x < y
  · have d1 : decide (x < y) = true := decide_eq_true h1
    have e1 := hidOf (show V = -1 by rw [HV.out, if_pos h1])
    go_wp2_with (first | (go_at_call 94; refine (hx _).mono ?_; rintro e w1 ⟨rfl, rfl⟩) | (go_at_call 94; refine (hy _).mono ?_; rintro e w1 ⟨rfl, rfl⟩))
    go_ret
    exact ⟨ret_int e1.out.symm, rfl⟩
  · have d1 : decide (x < y) = false := decide_eq_false h1
    by_cases h2 : y < x
    · have d2 : decide (y < x) = true := decide_eq_true h2
      have e1 := hidOf (show V = 1 by rw [HV.out, if_neg h1, if_pos h2])
      go_wp2_with (first | (go_at_call 94; refine (hx _).mono ?_; rintro e w1 ⟨rfl, rfl⟩) | (go_at_call 94; refine (hy _).mono ?_; rintro e w1 ⟨rfl, rfl⟩))
      go_ret
      exact ⟨ret_int e1.out.symm, rfl⟩
    · have d2 : decide (y < x) = false := decide_eq_false h2
      have e1 := hidOf (show V = 0 by rw [HV.out, if_neg h1, if_neg h2])
      go_wp2_with (first | (go_at_call 94; refine (hx _).mono ?_; rintro e w1 ⟨rfl, rfl⟩) | (go_at_call 94; refine (hy _).mono ?_; rintro e w1 ⟨rfl, rfl⟩))
      go_ret
      exact ⟨ret_int e1.out.symm, rfl⟩
theorem Cmpi_any (x y : Int) (w : World) : Calls Try.prog 86 #[.int .i64 x, .int .i64 y] w fun e w' => e = .returned (.int .i64 (cmpI x y)) ∧ w' = w := by
  have hx := NaNi_any x
  have hy := NaNi_any y
  have HV : Hid (cmpI x y = if x < y then -1 else if y < x then 1 else 0) := rfl
  generalize cmpI x y = V at *
  go_enter Try.func86, Try.ntmps86
  by_cases h1 : x < y
  · have d1 : decide (x < y) = true := decide_eq_true h1
    have e1 := hidOf (show V = -1 by rw [HV.out, if_pos h1])
    go_wp2_with (first | (go_at_call 95; refine (hx _).mono ?_; rintro e w1 ⟨rfl, rfl⟩) | (go_at_call 95; refine (hy _).mono ?_; rintro e w1 ⟨rfl, rfl⟩))
    go_ret
    exact ⟨ret_int e1.out.symm, rfl⟩
  · have d1 : decide (x < y) = false := decide_eq_false h1
    by_cases h2 : y < x
    · have d2 : decide (y < x) = true := decide_eq_true h2
      have e1 := hidOf (show V = 1 by rw [HV.out, if_neg h1, if_pos h2])
      go_wp2_with (first | (go_at_call 95; refine (hx _).mono ?_; rintro e w1 ⟨rfl, rfl⟩) | (go_at_call 95; refine (hy _).mono ?_; rintro e w1 ⟨rfl, rfl⟩))
      go_ret
      exact ⟨ret_int e1.out.symm, rfl⟩
    · have d2 : decide (y < x) = false := decide_eq_false h2
      have e1 := hidOf (show V = 0 by rw [HV.out, if_neg h1, if_neg h2])
      go_wp2_with (first | (go_at_call 95; refine (hx _).mono ?_; rintro e w1 ⟨rfl, rfl⟩) | (go_at_call 95; refine (hy _).mono ?_; rintro e w1 ⟨rfl, rfl⟩))
      go_ret
      exact ⟨ret_int e1.out.symm, rfl⟩
theorem toL (A : ByteArray) : A.toList = A.data.toList := by
  have h : A = (⟨A.data.toList.toArray⟩ : ByteArray) := by cases A; simp
  rw [h, Lib.toList_data]
theorem run_gtr (A B : ByteArray) (x : World) : (binOp BinOp.gtr 9 (.string A) (.string B)).run Try.prog x = .ok (.bool (decide (B.data.toList < A.data.toList))) x := by
  have e : decide (B.data.toList < A.data.toList) = !(Op.bytesLess A.toList B.toList || A.toList == B.toList) := by
    rw [Go.Proofs.bytesLess_eq, toL, toL, Bool.eq_iff_iff]
    simp
    constructor
    · intro h; exact ⟨Std.le_of_lt h, fun e => Std.lt_irrefl (e ▸ h)⟩
    · rintro ⟨h1, h2⟩; exact Std.lt_of_le_of_ne h1 (fun e => h2 (by rw [e]))
  rw [e]
  first
  | rfl
  | simp [binOp, run_underlying Try.underlying9, Op.stringBin, go_sem]
  | simp [binOp, go_sem]
theorem less_eq (A B : ByteArray) : Op.bytesLess A.toList B.toList = decide (A.data.toList < B.data.toList) := by rw [Go.Proofs.bytesLess_eq, toL, toL]
theorem Cmps_any (x y : ByteArray) (w : World) : Calls Try.prog 87 #[.string x, .string y] w fun e w' => e = .returned (.int .i64 (cmpL x.data.toList y.data.toList)) ∧ w' = w := by
  have hx := NaNs_any x
  have hy := NaNs_any y
  have HV : Hid (cmpL x.data.toList y.data.toList = if x.data.toList < y.data.toList then -1 else if y.data.toList < x.data.toList then 1 else 0) := rfl
  have hl := less_eq x y
  have hg := run_gtr x y
  generalize cmpL x.data.toList y.data.toList = V at *
  go_enter Try.func87, Try.ntmps87
  by_cases h1 : x.data.toList < y.data.toList
  · have d1 : Op.bytesLess x.toList y.toList = true := hl.trans (decide_eq_true h1)
    have e1 := hidOf (show V = -1 by rw [HV.out, if_pos h1])
    clear hl
    go_wp2_with (first | (go_at_call 96; refine (hx _).mono ?_; rintro e w1 ⟨rfl, rfl⟩) | (go_at_call 96; refine (hy _).mono ?_; rintro e w1 ⟨rfl, rfl⟩))
    go_ret
    exact ⟨ret_int e1.out.symm, rfl⟩
  · have d1 : Op.bytesLess x.toList y.toList = false := hl.trans (decide_eq_false h1)
    clear hl
    by_cases h2 : y.data.toList < x.data.toList
    · have d2 : decide (y.data.toList < x.data.toList) = true := decide_eq_true h2
      have e1 := hidOf (show V = 1 by rw [HV.out, if_neg h1, if_pos h2])
      rw [d2] at hg
      go_wp2_with (first | (go_at_call 96; refine (hx _).mono ?_; rintro e w1 ⟨rfl, rfl⟩) | (go_at_call 96; refine (hy _).mono ?_; rintro e w1 ⟨rfl, rfl⟩))
      go_ret
      exact ⟨ret_int e1.out.symm, rfl⟩
    · have d2 : decide (y.data.toList < x.data.toList) = false := decide_eq_false h2
      have e1 := hidOf (show V = 0 by rw [HV.out, if_neg h1, if_neg h2])
      rw [d2] at hg
      go_wp2_with (first | (go_at_call 96; refine (hx _).mono ?_; rintro e w1 ⟨rfl, rfl⟩) | (go_at_call 96; refine (hy _).mono ?_; rintro e w1 ⟨rfl, rfl⟩))
      go_ret
      exact ⟨ret_int e1.out.symm, rfl⟩
end Go.Proofs.Ythalhidebkhclaa
