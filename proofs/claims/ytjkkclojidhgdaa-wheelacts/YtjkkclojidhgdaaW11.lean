/- Add and Every of a wheel, where the timer is not taken. -/
import Derived.Test.YtjkkclojidhgdaaW10
namespace Go.Proofs.Ytjkkclojidhgdaa
open Go.RowKit Go.Maps Go.WideMaps
set_option linter.unusedVariables false
set_option maxRecDepth 1000000
set_option linter.unusedSimpArgs false
section
variable {g now given n : Nat} {ts ls : List Tm} {bt S : Nat} {sm : Nat → Option Nat} {w : World}
theorem take_full (h : Wh g now given n ts ls bt S sm w) (hl : ts.length = 1024) (due per : Nat) (what : Int) :
    Calls Try.prog 27 #[.pointer (some ⟨g, 0, none⟩), .agg #[.int .u64 due, .int .u64 per, .int .i64 what]] w fun e w' => e = .returned (.tuple #[.int .i64 0, .int .i64 2]) ∧ Below w.heap.size w w' := by
  obtain ⟨wa, hwa⟩ : ∃ x, w.alloc (.cells #[.int .u64 due, .int .u64 per, .int .i64 what] 65) = x := ⟨_, rfl⟩
  have ba : Below w.heap.size w wa := by rw [← hwa]; exact (Below.refl _ _).alloc (Nat.le_refl _) _
  have h1 := h.below ba
  obtain ⟨c0, c1, c2, c3⟩ := h1.c
  have hlen := h1.tim.len und_mapt
  rw [hl] at hlen
  clear h h1 hl
  go_enter Try.func27, Try.ntmps27
  go_wp2
  go_ret2
  exact ⟨rfl, ba⟩
set_option maxHeartbeats 1000000 in
theorem Every_full (h : Wh g now given n ts ls bt S sm w) (first per : Nat) (what : Int) (f1 : 1 ≤ first ∧ first ≤ 4294967296) (f2 : 1 ≤ per ∧ per ≤ 4294967296) (hl : ts.length = 1024) :
    Calls Try.prog 14 #[.pointer (some ⟨g, 0, none⟩), .int .u64 first, .int .u64 per, .int .i64 what] w fun e w' => e = .returned (.tuple #[.int .i64 0, .int .i64 2]) ∧ Below w.heap.size w w' := by
  obtain ⟨c0, c1, c2, c3⟩ := h.c
  have hw1 := h.w1
  have hF1 := fits_any first w
  have hF2 := fits_any per w
  rw [decide_eq_true f1] at hF1
  rw [decide_eq_true f2] at hF2
  have hT := take_full h hl (now + first) per what
  have hadd : (now : Int) + (first : Int) = ((now + first : Nat) : Int) := by omega
  have hb : now + first < 9223372036854775808 := by omega
  generalize hD : now + first = D at *
  clear h hw1 hl hD
  go_enter Try.func14, Try.ntmps14
  go_wp2_with fail
  refine hF1.mono ?_
  rintro e w1 ⟨rfl, rfl⟩
  clear hF1
  go_wp2_with fail
  refine hF2.mono ?_
  rintro e w2 ⟨rfl, rfl⟩
  clear hF2
  go_wp2_with fail
  refine hT.mono ?_
  rintro e w3 ⟨rfl, HX⟩
  clear hT
  go_wp2
  go_ret2
  exact ⟨rfl, HX⟩
set_option maxHeartbeats 1000000 in
theorem Add_full (h : Wh g now given n ts ls bt S sm w) (after : Nat) (what : Int) (f1 : 1 ≤ after ∧ after ≤ 4294967296) (hl : ts.length = 1024) :
    Calls Try.prog 13 #[.pointer (some ⟨g, 0, none⟩), .int .u64 after, .int .i64 what] w fun e w' => e = .returned (.tuple #[.int .i64 0, .int .i64 2]) ∧ Below w.heap.size w w' := by
  obtain ⟨c0, c1, c2, c3⟩ := h.c
  have hw1 := h.w1
  have hF1 := fits_any after w
  rw [decide_eq_true f1] at hF1
  have hT' : Calls Try.prog 27 #[.pointer (some ⟨g, 0, none⟩), .agg #[.int .u64 ((now + after : Nat) : Int), .int .u64 0, .int .i64 what]] w _ := take_full h hl (now + after) 0 what
  have hadd : (now : Int) + (after : Int) = ((now + after : Nat) : Int) := by omega
  have hb : now + after < 9223372036854775808 := by omega
  generalize hD : now + after = D at *
  clear h hw1 hl hD
  go_enter Try.func13, Try.ntmps13
  go_wp2_with fail
  refine hF1.mono ?_
  rintro e w1 ⟨rfl, rfl⟩
  clear hF1
  go_wp2_with fail
  refine hT'.mono ?_
  rintro e w3 ⟨rfl, HX⟩
  clear hT'
  go_wp2
  go_ret2
  exact ⟨rfl, HX⟩
theorem Every_arg1 (v : Value) (first : Nat) (per : Value) (what : Value) (f1 : ¬ (1 ≤ first ∧ first ≤ 4294967296)) :
    Calls Try.prog 14 #[v, .int .u64 first, per, what] w fun e w' => e = .returned (.tuple #[.int .i64 0, .int .i64 1]) ∧ w' = w := by
  have hF1 := fits_any first w
  rw [decide_eq_false f1] at hF1
  go_enter Try.func14, Try.ntmps14
  go_wp2_with fail
  refine hF1.mono ?_
  rintro e w1 ⟨rfl, rfl⟩
  clear hF1
  go_wp2
  go_ret2
  exact ⟨rfl, rfl⟩
theorem Every_arg2 (v : Value) (first per : Nat) (what : Value) (f1 : 1 ≤ first ∧ first ≤ 4294967296) (f2 : ¬ (1 ≤ per ∧ per ≤ 4294967296)) :
    Calls Try.prog 14 #[v, .int .u64 first, .int .u64 per, what] w fun e w' => e = .returned (.tuple #[.int .i64 0, .int .i64 1]) ∧ w' = w := by
  have hF1 := fits_any first w
  have hF2 := fits_any per w
  rw [decide_eq_true f1] at hF1
  rw [decide_eq_false f2] at hF2
  go_enter Try.func14, Try.ntmps14
  go_wp2_with fail
  refine hF1.mono ?_
  rintro e w1 ⟨rfl, rfl⟩
  clear hF1
  go_wp2_with fail
  refine hF2.mono ?_
  rintro e w2 ⟨rfl, rfl⟩
  clear hF2
  go_wp2
  go_ret2
  exact ⟨rfl, rfl⟩
theorem Add_arg (v : Value) (after : Nat) (what : Value) (f1 : ¬ (1 ≤ after ∧ after ≤ 4294967296)) :
    Calls Try.prog 13 #[v, .int .u64 after, what] w fun e w' => e = .returned (.tuple #[.int .i64 0, .int .i64 1]) ∧ w' = w := by
  have hF1 := fits_any after w
  rw [decide_eq_false f1] at hF1
  go_enter Try.func13, Try.ntmps13
  go_wp2_with fail
  refine hF1.mono ?_
  rintro e w1 ⟨rfl, rfl⟩
  clear hF1
  go_wp2
  go_ret2
  exact ⟨rfl, rfl⟩
end
end Go.Proofs.Ytjkkclojidhgdaa
