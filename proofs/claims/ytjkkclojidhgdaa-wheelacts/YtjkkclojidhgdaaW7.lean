/- Add and Every of a wheel, where the timer is taken. -/
import Derived.Test.YtjkkclojidhgdaaW6
namespace Go.Proofs.Ytjkkclojidhgdaa
open Go.RowKit Go.Maps Go.WideMaps
set_option linter.unusedVariables false
set_option maxRecDepth 1000000
set_option linter.unusedSimpArgs false
section
variable {g now given n : Nat} {ts ls : List Tm} {bt S : Nat} {sm : Nat → Option Nat} {w : World}
set_option maxHeartbeats 1000000 in
theorem Every_ok (h : Wh g now given n ts ts bt S sm w) (first per : Nat) (what : Int) (f1 : 1 ≤ first ∧ first ≤ 4294967296) (f2 : 1 ≤ per ∧ per ≤ 4294967296) (hl : ts.length < 1024) (hg : given < 2305843009213693952) :
    Calls Try.prog 14 #[.pointer (some ⟨g, 0, none⟩), .int .u64 first, .int .u64 per, .int .i64 what] w fun e w' => e = .returned (.tuple #[.int .i64 ((given + 1 : Nat) : Int), .int .i64 0]) ∧ ∃ sm', Wh g now (given + 1) n (ts ++ [⟨given + 1, now + first, per, what, w.heap.size⟩]) (ts ++ [⟨given + 1, now + first, per, what, w.heap.size⟩]) bt S sm' w' ∧ Kw (OwW g bt S n sm) w w' ∧ More n sm sm' w := by
  obtain ⟨c0, c1, c2, c3⟩ := h.c
  have hw1 := h.w1
  have hF1 := fits_any first w
  have hF2 := fits_any per w
  rw [decide_eq_true f1] at hF1
  rw [decide_eq_true f2] at hF2
  have hT := take_any h (now + first) per what (by omega) hl hg
  have hadd : (now : Int) + (first : Int) = ((now + first : Nat) : Int) := by omega
  have hb : now + first < 9223372036854775808 := by omega
  generalize hD : now + first = D at *
  generalize hG : given + 1 = G1 at *
  clear h hw1 hl hg hD hG
  go_enter Try.func14, Try.ntmps14
  go_wp2_with fail
  refine hF1.mono ?_
  rintro e w1 ⟨rfl, rfl⟩
  clear hF1
  go_wp2_with fail
  refine hF2.mono ?_
  rintro e w2 ⟨rfl, rfl⟩
  clear hF2
  go_wp2_with fail
  refine hT.mono ?_
  rintro e w3 ⟨rfl, HX0⟩
  have HX : Hid (∃ sm', Wh g now G1 n (ts ++ [⟨G1, D, per, what, w2.heap.size⟩]) (ts ++ [⟨G1, D, per, what, w2.heap.size⟩]) bt S sm' w3 ∧ Kw (OwW g bt S n sm) w2 w3 ∧ More n sm sm' w2) := HX0
  clear hT HX0
  go_wp2
  go_ret2
  exact ⟨rfl, HX.out⟩
set_option maxHeartbeats 1000000 in
theorem Add_ok (h : Wh g now given n ts ts bt S sm w) (after : Nat) (what : Int) (f1 : 1 ≤ after ∧ after ≤ 4294967296) (hl : ts.length < 1024) (hg : given < 2305843009213693952) :
    Calls Try.prog 13 #[.pointer (some ⟨g, 0, none⟩), .int .u64 after, .int .i64 what] w fun e w' => e = .returned (.tuple #[.int .i64 ((given + 1 : Nat) : Int), .int .i64 0]) ∧ ∃ sm', Wh g now (given + 1) n (ts ++ [⟨given + 1, now + after, 0, what, w.heap.size⟩]) (ts ++ [⟨given + 1, now + after, 0, what, w.heap.size⟩]) bt S sm' w' ∧ Kw (OwW g bt S n sm) w w' ∧ More n sm sm' w := by
  obtain ⟨c0, c1, c2, c3⟩ := h.c
  have hw1 := h.w1
  have hF1 := fits_any after w
  rw [decide_eq_true f1] at hF1
  have hT := take_any h (now + after) 0 what (by omega) hl hg
  have hT' : Calls Try.prog 27 #[.pointer (some ⟨g, 0, none⟩), .agg #[.int .u64 ((now + after : Nat) : Int), .int .u64 0, .int .i64 what]] w _ := hT
  have hadd : (now : Int) + (after : Int) = ((now + after : Nat) : Int) := by omega
  have hb : now + after < 9223372036854775808 := by omega
  clear hT
  generalize hD : now + after = D at *
  generalize hG : given + 1 = G1 at *
  clear h hw1 hl hg hD hG
  go_enter Try.func13, Try.ntmps13
  go_wp2_with fail
  refine hF1.mono ?_
  rintro e w1 ⟨rfl, rfl⟩
  clear hF1
  go_wp2_with fail
  refine hT'.mono ?_
  rintro e w3 ⟨rfl, HX0⟩
  have HX : Hid (∃ sm', Wh g now G1 n (ts ++ [⟨G1, D, 0, what, w1.heap.size⟩]) (ts ++ [⟨G1, D, 0, what, w1.heap.size⟩]) bt S sm' w3 ∧ Kw (OwW g bt S n sm) w1 w3 ∧ More n sm sm' w1) := HX0
  clear hT' HX0
  go_wp2
  go_ret2
  exact ⟨rfl, HX.out⟩
end
end Go.Proofs.Ytjkkclojidhgdaa
