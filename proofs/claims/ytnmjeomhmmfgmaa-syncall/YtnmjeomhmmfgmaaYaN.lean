/- What a consumer takes of a producer, some in a row lost: plainly. -/
import Derived.Test.YtnmjeomhmmfgmaaYaM
namespace Go.Proofs.Ytnmjeomhmmfgmaa
open Go.RowKit
set_option linter.unusedVariables false
set_option maxRecDepth 1000000

def Li (f m i : Nat) : Nat := if i ≤ f + 1 then i else if i ≤ f + m + 1 then f + 1 else i
def Wi (f m i : Nat) : Nat := if 0 < m ∧ f + m + 1 < i then 1 else 0
structure YI (en f m i : Nat) (s : Cs) : Prop where
  ok : s.ok
  ov : s.ov = en
  cy : s.cyc ≤ i
  z : i = 0 → s.cyc = 0
  p : 0 < i → 0 < s.cyc ∧ s.last = cnt en (Li f m i)
  wr : s.wr = Wi f m i
theorem cnt_succ {en : Nat} (h : 2 ≤ en) (t : Nat) : cnt en (t + 1) = t % en + 1 := by
  unfold cnt
  rw [if_neg (by omega), if_neg (by omega), Nat.add_sub_cancel]
section
variable {en f m i : Nat} {s : Cs}
theorem yi_lost (h : YI en f m i s) (h1 : f < i) (h2 : i ≤ f + m) : YI en f m (i + 1) s := by
  refine ⟨h.ok, h.ov, by have := h.cy; omega, by omega, fun _ => ?_, ?_⟩
  · have := h.p (by omega)
    refine ⟨this.1, this.2.trans ?_⟩
    congr 1
    unfold Li
    repeat' split
    all_goals omega
  · rw [h.wr]
    unfold Wi
    rw [if_neg (by omega), if_neg (by omega)]
theorem yi_fits (h : YI en f m i s) (he : 2 ≤ en) : fits14 s.ov (cnt en (i + 1) : Nat) = true := by
  rw [h.ov, cnt_succ he]
  have := Nat.mod_lt i (show 0 < en by omega)
  unfold fits14
  simp
  omega
theorem yi_step (h : YI en f m i s) (he : 2 ≤ en) (h9 : i < 4611686018427387000) (hn : ¬ (f < i ∧ i ≤ f + m)) (b : Bool) (hb : s.bad (cnt en (i + 1) : Nat) = b) (hw : (if b then 1 else 0) + Wi f m i = Wi f m (i + 1)) :
    s.tells (cnt en (i + 1) : Nat) = (if b then 6 else 0) ∧ YI en f m (i + 1) (s.take (cnt en (i + 1) : Nat)) := by
  have hf := yi_fits h he
  have hl := Cs.ok_take h.ok (cnt en (i + 1) : Nat) (by have := h.cy; omega)
  refine ⟨by unfold Cs.tells; rw [if_pos hf, hb], hl.1, ?_, ?_, by omega, fun _ => ?_, ?_⟩
  · unfold Cs.take; rw [if_pos hf]; exact h.ov
  · have := h.cy; omega
  · unfold Cs.take; rw [if_pos hf]
    refine ⟨by simp, ?_⟩
    simp only [Int.toNat_natCast]
    congr 1
    unfold Li
    by_cases e : i + 1 ≤ f + 1
    · rw [if_pos e]
    · rw [if_neg e]
      by_cases e2 : i + 1 ≤ f + m + 1
      · omega
      · rw [if_neg e2]
  · unfold Cs.take; rw [if_pos hf, hb]
    simp only
    rw [← hw, h.wr]
    cases b <;> simp <;> omega
theorem yi_ok (h : YI en f m i s) (he : 2 ≤ en) (h9 : i < 4611686018427387000) (hn : ¬ (f < i ∧ i ≤ f + m)) (hx : ¬ (0 < m ∧ i = f + m + 1)) :
    s.tells (cnt en (i + 1) : Nat) = 0 ∧ YI en f m (i + 1) (s.take (cnt en (i + 1) : Nat)) := by
  refine yi_step h he h9 hn false ?_ ?_
  · unfold Cs.bad
    by_cases h0 : i = 0
    · rw [h.z h0]; simp
    · obtain ⟨hp, hlast⟩ := h.p (by omega)
      unfold Cs.next
      rw [if_neg (by omega), hlast, h.ov, ← cnt_next]
      have e : Li f m i = i := by
        unfold Li
        by_cases e : i ≤ f + 1
        · rw [if_pos e]
        · rw [if_neg e, if_neg (by omega)]
      rw [e]
      simp
  · unfold Wi
    simp only [Bool.false_eq_true, if_false]
    repeat' split
    all_goals omega
theorem yi_bad (h : YI en f m i s) (he : 2 ≤ en) (h9 : i < 4611686018427387000) (hm : m < en - 1) (h0 : 0 < m) (hx : i = f + m + 1) :
    s.tells (cnt en (i + 1) : Nat) = 6 ∧ YI en f m (i + 1) (s.take (cnt en (i + 1) : Nat)) := by
  refine yi_step h he h9 (by omega) true ?_ ?_
  · obtain ⟨hp, hlast⟩ := h.p (by omega)
    unfold Cs.bad Cs.next
    rw [if_neg (by omega), hlast, h.ov, ← cnt_next]
    have e : Li f m i = f + 1 := by
      unfold Li
      rw [if_neg (by omega), if_pos (by omega)]
    rw [e, cnt_succ he, cnt_succ he, hx]
    have hne : (f + m + 1) % en ≠ (f + 1) % en := fun e => by
      have := Nat.sub_mod_eq_zero_of_mod_eq e
      rw [show f + m + 1 - (f + 1) = m by omega, Nat.mod_eq_of_lt (by omega)] at this
      omega
    generalize (f + m + 1) % en = A at *
    generalize (f + 1) % en = B at *
    simp
    omega
  · unfold Wi
    simp only [if_true]
    repeat' split
    all_goals omega
theorem yi_zero (he : 2 ≤ en) (hm : en ≤ 240) : YI en f m 0 ⟨en, 0, 0, 0, 0, 0⟩ := by
  refine ⟨⟨hm, by simp, by simp, by simp, by simp, by simp⟩, rfl, by simp, fun _ => rfl, fun h => by omega, ?_⟩
  unfold Wi
  rw [if_neg (by omega)]
theorem ps_one {P en t : Nat} (hP : 1 ≤ P) : (⟨P, en, true, 0, t⟩ : Ps).em P = [(cnt en (t + 1) : Int)] ∧ (⟨P, en, true, 0, t⟩ : Ps).tk P = ⟨P, en, true, 0, t + 1⟩ := by
  have h1 : P / P = 1 := Nat.div_self (by omega)
  simp [Ps.em, Ps.tk, h1]
end
end Go.Proofs.Ytnmjeomhmmfgmaa
