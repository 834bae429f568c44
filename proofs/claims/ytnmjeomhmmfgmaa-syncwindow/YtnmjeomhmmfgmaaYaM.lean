/- A producer and a consumer of a beat, as plain functions on numbers. -/
import Derived.WalkKit
namespace Go.Proofs.Ytnmjeomhmmfgmaa
open Go.RowKit
set_option linter.unusedVariables false
set_option maxRecDepth 1000000

/-- A producer: its period, where its counter ends, whether it goes, ticks since the last one, how many it told. -/
structure Ps where
  per : Nat
  ov : Nat
  on : Bool
  went : Nat
  told : Nat
/-- The counter of the t-th one. -/
def cnt (ov t : Nat) : Nat := if ov = 0 then 0 else if t = 0 then 0 else (t - 1) % ov + 1
def nxt (ov c : Nat) : Nat := if ov = 0 then 0 else c % ov + 1
def ovO (n : Int) : Bool := decide (n = 0) || decide (2 ≤ n) && decide (n ≤ 240)
def Ps.ok (s : Ps) : Prop := 1 ≤ s.per ∧ s.per ≤ 4294967296 ∧ s.ov ≤ 240 ∧ s.went < s.per
def Ps.left (s : Ps) : Nat := if s.on then s.per - s.went else 0
def Ps.start (b : Bool) (s : Ps) : Ps := if b then (if s.on then s else ⟨s.per, s.ov, true, 0, 0⟩) else ⟨s.per, s.ov, false, s.went, s.told⟩
def Ps.tk (n : Nat) (s : Ps) : Ps := if s.on then ⟨s.per, s.ov, true, (s.went + n) % s.per, s.told + (s.went + n) / s.per⟩ else s
def Ps.em (n : Nat) (s : Ps) : List Int := if s.on then (List.range ((s.went + n) / s.per)).map fun i => (cnt s.ov (s.told + i + 1) : Int) else []
theorem cnt_next (ov t : Nat) : cnt ov (t + 1) = nxt ov (cnt ov t) := by
  unfold cnt nxt
  by_cases h : ov = 0
  · simp [h]
  · by_cases ht : t = 0
    · simp [h, ht]
    · have e1 : (t - 1 + 1) = t := by omega
      simp only [h, ht, if_false, Nat.succ_ne_zero, Nat.add_sub_cancel]
      rw [Nat.mod_add_mod, e1]
theorem cnt_le (ov t : Nat) : cnt ov t ≤ ov := by
  unfold cnt
  split
  · omega
  · split
    · omega
    · exact Nat.mod_lt _ (by omega)
theorem Ps.tk_small {s : Ps} {n : Nat} (ho : s.on = true) (h : n < s.per - s.went) : s.tk n = ⟨s.per, s.ov, true, s.went + n, s.told⟩ ∧ s.em n = [] := by
  have h1 : (s.went + n) / s.per = 0 := Nat.div_eq_of_lt (by omega)
  have h2 : (s.went + n) % s.per = s.went + n := Nat.mod_eq_of_lt (by omega)
  simp [Ps.tk, Ps.em, ho, h1, h2]
theorem Ps.tk_big {s : Ps} {n : Nat} (ho : s.on = true) (hk : s.went < s.per) (h : s.per - s.went ≤ n) :
    s.tk n = Ps.tk (n - (s.per - s.went)) ⟨s.per, s.ov, true, 0, s.told + 1⟩ ∧ s.em n = (cnt s.ov (s.told + 1) : Int) :: Ps.em (n - (s.per - s.went)) ⟨s.per, s.ov, true, 0, s.told + 1⟩ := by
  obtain ⟨m, rfl⟩ : ∃ m, n = m + (s.per - s.went) := ⟨n - (s.per - s.went), by omega⟩
  have e : s.went + (m + (s.per - s.went)) = m + s.per := by omega
  have h1 : (m + s.per) / s.per = m / s.per + 1 := Nat.add_div_right _ (by omega)
  have h2 : (m + s.per) % s.per = m % s.per := Nat.add_mod_right _ _
  simp only [Ps.tk, Ps.em, ho, e, h1, h2, Nat.add_sub_cancel, Nat.zero_add, if_true]
  refine ⟨by simp; omega, ?_⟩
  rw [List.range_succ_eq_map]
  simp
  intro a ha
  rw [show s.told + 1 + a + 1 = s.told + (a + 1) + 1 by omega]
theorem Ps.tk_one {s : Ps} {m : Nat} (ho : s.on = true) (hk : s.went < s.per) (h : s.went + 1 = s.per) :
    s.tk (m + 1) = Ps.tk m ⟨s.per, s.ov, true, 0, s.told + 1⟩ ∧ s.em (m + 1) = (cnt s.ov (s.told + 1) : Int) :: Ps.em m ⟨s.per, s.ov, true, 0, s.told + 1⟩ := by
  have := Ps.tk_big (n := m + 1) ho hk (by omega)
  rwa [show m + 1 - (s.per - s.went) = m by omega] at this
theorem Ps.tk_pass {s : Ps} {m : Nat} (ho : s.on = true) : s.tk (m + 1) = Ps.tk m ⟨s.per, s.ov, true, s.went + 1, s.told⟩ ∧ s.em (m + 1) = Ps.em m ⟨s.per, s.ov, true, s.went + 1, s.told⟩ := by
  have e : s.went + (m + 1) = s.went + 1 + m := by omega
  simp only [Ps.tk, Ps.em, ho, e, if_true, and_self]
theorem Ps.tk_zero {s : Ps} (hk : s.went < s.per) : s.tk 0 = s ∧ s.em 0 = [] := by
  have h1 : s.went / s.per = 0 := Nat.div_eq_of_lt hk
  have h2 : s.went % s.per = s.went := Nat.mod_eq_of_lt hk
  cases s with
  | mk p o b w t => cases b <;> simp_all [Ps.tk, Ps.em]
theorem Ps.tk_off {s : Ps} (n : Nat) (ho : s.on = false) : s.tk n = s ∧ s.em n = [] := by simp [Ps.tk, Ps.em, ho]
theorem Ps.tk_per (s : Ps) (n : Nat) : (s.tk n).per = s.per ∧ (s.tk n).ov = s.ov ∧ (s.tk n).on = s.on := by
  unfold Ps.tk; split <;> simp_all
theorem Ps.em_len (s : Ps) (n : Nat) (hk : s.went < s.per) : (s.em n).length ≤ n := by
  unfold Ps.em
  split
  · simp
    have : (s.went + n) / s.per < n + 1 := by
      rw [Nat.div_lt_iff_lt_mul (by omega)]
      calc s.went + n < s.per + n := by omega
        _ ≤ (n + 1) * s.per := by rw [Nat.add_mul]; have := Nat.le_mul_of_pos_right n (show 0 < s.per by omega); omega
    omega
  · simp
theorem Ps.tk_told (s : Ps) (n : Nat) (hk : s.went < s.per) : (s.tk n).told ≤ s.told + n ∧ (s.tk n).went < s.per := by
  have := s.em_len n hk
  unfold Ps.em at this
  unfold Ps.tk
  split
  · rename_i h
    simp [h] at this
    exact ⟨by simp only; omega, Nat.mod_lt _ (by omega)⟩
  · exact ⟨by omega, hk⟩

/-- A consumer: where the counter ends, its window, the last counter, how many came, how many were wrong, ticks since. -/
structure Cs where
  ov : Nat
  win : Nat
  last : Nat
  cyc : Nat
  wr : Nat
  since : Nat
def Cs.next (s : Cs) : Nat := if s.cyc = 0 then 0 else nxt s.ov s.last
def fits14 (ov : Nat) (c : Int) : Bool := decide (min (ov : Int) 1 ≤ c) && decide (c ≤ ov)
def Cs.bad (s : Cs) (c : Int) : Bool := decide (0 < s.cyc) && !decide (c = s.next)
def Cs.take (c : Int) (s : Cs) : Cs := if fits14 s.ov c then ⟨s.ov, s.win, c.toNat, s.cyc + 1, if s.bad c then s.wr + 1 else s.wr, 0⟩ else s
def Cs.tells (c : Int) (s : Cs) : Int := if fits14 s.ov c then (if s.bad c then 6 else 0) else 8
def Cs.tick (n : Nat) (s : Cs) : Cs := ⟨s.ov, s.win, s.last, s.cyc, s.wr, min (s.since + n) 18446744073709551615⟩
def Cs.isOpen (s : Cs) : Bool := decide (0 < s.cyc) && (decide (s.win = 0) || decide (s.since < s.win))
def Cs.ok (s : Cs) : Prop := s.ov ≤ 240 ∧ s.win ≤ 4294967296 ∧ s.last ≤ s.ov ∧ s.cyc < 4611686018427387904 ∧ s.wr ≤ s.cyc ∧ s.since ≤ 18446744073709551615
theorem Cs.ok_take {s : Cs} (h : s.ok) (c : Int) (hc : s.cyc < 4611686018427387903) : (s.take c).ok ∧ (s.take c).cyc ≤ s.cyc + 1 := by
  obtain ⟨h1, h2, h3, h4, h5, h6⟩ := h
  unfold Cs.take
  split
  · rename_i hf
    simp [fits14] at hf
    refine ⟨⟨h1, h2, by simp only; omega, by simp only; omega, ?_, by simp⟩, Nat.le_refl _⟩
    simp only
    split <;> omega
  · exact ⟨⟨h1, h2, h3, h4, h5, h6⟩, by omega⟩
theorem Cs.ok_tick {s : Cs} (h : s.ok) (n : Nat) : (s.tick n).ok := by
  obtain ⟨h1, h2, h3, h4, h5, h6⟩ := h
  exact ⟨h1, h2, h3, h4, h5, by simp only [Cs.tick]; omega⟩
end Go.Proofs.Ytnmjeomhmmfgmaa
