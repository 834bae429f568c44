/- WheelEvery: one timer; the law's walk. -/
import Derived.Test.YtbfcoobngicpnaaW19
namespace Go.Proofs.Ytbfcoobngicpnaa
open Go.RowKit Go.Maps Go.WideMaps
set_option linter.unusedVariables false
set_option maxRecDepth 1000000
set_option linter.unusedSimpArgs false
structure OneT (p q b m C D : Nat) : Prop where
  t : tkT m 0 [⟨1, p, q, 3, b⟩] = [⟨1, D, q, 3, b⟩]
  w : (tkW m 0 [⟨1, p, q, 3, b⟩]).length = C
  d : D = p + C * q
  lt : m < D
  le : C = 0 ∨ D ≤ m + q
theorem one_any {p q : Nat} (b : Nat) (hp : 0 < p) (hq : 0 < q) : ∀ m, ∃ C D, OneT p q b m C D
  | 0 => ⟨0, p, rfl, rfl, by omega, hp, .inl rfl⟩
  | m + 1 => by
    obtain ⟨C, D, h⟩ := one_any b hp hq m
    by_cases e : D = m + 1
    · have ho : outs (0 + m + 1) [(⟨1, D, q, 3, b⟩ : Tm)] = [⟨1, D, q, 3, b⟩] := by simp [outs, e]
      refine ⟨C + 1, D + q, ?_, ?_, by rw [h.d, Nat.succ_mul]; omega, by omega, .inr (by omega)⟩
      · show aft (0 + m + 1) (tkT m 0 [⟨1, p, q, 3, b⟩]) = _
        rw [h.t]
        unfold aft
        rw [ho]
        have hq' : q ≠ 0 := by omega
        simp [run1, hq', replT, nextDue, e]
      · show (tkW m 0 [⟨1, p, q, 3, b⟩] ++ (outs (0 + m + 1) (tkT m 0 [⟨1, p, q, 3, b⟩])).map (·.what)).length = _
        rw [List.length_append, h.w, h.t, ho]
        rfl
    · have ho : outs (0 + m + 1) [(⟨1, D, q, 3, b⟩ : Tm)] = [] := by simp [outs, e]
      have := h.lt
      refine ⟨C, D, ?_, ?_, h.d, by omega, by have := h.le; omega⟩
      · show aft (0 + m + 1) (tkT m 0 [⟨1, p, q, 3, b⟩]) = _
        rw [h.t]
        unfold aft
        rw [ho]
        rfl
      · show (tkW m 0 [⟨1, p, q, 3, b⟩] ++ (outs (0 + m + 1) (tkT m 0 [⟨1, p, q, 3, b⟩])).map (·.what)).length = _
        rw [List.length_append, h.w, h.t, ho]
        rfl
theorem one_want {p q b m C D : Nat} (h : OneT p q b m C D) (hp : 0 < p) (hq : 0 < q) : (m < p → C = 0 ∧ D = p) ∧ (p ≤ m → C = 1 + (m - p) / q ∧ (D - p) % q = 0 ∧ p ≤ D) := by
  have h1 := h.d
  have h2 := h.lt
  have h3 := h.le
  constructor
  · intro hm
    cases C with
    | zero => exact ⟨rfl, by omega⟩
    | succ k => rw [Nat.succ_mul] at h1; omega
  · intro hm
    cases C with
    | zero => omega
    | succ k =>
      rw [Nat.succ_mul] at h1
      have h4 : (m - p) / q = k := by
        refine Nat.div_eq_of_lt_le ?_ ?_
        · omega
        · rw [Nat.succ_mul]; omega
      refine ⟨by omega, ?_, by omega⟩
      have : D - p = (k + 1) * q := by rw [Nat.succ_mul]; omega
      rw [this, Nat.mul_mod_left]
end Go.Proofs.Ytbfcoobngicpnaa
