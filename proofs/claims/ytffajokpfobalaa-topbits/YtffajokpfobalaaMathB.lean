/- Plain facts on stuffing. -/
import Derived.Test.YtffajokpfobalaaMath
namespace Go.Proofs.Bits
/-- The other level. -/
def oth (c : UInt8) : UInt8 := if c = 48 then 49 else 48
/-- What was told so far, the last level, how many of it in a row. -/
def cnt (t : List UInt8 × UInt8 × Nat) (c : UInt8) : Nat := if c = t.2.1 then t.2.2 + 1 else 1
def stStep (t : List UInt8 × UInt8 × Nat) (c : UInt8) : List UInt8 × UInt8 × Nat :=
  if cnt t c = 5 then (t.1 ++ [c] ++ [oth c], oth c, 1) else (t.1 ++ [c], c, cnt t c)
def stFrom (t : List UInt8 × UInt8 × Nat) (l : List UInt8) : List UInt8 × UInt8 × Nat := l.foldl stStep t
def st (l : List UInt8) : List UInt8 × UInt8 × Nat := stFrom ([], 0, 0) l
def stuff (l : List UInt8) : List UInt8 := (st l).1
def stuffV (l : List UInt8) : List UInt8 := if err l = 0 then stuff l else []
theorem st_snoc (l : List UInt8) (c : UInt8) : st (l ++ [c]) = stStep (st l) c := by simp [st, stFrom]
theorem stStep_full {t : List UInt8 × UInt8 × Nat} {c : UInt8} (h : cnt t c = 5) : stStep t c = (t.1 ++ [c] ++ [oth c], oth c, 1) := by simp [stStep, h]
theorem stStep_open {t : List UInt8 × UInt8 × Nat} {c : UInt8} (h : ¬ cnt t c = 5) : stStep t c = (t.1 ++ [c], c, cnt t c) := by simp [stStep, h]
theorem cnt_le (t : List UInt8 × UInt8 × Nat) (c : UInt8) (h : t.2.2 ≤ 4) : 1 ≤ cnt t c ∧ cnt t c ≤ 5 := by
  unfold cnt; split <;> omega
theorem stStep_count (t : List UInt8 × UInt8 × Nat) (c : UInt8) (h : t.2.2 ≤ 4) : 1 ≤ (stStep t c).2.2 ∧ (stStep t c).2.2 ≤ 4 := by
  have := cnt_le t c h
  by_cases hc : cnt t c = 5
  · rw [stStep_full hc]; simp
  · rw [stStep_open hc]; show 1 ≤ cnt t c ∧ cnt t c ≤ 4; omega
theorem stStep_length (t : List UInt8 × UInt8 × Nat) (c : UInt8) : (stStep t c).1.length ≤ t.1.length + 2 := by
  by_cases hc : cnt t c = 5
  · rw [stStep_full hc]; simp
  · rw [stStep_open hc]; simp
/-- Induction from the back. -/
theorem snoc_ind {α : Type} {p : List α → Prop} (h0 : p []) (h1 : ∀ l a, p l → p (l ++ [a])) (l : List α) : p l := by
  suffices ∀ r : List α, p r.reverse by simpa using this l.reverse
  intro r
  induction r with
  | nil => simpa using h0
  | cons a r ih => simpa using h1 _ a ih
theorem st_count (l : List UInt8) : (st l).2.2 ≤ 4 := by
  induction l using snoc_ind with
  | h0 => simp [st, stFrom]
  | h1 l c ih => rw [st_snoc]; exact (stStep_count _ _ ih).2
theorem st_length (l : List UInt8) : (st l).1.length ≤ 2 * l.length := by
  induction l using snoc_ind with
  | h0 => simp [st, stFrom]
  | h1 l c ih =>
    rw [st_snoc]
    have := stStep_length (st l) c
    simp only [List.length_append, List.length_cons, List.length_nil]
    omega
theorem oth_bit (c : UInt8) : (oth c).toNat = 48 ∨ (oth c).toNat = 49 := by
  unfold oth; split
  · right; rfl
  · left; rfl
theorem oth_ne (c : UInt8) : oth c ≠ c := by
  unfold oth; split
  · rename_i h; rw [h]; decide
  · rename_i h; intro e; exact h e.symm
end Go.Proofs.Bits
