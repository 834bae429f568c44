/- Plain facts on texts that are sent at once. -/
import Derived.Test.YthcigoijkohihaaMathB
namespace Go.Proofs.Bits

/-- The first error of a text. -/
def errs : List (List UInt8) → Int
  | [] => 0
  | l :: r => if err l = 0 then errs r else err l
theorem errs_zero {T : List (List UInt8)} : errs T = 0 ↔ ∀ l ∈ T, err l = 0 := by
  induction T with
  | nil => simp [errs]
  | cons l r ih =>
    rw [errs]
    by_cases h : err l = 0
    · rw [if_pos h, ih]; simp [h]
    · rw [if_neg h]; simp [h]
theorem errs_take {T : List (List UInt8)} {k : Nat} (hk : k < T.length) (h : errs (T.take k) = 0) (he : err T[k] ≠ 0) : errs T = err T[k] := by
  induction T generalizing k with
  | nil => simp at hk
  | cons l r ih =>
    cases k with
    | zero => simp at he; rw [errs, if_neg he]; rfl
    | succ k =>
      rw [List.take_succ_cons, errs] at h
      by_cases hl : err l = 0
      · rw [if_pos hl] at h
        rw [errs, if_pos hl]
        exact ih (by simpa using hk) h (by simpa using he)
      · rw [if_neg hl] at h; exact absurd h hl
theorem errs_snoc {T : List (List UInt8)} {l : List UInt8} (h : errs T = 0) (hl : err l = 0) : errs (T ++ [l]) = 0 := by
  rw [errs_zero] at h ⊢
  intro x hx
  rcases List.mem_append.1 hx with hx | hx
  · exact h x hx
  · simp at hx; rw [hx]; exact hl
def longest (T : List (List UInt8)) : Nat := T.foldl (fun m l => max m l.length) 0
theorem longest_snoc (T : List (List UInt8)) (l : List UInt8) : longest (T ++ [l]) = max (longest T) l.length := by simp [longest]
theorem longest_le (T : List (List UInt8)) (l : List UInt8) (h : l ∈ T) : l.length ≤ longest T := by
  induction T using snoc_ind with
  | h0 => simp at h
  | h1 T x ih =>
    rw [longest_snoc]
    rcases List.mem_append.1 h with h | h
    · have := ih h; omega
    · simp at h; rw [h]; omega
theorem longest_bound (T : List (List UInt8)) (n : Nat) (h : ∀ l ∈ T, l.length ≤ n) : longest T ≤ n := by
  induction T using snoc_ind with
  | h0 => simp [longest]
  | h1 T x ih =>
    rw [longest_snoc]
    have h1 := ih (fun l hl => h l (List.mem_append_left _ hl))
    have h2 := h x (by simp)
    omega
/-- Whether a text has 0 at a place. -/
def has (T : List (List UInt8)) (j : Nat) : Bool := T.any fun l => l[j]? == some 48
def lvl (b : Bool) : UInt8 := if b then 48 else 49
theorem lvl_bit (b : Bool) : (lvl b).toNat = 48 ∨ (lvl b).toNat = 49 := by cases b <;> simp [lvl]
def wired (T : List (List UInt8)) : List UInt8 := (List.range (longest T)).map fun j => lvl (has T j)
def wiredV (T : List (List UInt8)) : List UInt8 := if errs T = 0 then wired T else []
theorem has_same {T S : List (List UInt8)} (h : ∀ l, l ∈ T ↔ l ∈ S) (j : Nat) : has T j = has S j := by
  rw [Bool.eq_iff_iff]
  unfold has
  rw [List.any_eq_true, List.any_eq_true]
  exact ⟨fun ⟨l, hl, hh⟩ => ⟨l, (h l).1 hl, hh⟩, fun ⟨l, hl, hh⟩ => ⟨l, (h l).2 hl, hh⟩⟩
theorem longest_same {T S : List (List UInt8)} (h : ∀ l, l ∈ T ↔ l ∈ S) : longest T = longest S := by
  have h1 := longest_bound T (longest S) (fun l hl => longest_le S l ((h l).1 hl))
  have h2 := longest_bound S (longest T) (fun l hl => longest_le T l ((h l).2 hl))
  omega
theorem wired_same {T S : List (List UInt8)} (h : ∀ l, l ∈ T ↔ l ∈ S) : wired T = wired S := by
  unfold wired
  rw [longest_same h]
  apply List.map_congr_left
  intro j _
  rw [has_same h]
/-- Behind all texts of T and the first p bits of l. -/
def half (T : List (List UInt8)) (l : List UInt8) (p : Nat) (j : Nat) : UInt8 := lvl (has T j || (decide (j < p) && l[j]? == some 48))
theorem half_zero (T : List (List UInt8)) (l : List UInt8) (j : Nat) : half T l 0 j = lvl (has T j) := by simp [half]
theorem half_all (T : List (List UInt8)) (l : List UInt8) (j : Nat) : half T l l.length j = lvl (has (T ++ [l]) j) := by
  unfold half has
  congr 1
  rw [List.any_append]
  congr 1
  simp only [List.any_cons, List.any_nil, Bool.or_false]
  by_cases h : j < l.length
  · simp [h]
  · have : l[j]? = none := by simp; omega
    simp [this]
theorem half_next (T : List (List UInt8)) (l : List UInt8) (p j : Nat) : half T l (p + 1) j = if j = p ∧ l[p]? = some 48 then 48 else half T l p j := by
  unfold half
  by_cases h : j = p
  · subst h
    by_cases h2 : l[j]? = some 48
    · simp [h2, lvl]
    · have h3 : (l[j]? == some 48) = false := by rw [beq_eq_false_iff_ne]; exact h2
      simp [h2, h3]
  · rw [if_neg (fun hh => h hh.1)]
    have : decide (j < p + 1) = decide (j < p) := by
      by_cases h2 : j < p
      · simp [h2]; omega
      · simp [h2]; omega
    rw [this]
theorem map_set_range {α : Type} (n p : Nat) (F : Nat → α) (v : α) : ((List.range n).map F).set p v = (List.range n).map fun j => if j = p then v else F j := by
  apply List.ext_getElem
  · simp
  · intro i h1 h2
    simp only [List.getElem_set, List.getElem_map, List.getElem_range]
    by_cases h : p = i
    · subst h; simp
    · rw [if_neg h, if_neg (fun e => h e.symm)]
end Go.Proofs.Bits
