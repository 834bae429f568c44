/- Plain facts on unstuffing. -/
import Derived.Test.YtffajokpfobalaaMathB
namespace Go.Proofs.Bits

def unNext (t : List UInt8 × UInt8 × Nat) (c : UInt8) : List UInt8 × UInt8 × Nat := (if t.2.2 = 5 then t.1 else t.1 ++ [c], c, cnt t c)
/-- What is left, how far it was read, the error. -/
def un (t : List UInt8 × UInt8 × Nat) (i : Nat) : List UInt8 → List UInt8 × Nat × Int
  | [] => if t.2.2 = 5 then ([], i, 3) else (t.1, i, 0)
  | c :: r => if t.2.2 = 5 ∧ c = t.2.1 then ([], i, 20) else un (unNext t c) (i + 1) r
def unstuff (l : List UInt8) : List UInt8 × Nat × Int := un ([], 0, 0) 0 l
def unV (l : List UInt8) : List UInt8 × Nat × Int := if err l = 0 then unstuff l else ([], 0, err l)
theorem un_bad {t : List UInt8 × UInt8 × Nat} {i : Nat} {c : UInt8} {r : List UInt8} (h : t.2.2 = 5) (hc : c = t.2.1) : un t i (c :: r) = ([], i, 20) := by
  rw [un, if_pos ⟨h, hc⟩]
theorem un_on {t : List UInt8 × UInt8 × Nat} {i : Nat} {c : UInt8} {r : List UInt8} (h : ¬ (t.2.2 = 5 ∧ c = t.2.1)) : un t i (c :: r) = un (unNext t c) (i + 1) r := by
  rw [un, if_neg h]
theorem un_short {t : List UInt8 × UInt8 × Nat} {i : Nat} (h : t.2.2 = 5) : un t i [] = ([], i, 3) := by rw [un, if_pos h]
theorem un_end {t : List UInt8 × UInt8 × Nat} {i : Nat} (h : ¬ t.2.2 = 5) : un t i [] = (t.1, i, 0) := by rw [un, if_neg h]
theorem unNext_count (t : List UInt8 × UInt8 × Nat) (c : UInt8) (h : t.2.2 ≤ 5) (hc : ¬ (t.2.2 = 5 ∧ c = t.2.1)) : (unNext t c).2.2 ≤ 5 := by
  show cnt t c ≤ 5
  unfold cnt
  by_cases e : c = t.2.1
  · have : t.2.2 ≠ 5 := fun h5 => hc ⟨h5, e⟩
    rw [if_pos e]; omega
  · rw [if_neg e]; omega
theorem unNext_length (t : List UInt8 × UInt8 × Nat) (c : UInt8) : (unNext t c).1.length ≤ t.1.length + 1 := by
  unfold unNext
  simp only
  split
  · omega
  · simp
theorem drop_at (s : ByteArray) (k : Nat) (h : k < s.size) : s.data.toList.drop k = s[k] :: s.data.toList.drop (k + 1) := by
  rw [List.drop_eq_getElem_cons (by simpa using h)]; rfl
theorem drop_all (s : ByteArray) (k : Nat) (h : s.size ≤ k) : s.data.toList.drop k = [] := by
  rw [List.drop_eq_nil_iff]; simpa using h

/-- What is read without an error. -/
def unS (t : List UInt8 × UInt8 × Nat) : List UInt8 → Option (List UInt8 × UInt8 × Nat)
  | [] => some t
  | c :: r => if t.2.2 = 5 ∧ c = t.2.1 then none else unS (unNext t c) r
theorem un_of_unS {t t' : List UInt8 × UInt8 × Nat} {i : Nat} {a b : List UInt8} (h : unS t a = some t') : un t i (a ++ b) = un t' (i + a.length) b := by
  induction a generalizing t i with
  | nil => simp [unS] at h; subst h; rfl
  | cons c a ih =>
    rw [unS] at h
    split at h
    · simp at h
    · rename_i hn
      rw [List.cons_append, un_on hn, ih h, List.length_cons]
      congr 1; omega
theorem unS_snoc {t t' : List UInt8 × UInt8 × Nat} {a : List UInt8} {c : UInt8} (h : unS t a = some t') (hc : ¬ (t'.2.2 = 5 ∧ c = t'.2.1)) : unS t (a ++ [c]) = some (unNext t' c) := by
  induction a generalizing t with
  | nil => simp [unS] at h; subst h; simp [unS, hc]
  | cons d a ih =>
    rw [unS] at h
    split at h
    · simp at h
    · rename_i hn
      rw [List.cons_append, unS, if_neg hn]
      exact ih h
theorem unS_st (l : List UInt8) : unS ([], 0, 0) (st l).1 = some (l, (st l).2.1, (st l).2.2) := by
  induction l using snoc_ind with
  | h0 => rfl
  | h1 l c ih =>
    have hc := st_count l
    rw [st_snoc]
    have h1 := unS_snoc (c := c) ih (by simp only; omega)
    have e1 : unNext (l, (st l).2.1, (st l).2.2) c = (l ++ [c], c, cnt (st l) c) := by
      unfold unNext cnt
      simp only
      rw [if_neg (by omega)]
    rw [e1] at h1
    by_cases h5 : cnt (st l) c = 5
    · rw [stStep_full h5]
      rw [h5] at h1
      have h2 := unS_snoc (c := oth c) h1 (by simp only; intro h; exact oth_ne c h.2)
      rw [h2]
      unfold unNext cnt
      simp [oth_ne]
    · rw [stStep_open h5]
      exact h1
theorem unstuff_stuff (l : List UInt8) : unstuff (stuff l) = (l, (stuff l).length, 0) := by
  have h := un_of_unS (i := 0) (b := []) (unS_st l)
  rw [List.append_nil, Nat.zero_add] at h
  have hc := st_count l
  unfold unstuff stuff
  rw [h, un_end (by simp only; omega)]
theorem stuff_all (l : List UInt8) (h : l.all isBit = true) : (stuff l).all isBit = true := by
  unfold stuff
  induction l using snoc_ind with
  | h0 => rfl
  | h1 l c ih =>
    simp only [List.all_append, List.all_cons, List.all_nil, Bool.and_true, Bool.and_eq_true] at h
    rw [st_snoc]
    by_cases h5 : cnt (st l) c = 5
    · rw [stStep_full h5]
      exact all_snoc _ _ (all_snoc _ _ (ih h.1) h.2) (isBit_of (oth_bit c))
    · rw [stStep_open h5]
      exact all_snoc _ _ (ih h.1) h.2

/-- How many of one level stand in a row at the end. -/
def rowStep (p : UInt8 × Nat) (c : UInt8) : UInt8 × Nat := (c, if c = p.1 then p.2 + 1 else 1)
def rowOf (l : List UInt8) : UInt8 × Nat := l.foldl rowStep (0, 0)
theorem rowOf_snoc (l : List UInt8) (c : UInt8) : rowOf (l ++ [c]) = rowStep (rowOf l) c := by simp [rowOf]
theorem rowOf_st (l : List UInt8) : rowOf (st l).1 = (st l).2 := by
  induction l using snoc_ind with
  | h0 => rfl
  | h1 l c ih =>
    rw [st_snoc]
    have e : rowStep (rowOf (st l).1) c = (c, cnt (st l) c) := by rw [ih]; rfl
    by_cases h5 : cnt (st l) c = 5
    · rw [stStep_full h5]
      simp only
      rw [rowOf_snoc, rowOf_snoc, e]
      simp [rowStep, oth_ne]
    · rw [stStep_open h5]
      simp only
      rw [rowOf_snoc, e]
theorem rows_snoc {l : List UInt8} {c : UInt8} (h : ∀ k, (rowOf (l.take k)).2 ≤ 5) (hc : (rowOf (l ++ [c])).2 ≤ 5) : ∀ k, (rowOf ((l ++ [c]).take k)).2 ≤ 5 := by
  intro k
  by_cases hk : k ≤ l.length
  · rw [List.take_append_of_le_length hk]; exact h k
  · rw [List.take_of_length_le (by simp; omega)]; exact hc
theorem rows_st (l : List UInt8) : ∀ k, (rowOf ((st l).1.take k)).2 ≤ 5 := by
  induction l using snoc_ind with
  | h0 => intro k; simp [st, stFrom, rowOf]
  | h1 l c ih =>
    have hc := st_count l
    have hcl := cnt_le (st l) c hc
    rw [st_snoc]
    have e : rowOf ((st l).1 ++ [c]) = (c, cnt (st l) c) := by rw [rowOf_snoc, rowOf_st]; rfl
    have h1 := rows_snoc (c := c) ih (by rw [e]; exact hcl.2)
    by_cases h5 : cnt (st l) c = 5
    · rw [stStep_full h5]
      refine rows_snoc h1 ?_
      rw [rowOf_snoc, e]
      simp [rowStep, oth_ne]
    · rw [stStep_open h5]
      exact h1
end Go.Proofs.Bits
