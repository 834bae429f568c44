/- Plain facts: texts of bits that begin at once, place by place; the least one is left. -/
import Derived.Test.YthcigoijkohihaaMathO
import Derived.Test.YthcigoijkohihaaMathW
namespace Go.Proofs.Bits

/-- A text's bit at a place, 1 behind its end. -/
def pad (s : List UInt8) (q : Nat) : UInt8 := s.getD q 49
theorem pad_cons (a : UInt8) (s : List UInt8) (q : Nat) : pad (a :: s) (q + 1) = pad s q := rfl
theorem pad_lt {s : List UInt8} {q : Nat} (h : pad s q = 48) : q < s.length := by
  rcases Nat.lt_or_ge q s.length with h1 | h1
  · exact h1
  · unfold pad at h
    rw [List.getD, List.getElem?_eq_none h1] at h
    simp at h
theorem pad_at {s : List UInt8} {q : Nat} (h : q < s.length) : pad s q = s[q] := by
  unfold pad; rw [List.getD, List.getElem?_eq_getElem h]; rfl
theorem pad_end {s : List UInt8} {q : Nat} (h : s.length ≤ q) : pad s q = 49 := by
  unfold pad; rw [List.getD, List.getElem?_eq_none h]; rfl
theorem pad_bit {s : List UInt8} (h : s.all isBit = true) (q : Nat) : pad s q = 48 ∨ pad s q = 49 := by
  rcases Nat.lt_or_ge q s.length with h1 | h1
  · rw [pad_at h1]
    rw [List.all_eq_true] at h
    rcases isBit_cases (h _ (List.getElem_mem h1)) with e | e
    · exact .inl (UInt8.toNat_inj.1 (by rw [e]; rfl))
    · exact .inr (UInt8.toNat_inj.1 (by rw [e]; rfl))
  · exact .inr (pad_end h1)
theorem lex_pad (p : Nat) (s m : List UInt8) (h : ∀ q, q < p → pad s q = pad m q) (hs : pad s p = 48) (hm : pad m p = 49) (hp : ¬ (m <+: s ∧ m.length < s.length)) : s < m := by
  induction p generalizing s m with
  | zero =>
    match s with
    | [] => simp [pad] at hs
    | a :: s =>
      match m with
      | [] => exact absurd ⟨List.nil_prefix, by simp⟩ hp
      | b :: m =>
        simp [pad] at hs hm
        subst hs hm
        exact List.cons_lt_cons_iff.2 (.inl (by decide))
  | succ p ih =>
    match s with
    | [] => simp [pad] at hs
    | a :: s =>
      match m with
      | [] => exact absurd ⟨List.nil_prefix, by simp⟩ hp
      | b :: m =>
        have e := h 0 (by omega)
        simp [pad] at e
        subst e
        refine List.cons_lt_cons_iff.2 (.inr ⟨rfl, ih s m (fun q hq => h (q + 1) (by omega)) hs hm ?_⟩)
        rintro ⟨h1, h2⟩
        exact hp ⟨by obtain ⟨t, ht⟩ := h1; exact ⟨t, by simp [ht]⟩, by simp; omega⟩
/-- Whether a text goes with another one up to a place. -/
def goes (s m : List UInt8) (p : Nat) : Bool := (List.range p).all fun q => pad s q == pad m q
theorem goes_iff {s m : List UInt8} {p : Nat} : goes s m p = true ↔ ∀ q, q < p → pad s q = pad m q := by
  unfold goes
  rw [List.all_eq_true]
  constructor
  · intro h q hq; simpa using h q (by simpa using hq)
  · intro h q hq; simpa using h q (by simpa using hq)
theorem goes_next (s m : List UInt8) (p : Nat) : goes s m (p + 1) = (goes s m p && (pad s p == pad m p)) := by
  unfold goes; rw [List.range_succ, List.all_append]; simp
/-- The places of the texts that are left ahead of place p. -/
def leftK (T : List (List UInt8)) (m : List UInt8) (p : Nat) : List Nat := (List.range T.length).filter fun j => goes (T.getD j []) m p
theorem leftK_zero (T : List (List UInt8)) (m : List UInt8) : leftK T m 0 = List.range T.length := by
  unfold leftK
  rw [List.filter_eq_self]
  intro j _; rfl
theorem leftK_next (T : List (List UInt8)) (m : List UInt8) (p : Nat) : leftK T m (p + 1) = (leftK T m p).filter fun j => pad (T.getD j []) p == pad m p := by
  unfold leftK
  rw [List.filter_filter]
  congr 1
  funext j
  rw [goes_next, Bool.and_comm]
theorem leftK_lt {T : List (List UInt8)} {m : List UInt8} {p j : Nat} (h : j ∈ leftK T m p) : j < T.length := by
  unfold leftK at h
  rw [List.mem_filter] at h
  simpa using h.1
theorem leftK_le (T : List (List UInt8)) (m : List UInt8) (p : Nat) : (leftK T m p).length ≤ T.length := by
  have := List.length_filter_le (fun j => goes (T.getD j []) m p) (List.range T.length)
  simpa [leftK] using this
theorem leftK_nodup (T : List (List UInt8)) (m : List UInt8) (p : Nat) : (leftK T m p).Nodup := List.nodup_range.filter _
/-- The texts of one bit that those which are left send at place p. -/
def sends (T : List (List UInt8)) (js : List Nat) (p : Nat) : List (List UInt8) := js.map fun j => [pad (T.getD j []) p]
theorem has_sends (T : List (List UInt8)) (js : List Nat) (p : Nat) : has (sends T js p) 0 = js.any fun j => pad (T.getD j []) p == 48 := by
  unfold has sends
  rw [List.any_map]
  congr 1
structure Least (T : List (List UInt8)) (b : Nat) : Prop where
  lt : b < T.length
  bits : ∀ l ∈ T, l.all isBit = true
  least : ∀ j, j < T.length → T.getD b [] ≤ T.getD j []
  free : ∀ i j, i < T.length → j < T.length → ¬ (T.getD i [] <+: T.getD j [] ∧ (T.getD i []).length < (T.getD j []).length)
theorem Least.mem {T : List (List UInt8)} {b : Nat} (h : Least T b) (p : Nat) : b ∈ leftK T (T.getD b []) p := by
  unfold leftK
  rw [List.mem_filter]
  exact ⟨by simpa using h.lt, goes_iff.2 fun _ _ => rfl⟩
theorem Least.bit {T : List (List UInt8)} {b : Nat} (h : Least T b) (p : Nat) : lvl (has (sends T (leftK T (T.getD b []) p) p) 0) = pad (T.getD b []) p := by
  rw [has_sends]
  have hb : (T.getD b []).all isBit = true := by rw [getD_at h.lt]; exact h.bits _ (List.getElem_mem h.lt)
  rcases pad_bit hb p with e | e
  · have : ((leftK T (T.getD b []) p).any fun j => pad (T.getD j []) p == 48) = true := by
      rw [List.any_eq_true]
      exact ⟨b, h.mem p, by simpa using e⟩
    rw [this, e]; rfl
  · have : ((leftK T (T.getD b []) p).any fun j => pad (T.getD j []) p == 48) = false := by
      rw [Bool.eq_false_iff]
      intro hc
      rw [List.any_eq_true] at hc
      obtain ⟨j, hj, hc⟩ := hc
      have hj2 := hj
      unfold leftK at hj
      rw [List.mem_filter] at hj
      have hl := lex_pad p (T.getD j []) (T.getD b []) (goes_iff.1 hj.2) (by simpa using hc) e (h.free b j h.lt (leftK_lt hj2))
      exact Std.lt_irrefl (Std.lt_of_le_of_lt (h.least j (leftK_lt hj2)) hl)
    rw [this, e]; rfl
theorem Least.step {T : List (List UInt8)} {b : Nat} (h : Least T b) (p : Nat) :
    (leftK T (T.getD b []) p).filter (fun j => pad (T.getD j []) p == lvl (has (sends T (leftK T (T.getD b []) p) p) 0)) = leftK T (T.getD b []) (p + 1) := by
  rw [h.bit p, leftK_next]
theorem single {l : List Nat} {b : Nat} (h : b ∈ l) (hl : l.length ≤ 1) : l = [b] := by
  match l, hl with
  | [x], _ => simp at h; rw [h]
theorem single_of {l : List Nat} {b : Nat} (hn : l.Nodup) (h : b ∈ l) (ha : ∀ j ∈ l, j = b) : l = [b] := by
  match l with
  | [] => simp at h
  | [x] => simp at h; rw [h]
  | x :: y :: r =>
    have h1 := ha x (by simp)
    have h2 := ha y (by simp)
    rw [h1, h2] at hn
    simp at hn
end Go.Proofs.Bits
