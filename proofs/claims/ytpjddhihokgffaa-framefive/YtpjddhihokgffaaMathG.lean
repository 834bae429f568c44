/- Plain facts: any five of 127 remainders of single bits are independent. -/
import Derived.Test.YtpjddhihokgffaaMathF
namespace Go.Proofs.Bits

def g (j : Nat) : Nat := shs j 1
def powers : Nat → Nat → List Nat
  | 0, _ => []
  | n + 1, x => x :: powers n (sh x)
def table : List Nat := powers 127 1
theorem shs_sh (n x : Nat) : shs n (sh x) = sh (shs n x) := by
  induction n with
  | zero => rfl
  | succ n ih => rw [shs, ih]; rfl
theorem powers_at (n x i : Nat) (h : i < n) : (powers n x)[i]? = some (shs i x) := by
  induction n generalizing x i with
  | zero => omega
  | succ n ih =>
    cases i with
    | zero => rfl
    | succ i =>
      rw [powers, List.getElem?_cons_succ, ih (sh x) i (by omega), shs_sh]
      rfl
theorem table_at (i : Nat) (h : i < 127) : table[i]? = some (g i) := powers_at 127 1 i h
theorem table_mem (i : Nat) (h : i < 127) : g i ∈ table := List.mem_of_getElem? (table_at i h)
theorem powers_length (n x : Nat) : (powers n x).length = n := by
  induction n generalizing x with
  | zero => rfl
  | succ n ih => simp [powers, ih]
def mask (l : List Nat) : Nat := l.foldl (fun m v => m ||| 1 <<< v) 0
theorem mask_bit (l : List Nat) (m v : Nat) (h : v ∈ l ∨ m.testBit v = true) : (l.foldl (fun m v => m ||| 1 <<< v) m).testBit v = true := by
  induction l generalizing m with
  | nil => simpa using h
  | cons u l ih =>
    refine ih _ ?_
    rcases h with h | h
    · rcases List.mem_cons.1 h with rfl | h
      · right; simp [Nat.testBit_or, Nat.testBit_shiftLeft]
      · exact .inl h
    · right; simp [Nat.testBit_or, h]
theorem mask_mem {l : List Nat} {v : Nat} (h : v ∈ l) : (mask l).testBit v = true := mask_bit l 0 v (.inl h)

def distinct : List Nat → Bool
  | [] => true
  | x :: l => !l.contains x && distinct l
theorem distinct_at {l : List Nat} (h : distinct l = true) {i j x : Nat} (hi : l[i]? = some x) (hj : l[j]? = some x) : i = j := by
  induction l generalizing i j with
  | nil => simp at hi
  | cons y l ih =>
    simp only [distinct, Bool.and_eq_true, Bool.not_eq_true', ] at h
    have hn : ¬ y ∈ l := by simpa using h.1
    cases i with
    | zero =>
      cases j with
      | zero => rfl
      | succ j =>
        simp at hi hj
        exact absurd (by rw [hi]; exact List.mem_of_getElem? hj) hn
    | succ i =>
      cases j with
      | zero =>
        simp at hi hj
        exact absurd (by rw [hj]; exact List.mem_of_getElem? hi) hn
      | succ j =>
        simp at hi hj
        rw [ih h.2 hi hj]
def quads (t : List Nat) (m : Nat) : Bool := t.all fun x => t.all fun y => x == 1 || y == 1 || x == y || !(m.testBit (1 ^^^ x ^^^ y))
theorem table_distinct : distinct table = true := by decide +kernel
theorem table_quads : quads table (mask table) = true := by decide +kernel

theorem g_inj {i j : Nat} (hi : i < 127) (hj : j < 127) (h : g i = g j) : i = j :=
  distinct_at table_distinct (table_at i hi) (by rw [h]; exact table_at j hj)
theorem g_lt (i : Nat) : g i < 32768 := shs_lt _ _ (by omega)

/-- The levels of fifteen bits put together. -/
def parN : Nat → Nat → Bool
  | 0, _ => false
  | n + 1, x => parN n x ^^ x.testBit n
theorem parN_xor (n x y : Nat) : parN n (x ^^^ y) = (parN n x ^^ parN n y) := by
  induction n with
  | zero => rfl
  | succ n ih =>
    rw [parN, ih, Nat.testBit_xor, parN, parN]
    cases parN n x <;> cases parN n y <;> cases x.testBit n <;> cases y.testBit n <;> rfl
def par (x : Nat) : Bool := parN 15 x
theorem par_xor (x y : Nat) : par (x ^^^ y) = (par x ^^ par y) := parN_xor 15 x y
theorem par_zero : par 0 = false := by decide
theorem table_par : (table.all par) = true := by decide +kernel
theorem g_par (i : Nat) (h : i < 127) : par (g i) = true := by
  have := table_par
  rw [List.all_eq_true] at this
  exact this _ (table_mem i h)

theorem four_first (a b c d : Nat) (hb : a < b) (hc : a < c) (hd : a < d) (hbc : b ≠ c) (hbd : b ≠ d) (hcd : c ≠ d) (lb : b < 127) (lc : c < 127) (ld : d < 127) : g a ^^^ g b ^^^ g c ^^^ g d ≠ 0 := by
  intro h
  have e : ∀ k, a < k → g k = shs a (g (k - a)) := by
    intro k hk
    unfold g
    rw [← shs_add]
    congr 1
    omega
  have e1 : g a = shs a 1 := rfl
  rw [e b hb, e c hc, e d hd, e1, ← shs_xor a _ _ (by omega) (g_lt _), ← shs_xor a _ _ (xor_lt15 (by omega) (g_lt _)) (g_lt _), ← shs_xor a _ _ (xor_lt15 (xor_lt15 (by omega) (g_lt _)) (g_lt _)) (g_lt _)] at h
  have h0 := shs_inj0 a _ (xor_lt15 (xor_lt15 (xor_lt15 (by omega) (g_lt _)) (g_lt _)) (g_lt _)) h
  have h1 := xor_zero h0
  have hq := table_quads
  unfold quads at hq
  rw [List.all_eq_true] at hq
  have hq1 := hq (g (b - a)) (table_mem _ (by omega))
  rw [List.all_eq_true] at hq1
  have hq2 := hq1 (g (c - a)) (table_mem _ (by omega))
  rw [h1, mask_mem (table_mem (d - a) (by omega))] at hq2
  have n1 : g (b - a) ≠ 1 := fun e => by have := g_inj (i := b - a) (j := 0) (by omega) (by omega) e; omega
  have n2 : g (c - a) ≠ 1 := fun e => by have := g_inj (i := c - a) (j := 0) (by omega) (by omega) e; omega
  have n3 : g (b - a) ≠ g (c - a) := fun e => by have := g_inj (by omega) (by omega) e; omega
  simp [n1, n2, n3] at hq2
theorem four (a b c d : Nat) (hab : a ≠ b) (hac : a ≠ c) (had : a ≠ d) (hbc : b ≠ c) (hbd : b ≠ d) (hcd : c ≠ d) (la : a < 127) (lb : b < 127) (lc : c < 127) (ld : d < 127) : g a ^^^ g b ^^^ g c ^^^ g d ≠ 0 := by
  have hmin : (a < b ∧ a < c ∧ a < d) ∨ (b < a ∧ b < c ∧ b < d) ∨ (c < a ∧ c < b ∧ c < d) ∨ (d < a ∧ d < b ∧ d < c) := by omega
  rcases hmin with ⟨h1, h2, h3⟩ | ⟨h1, h2, h3⟩ | ⟨h1, h2, h3⟩ | ⟨h1, h2, h3⟩
  · exact four_first a b c d h1 h2 h3 hbc hbd hcd lb lc ld
  · rw [show g a ^^^ g b ^^^ g c ^^^ g d = g b ^^^ g a ^^^ g c ^^^ g d by ac_rfl]
    exact four_first b a c d h1 h2 h3 hac had hcd la lc ld
  · rw [show g a ^^^ g b ^^^ g c ^^^ g d = g c ^^^ g a ^^^ g b ^^^ g d by ac_rfl]
    exact four_first c a b d h1 h2 h3 hab had hbd la lb ld
  · rw [show g a ^^^ g b ^^^ g c ^^^ g d = g d ^^^ g a ^^^ g b ^^^ g c by ac_rfl]
    exact four_first d a b c h1 h2 h3 hab hac hbc la lb lc

/-- What the remainders of some single bits come to. -/
def xall (l : List Nat) : Nat := l.foldr (fun j x => x ^^^ g j) 0
theorem odd_ne (x : Nat) (h : par x = true) : x ≠ 0 := by
  intro e; rw [e, par_zero] at h; cases h
theorem five (l : List Nat) (hn : l.Nodup) (hl : l.length ≤ 5) (h127 : ∀ j ∈ l, j < 127) (h0 : l ≠ []) : xall l ≠ 0 := by
  match l, hn, hl, h127, h0 with
  | [], _, _, _, h0 => exact absurd rfl h0
  | [a], _, _, h127, _ =>
    refine odd_ne _ ?_
    simp only [xall, List.foldr, par_xor, par_zero, g_par a (h127 a (by simp))]
    rfl
  | [a, b], hn, _, h127, _ =>
    simp at hn h127
    intro h
    simp only [xall, List.foldr, Nat.zero_xor] at h
    have := g_inj (i := b) (j := a) (by omega) (by omega) (xor_zero h)
    omega
  | [a, b, c], _, _, h127, _ =>
    refine odd_ne _ ?_
    simp only [xall, List.foldr, par_xor, par_zero, g_par a (h127 a (by simp)), g_par b (h127 b (by simp)), g_par c (h127 c (by simp))]
    rfl
  | [a, b, c, d], hn, _, h127, _ =>
    simp at hn h127
    simp only [xall, List.foldr, Nat.zero_xor]
    exact four d c b a (by omega) (by omega) (by omega) (by omega) (by omega) (by omega) (by omega) (by omega) (by omega) (by omega)
  | [a, b, c, d, e], _, _, h127, _ =>
    refine odd_ne _ ?_
    simp only [xall, List.foldr, par_xor, par_zero, g_par a (h127 a (by simp)), g_par b (h127 b (by simp)), g_par c (h127 c (by simp)), g_par d (h127 d (by simp)), g_par e (h127 e (by simp))]
    rfl
  | a :: b :: c :: d :: e :: f :: l, _, hl, _, _ => simp at hl
end Go.Proofs.Bits
