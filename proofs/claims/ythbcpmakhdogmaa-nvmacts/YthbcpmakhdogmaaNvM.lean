/- A chip of pages and the store in it, plain: no program is named here. -/
import Derived.Test.YthbcpmakhdogmaaMath
namespace Go.Proofs.Nv
open Go.Proofs.Bits
set_option linter.unusedVariables false
set_option maxRecDepth 1000000
/-- A part of a list that is written anew. -/
def splice {α : Type} (l : List α) (o : Nat) (b : List α) : List α := l.take o ++ b ++ l.drop (o + b.length)
section
variable {α : Type} {l b x y : List α} {o : Nat}
theorem splice_len (h : o + b.length ≤ l.length) : (splice l o b).length = l.length := by
  unfold splice
  simp only [List.length_append, List.length_take, List.length_drop]
  omega
theorem splice_map {β : Type} (f : α → β) (l b : List α) (o : Nat) : (splice l o b).map f = splice (l.map f) o (b.map f) := by
  simp [splice]
theorem splice_get (h : o + b.length ≤ l.length) (k : Nat) : (splice l o b)[k]? = if o ≤ k ∧ k < o + b.length then b[k - o]? else l[k]? := by
  unfold splice
  by_cases h1 : k < o
  · rw [List.append_assoc, List.getElem?_append_left (by rw [List.length_take]; omega), if_neg (by omega), List.getElem?_take, if_pos h1]
  · by_cases h2 : k < o + b.length
    · rw [List.getElem?_append_left (by rw [List.length_append, List.length_take]; omega), List.getElem?_append_right (by rw [List.length_take]; omega), if_pos (by omega), List.length_take, Nat.min_eq_left (by omega)]
    · rw [List.getElem?_append_right (by rw [List.length_append, List.length_take]; omega), if_neg (by omega), List.length_append, List.length_take, Nat.min_eq_left (by omega), List.getElem?_drop]
      congr 1
      omega
theorem splice_nil (l : List α) (o : Nat) : splice l o [] = l := by simp [splice]
theorem splice_next (h : o + x.length + y.length ≤ l.length) : splice (splice l o x) (o + x.length) y = splice l o (x ++ y) := by
  apply List.ext_getElem?
  intro k
  rw [splice_get (by rw [splice_len (by omega)]; omega), splice_get (by omega), splice_get (by rw [List.length_append]; omega), List.length_append]
  by_cases h1 : o + x.length ≤ k ∧ k < o + x.length + y.length
  · rw [if_pos h1, if_pos (by omega), List.getElem?_append_right (by omega)]
    congr 1
    omega
  · rw [if_neg h1]
    by_cases h2 : o ≤ k ∧ k < o + x.length
    · rw [if_pos h2, if_pos (by omega), List.getElem?_append_left (by omega)]
    · rw [if_neg h2, if_neg (by omega)]
/-- What of a list is not written stays. -/
theorem splice_apart (h : o + b.length ≤ l.length) (p n : Nat) (hap : p + n ≤ o ∨ o + b.length ≤ p) : ((splice l o b).drop p).take n = (l.drop p).take n := by
  apply List.ext_getElem?
  intro k
  rw [List.getElem?_take, List.getElem?_take]
  split
  · rw [List.getElem?_drop, List.getElem?_drop, splice_get h, if_neg (by omega)]
  · rfl
/-- What is written within a part is written in the part. -/
theorem splice_in (h : o + b.length ≤ l.length) (p n : Nat) (h1 : p ≤ o) (h2 : o + b.length ≤ p + n) (h3 : p + n ≤ l.length) : ((splice l o b).drop p).take n = splice ((l.drop p).take n) (o - p) b := by
  apply List.ext_getElem?
  intro k
  rw [splice_get (by rw [List.length_take, List.length_drop]; omega), List.getElem?_take]
  by_cases hk : k < n
  · rw [if_pos hk, List.getElem?_drop, splice_get h]
    by_cases h4 : o ≤ p + k ∧ p + k < o + b.length
    · rw [if_pos h4, if_pos (by omega)]
      congr 1
      omega
    · rw [if_neg h4, if_neg (by omega), List.getElem?_take, if_pos hk, List.getElem?_drop]
  · rw [if_neg hk, if_neg (by omega), List.getElem?_take, if_neg hk]
end
/-- A number of bytes, the lowest first. -/
def num : List UInt8 → Nat
  | [] => 0
  | x :: r => x.toNat + 256 * num r
def le (n : Nat) : Nat → List UInt8
  | 0 => []
  | k + 1 => UInt8.ofNat (n % 256) :: le (n / 256) k
theorem le_len (n k : Nat) : (le n k).length = k := by
  induction k generalizing n with
  | zero => rfl
  | succ k ih => simp [le, ih]
theorem num_le (n k : Nat) (h : n < 256 ^ k) : num (le n k) = n := by
  induction k generalizing n with
  | zero => simp at h; subst h; rfl
  | succ k ih =>
    have h2 : n / 256 < 256 ^ k := by rw [Nat.div_lt_iff_lt_mul (by decide)]; rw [Nat.pow_succ] at h; omega
    simp only [le, num, ih _ h2]
    rw [show (UInt8.ofNat (n % 256)).toNat = n % 256 by simp]
    omega
theorem num_lt (l : List UInt8) : num l < 256 ^ l.length := by
  induction l with
  | nil => simp [num]
  | cons x r ih =>
    have := x.toNat_lt
    simp only [num, List.length_cons, Nat.pow_succ]
    omega
theorem num_snoc (l : List UInt8) (x : UInt8) : num (l ++ [x]) = num l + 256 ^ l.length * x.toNat := by
  induction l with
  | nil => simp [num]
  | cons y r ih =>
    simp only [List.cons_append, num, ih, List.length_cons, Nat.pow_succ]
    rw [Nat.mul_add, ← Nat.mul_assoc, Nat.mul_comm 256 (256 ^ r.length)]
    omega
theorem le_snoc (n k : Nat) : le n (k + 1) = le n k ++ [UInt8.ofNat (n / 256 ^ k % 256)] := by
  induction k generalizing n with
  | zero => simp [le]
  | succ k ih =>
    rw [le, ih, le, List.cons_append, Nat.div_div_eq_div_mul, Nat.pow_succ, Nat.mul_comm 256]
/-- A chip: its pages' bytes, one behind the other; how many pages; Writes that are left; is it dead? -/
structure Ch where
  pg : List UInt8
  n : Nat
  left : Int
  dead : Bool
structure Ch.Ok (c : Ch) : Prop where
  len : c.pg.length = 8 * c.n
  lo : 4 ≤ c.n
  hi : c.n ≤ 32768
  l1 : -1 ≤ c.left
  l2 : c.left < 9223372036854775808
def Ch.new (n : Nat) : Ch := ⟨List.replicate (8 * n) 0, n, -1, false⟩
theorem Ch.new_ok {n : Nat} (h1 : 4 ≤ n) (h2 : n ≤ 32768) : (Ch.new n).Ok := ⟨by simp [Ch.new], h1, h2, (by show (-1 : Int) ≤ -1; decide), (by show (-1 : Int) < 9223372036854775808; decide)⟩
def Ch.has (c : Ch) (i : Int) : Bool := decide (0 ≤ i ∧ i < c.n)
def Ch.put (c : Ch) (i : Nat) (b : List UInt8) : Ch := ⟨splice c.pg (8 * i) b, c.n, if 0 < c.left then c.left - 1 else c.left, c.dead⟩
def Ch.die (c : Ch) : Ch := ⟨c.pg, c.n, c.left, true⟩
def Ch.cut (c : Ch) (a : Int) : Ch := ⟨c.pg, c.n, if a < -1 then -1 else a, c.dead⟩
def Ch.power (c : Ch) : Ch := ⟨c.pg, c.n, -1, false⟩
def Ch.wr (c : Ch) (i : Int) (b : List UInt8) : Ch × Bool :=
  if c.has i = false ∨ c.dead = true then (c, false) else if c.left = 0 then (c.die, false) else (c.put i.toNat b, true)
def zero8 : List UInt8 := List.replicate 8 0
def Ch.rd (c : Ch) (i : Int) : List UInt8 := if c.has i then (c.pg.drop (8 * i.toNat)).take 8 else zero8
def Ch.many (c : Ch) : Nat := c.n / 2
def Ch.room (c : Ch) : Nat := 8 * (c.n / 2 - 1)
/-- What the bytes of a half hold. -/
def hs (room : Nat) (s : List UInt8) : Nat × List UInt8 :=
  if num (s.take 2) = 0 ∨ room < num ((s.drop 2).take 4) then (0, []) else
  if num ((s.drop 6).take 2) = crc16 (s.take 6 ++ (s.drop 8).take (num ((s.drop 2).take 4))) then (num (s.take 2), (s.drop 8).take (num ((s.drop 2).take 4))) else (0, [])
def Ch.seg (c : Ch) (f : Nat) : List UInt8 := (c.pg.drop (8 * f)).take (8 * c.many)
def Ch.holds (c : Ch) (f : Nat) : Nat × List UInt8 := hs c.room (c.seg f)
def nxt (k : Nat) : Nat := if k = 65535 then 1 else k + 1
def Ch.latest (c : Ch) : Nat := if (c.holds 0).1 = 0 ∨ (c.holds c.many).1 = nxt (c.holds 0).1 then 1 else 0
def Ch.kept (c : Ch) : Nat × List UInt8 := if c.latest = 1 then c.holds c.many else c.holds 0
def Ch.into (c : Ch) : Nat := if c.latest = 1 then 0 else c.many
def head (k : Nat) (b : List UInt8) : List UInt8 := le k 2 ++ le b.length 4 ++ le (crc16 (le k 2 ++ le b.length 4 ++ b)) 2
def nch (b : List UInt8) : Nat := (b.length + 7) / 8
def pad (b : List UInt8) : List UInt8 := b ++ List.replicate (8 - b.length) 0
def chunk (b : List UInt8) (k : Nat) : List UInt8 := (b.drop (8 * k)).take 8
def Ch.wrK (c : Ch) (page : Nat) (b : List UInt8) : Nat → Ch × Bool
  | 0 => (c, true)
  | k + 1 => if (c.wrK page b k).2 then (c.wrK page b k).1.wr ((page + k : Nat) : Int) (pad (chunk b k)) else c.wrK page b k
def Ch.save (c : Ch) (b : List UInt8) : Ch × Nat :=
  if c.room < b.length then (c, 2) else if c.dead then (c, 6) else
  if (c.wr c.into zero8).2 = false then ((c.wr c.into zero8).1, 6) else
  if ((c.wr c.into zero8).1.wrK (c.into + 1) b (nch b)).2 = false then (((c.wr c.into zero8).1.wrK (c.into + 1) b (nch b)).1, 6) else
  ((((c.wr c.into zero8).1.wrK (c.into + 1) b (nch b)).1.wr c.into (head (nxt c.kept.1) b)).1, if (((c.wr c.into zero8).1.wrK (c.into + 1) b (nch b)).1.wr c.into (head (nxt c.kept.1) b)).2 then 0 else 6)
def Ch.erase (c : Ch) : Ch × Nat :=
  if c.dead then (c, 6) else
  if (c.wr 0 zero8).2 = false then ((c.wr 0 zero8).1, 6) else
  (((c.wr 0 zero8).1.wr c.many zero8).1, if ((c.wr 0 zero8).1.wr c.many zero8).2 then 0 else 6)
section
variable {c : Ch}
theorem zero8_len : zero8.length = 8 := by simp [zero8]
theorem chunk_len (b : List UInt8) (k : Nat) : (chunk b k).length ≤ 8 := by simp [chunk]; omega
theorem pad_len (b : List UInt8) (h : b.length ≤ 8) : (pad b).length = 8 := by simp [pad]; omega
theorem head_len (k : Nat) (b : List UInt8) : (head k b).length = 8 := by simp [head, le_len]
theorem Ch.put_ok (h : c.Ok) {i : Nat} (hi : i < c.n) {b : List UInt8} (hb : b.length = 8) : (c.put i b).Ok := by
  have := h.len; have := h.l1; have := h.l2
  refine ⟨?_, h.lo, h.hi, ?_, ?_⟩
  · show (splice c.pg (8 * i) b).length = _
    rw [splice_len (by omega)]; exact h.len
  · show (-1 : Int) ≤ if 0 < c.left then c.left - 1 else c.left
    split <;> omega
  · show (if 0 < c.left then c.left - 1 else c.left) < _
    split <;> omega
theorem Ch.wr_ok (h : c.Ok) (i : Int) {b : List UInt8} (hb : b.length = 8) : (c.wr i b).1.Ok := by
  unfold Ch.wr
  split
  · exact h
  · rename_i hq
    split
    · exact ⟨h.len, h.lo, h.hi, h.l1, h.l2⟩
    · refine Ch.put_ok h ?_ hb
      simp [Ch.has] at hq
      omega
theorem Ch.wr_n (c : Ch) (i : Int) (b : List UInt8) : (c.wr i b).1.n = c.n := by
  unfold Ch.wr
  split
  · rfl
  · split <;> rfl
theorem Ch.wrK_n (c : Ch) (page : Nat) (b : List UInt8) (k : Nat) : (c.wrK page b k).1.n = c.n := by
  induction k with
  | zero => rfl
  | succ k ih =>
    simp only [Ch.wrK]
    split
    · rw [Ch.wr_n]; exact ih
    · exact ih
theorem Ch.wrK_ok (h : c.Ok) (page : Nat) (b : List UInt8) (k : Nat) : (c.wrK page b k).1.Ok := by
  induction k with
  | zero => exact h
  | succ k ih =>
    simp only [Ch.wrK]
    split
    · exact Ch.wr_ok ih _ (pad_len _ (chunk_len _ _))
    · exact ih
theorem Ch.save_ok (h : c.Ok) (b : List UInt8) : (c.save b).1.Ok := by
  unfold Ch.save
  split
  · exact h
  split
  · exact h
  split
  · exact Ch.wr_ok h _ zero8_len
  split
  · exact Ch.wrK_ok (Ch.wr_ok h _ zero8_len) _ _ _
  · exact Ch.wr_ok (Ch.wrK_ok (Ch.wr_ok h _ zero8_len) _ _ _) _ (head_len _ _)
theorem Ch.erase_ok (h : c.Ok) : c.erase.1.Ok := by
  unfold Ch.erase
  split
  · exact h
  split
  · exact Ch.wr_ok h _ zero8_len
  · exact Ch.wr_ok (Ch.wr_ok h _ zero8_len) _ zero8_len
theorem Ch.cut_ok (h : c.Ok) {a : Int} (ha : a < 9223372036854775808) : (c.cut a).Ok := by
  refine ⟨h.len, h.lo, h.hi, ?_, ?_⟩
  · show (-1 : Int) ≤ if a < -1 then -1 else a
    split <;> omega
  · show (if a < -1 then -1 else a) < _
    split <;> omega
theorem Ch.power_ok (h : c.Ok) : c.power.Ok := ⟨h.len, h.lo, h.hi, (by show (-1 : Int) ≤ -1; decide), (by show (-1 : Int) < 9223372036854775808; decide)⟩
theorem Ch.save_n (c : Ch) (b : List UInt8) : (c.save b).1.n = c.n := by
  unfold Ch.save
  split
  · rfl
  split
  · rfl
  split
  · exact Ch.wr_n _ _ _
  split
  · rw [Ch.wrK_n, Ch.wr_n]
  · rw [Ch.wr_n, Ch.wrK_n, Ch.wr_n]
theorem hs_fst (room : Nat) (s : List UInt8) : (hs room s).1 < 65536 := by
  have h := num_lt (s.take 2)
  have h2 : (256 : Nat) ^ (s.take 2).length ≤ 256 ^ 2 := Nat.pow_le_pow_right (by decide) (by simp; omega)
  unfold hs
  split
  · decide
  · split
    · show num (s.take 2) < 65536
      omega
    · decide
theorem hs_snd (room : Nat) (s : List UInt8) (h : (hs room s).1 = 0) : (hs room s).2 = [] := by
  unfold hs at *
  split
  · rfl
  · split
    · rename_i h1 h2
      rw [if_neg h1, if_pos h2] at h
      simp at h1 h
      omega
    · rfl
theorem hs_len (room : Nat) (s : List UInt8) : (hs room s).2.length ≤ room := by
  unfold hs
  split
  · simp
  · rename_i h1
    split
    · simp only [List.length_take]
      omega
    · simp
theorem nxt_pos (k : Nat) : 0 < nxt k := by unfold nxt; split <;> omega
theorem nxt_lt {k : Nat} (h : k < 65536) : nxt k < 65536 := by unfold nxt; split <;> omega
theorem nxt_ne {k : Nat} (h : k < 65536) : nxt (nxt k) ≠ k := by unfold nxt; split <;> split <;> omega
theorem Ch.latest_le (c : Ch) : c.latest = 0 ∨ c.latest = 1 := by unfold Ch.latest; split <;> simp
theorem Ch.kept_lt (c : Ch) : c.kept.1 < 65536 := by unfold Ch.kept; split <;> exact hs_fst _ _
end
end Go.Proofs.Nv
