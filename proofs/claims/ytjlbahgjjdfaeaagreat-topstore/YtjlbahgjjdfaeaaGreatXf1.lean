/- A chip in memory; contracts of its small calls. -/
import Derived.Below
import Derived.Test.YtjlbahgjjdfaeaaGreatTyE
import Derived.Test.YtjlbahgjjdfaeaaGreatTyLa
import Derived.Deep.MidRow
import Derived.Deep.WholeRow
import Derived.Laws.CopyRow
import Derived.Laws.MakeOwn
namespace Go.Proofs.Bits

def isBit (c : UInt8) : Bool := c == 48 || c == 49
/-- A text's error: 2 too long, 8 another byte, 0 none. -/
def err (l : List UInt8) : Int := if 65536 < l.length then 2 else if l.all isBit then 0 else 8

theorem err_zero {l : List UInt8} (h : err l = 0) : l.length ≤ 65536 ∧ l.all isBit = true := by
  unfold err at h
  split at h
  · simp at h
  · split at h
    · exact ⟨by omega, by assumption⟩
    · simp at h

theorem take_snoc (s : ByteArray) (k : Nat) (h : k < s.size) : s.data.toList.take (k + 1) = s.data.toList.take k ++ [s[k]] := by
  rw [List.take_succ_eq_append_getElem (by simpa using h)]; rfl
theorem take_all (s : ByteArray) : s.data.toList.take s.size = s.data.toList := by
  rw [List.take_of_length_le]; simp
theorem size_len (s : ByteArray) : s.data.toList.length = s.size := by simp

theorem isBit_cases {c : UInt8} (h : isBit c = true) : c.toNat = 48 ∨ c.toNat = 49 := by
  simp [isBit] at h
  rcases h with h | h <;> subst h <;> simp
theorem isBit_of {c : UInt8} (h : c.toNat = 48 ∨ c.toNat = 49) : isBit c = true := by
  simp only [isBit, Bool.or_eq_true, beq_iff_eq]
  rcases h with h | h
  · exact .inl (UInt8.toNat_inj.1 h)
  · exact .inr (UInt8.toNat_inj.1 h)
theorem isBit_not {c : UInt8} (h : isBit c = false) : c.toNat ≠ 48 ∧ c.toNat ≠ 49 := by
  constructor <;> intro e
  · rw [isBit_of (.inl e)] at h; cases h
  · rw [isBit_of (.inr e)] at h; cases h
theorem all_at {s : ByteArray} (h : s.data.toList.all isBit = true) (k : Nat) (hk : k < s.size) : s[k].toNat = 48 ∨ s[k].toNat = 49 := by
  rw [List.all_eq_true] at h
  exact isBit_cases (h s[k] (by show s.data[k] ∈ _; simp))
theorem all_snoc (l : List UInt8) (c : UInt8) (h : l.all isBit = true) (hc : isBit c = true) : (l ++ [c]).all isBit = true := by
  simp [List.all_append, h, hc]
theorem not_all {s : ByteArray} (k : Nat) (hk : k < s.size) (h : isBit s[k] = false) : s.data.toList.all isBit = false := by
  rw [← Bool.not_eq_true, List.all_eq_true]
  intro hh
  rw [hh s[k] (by show s.data[k] ∈ _; simp)] at h
  cases h

/-- One bit more into the register of fifteen bits. -/
def crcStep (x c : Nat) : Nat := if x / 16384 = c then x * 2 % 32768 else (x * 2 % 32768) ^^^ 17817
def crcFrom (x : Nat) (l : List UInt8) : Nat := l.foldl (fun x c => crcStep x (c.toNat - 48)) x
def crc (l : List UInt8) : Nat := crcFrom 0 l
def crcV (l : List UInt8) : Nat := if err l = 0 then crc l else 0
theorem crcStep_lt (x c : Nat) : crcStep x c < 32768 := by
  unfold crcStep
  split
  · omega
  · exact Nat.xor_lt_two_pow (n := 15) (by omega) (by omega)
theorem crcFrom_lt (x : Nat) (l : List UInt8) (h : x < 32768) : crcFrom x l < 32768 := by
  induction l generalizing x with
  | nil => exact h
  | cons c l ih => exact ih _ (crcStep_lt _ _)
theorem crc_lt (l : List UInt8) : crc l < 32768 := crcFrom_lt _ _ (by omega)
theorem crcV_lt (l : List UInt8) : crcV l < 32768 := by
  unfold crcV; split
  · exact crc_lt _
  · omega
theorem crcFrom_append (x : Nat) (l r : List UInt8) : crcFrom x (l ++ r) = crcFrom (crcFrom x l) r := by simp [crcFrom, List.foldl_append]
theorem crc_snoc (l : List UInt8) (c : UInt8) : crc (l ++ [c]) = crcStep (crc l) (c.toNat - 48) := by simp [crc, crcFrom]
theorem crcStep_ne {x c : Nat} (h : x / 16384 ≠ c) : crcStep x c = (x * 2 % 32768) ^^^ 17817 := by simp [crcStep, h]
theorem crcStep_eq {x c : Nat} (h : x / 16384 = c) : crcStep x c = x * 2 % 32768 := by simp [crcStep, h]

/-- One turn of the register of sixteen bits. -/
def turn16 (x : Nat) : Nat := if x / 32768 = 1 then (x * 2 % 65536) ^^^ 4129 else x * 2 % 65536
theorem turn16_lt (x : Nat) : turn16 x < 65536 := by
  unfold turn16
  split
  · exact Nat.xor_lt_two_pow (n := 16) (by omega) (by omega)
  · omega
def turns16 : Nat → Nat → Nat
  | 0, x => x
  | n + 1, x => turn16 (turns16 n x)
theorem turns16_lt (n x : Nat) (h : x < 65536) : turns16 n x < 65536 := by
  cases n with
  | zero => exact h
  | succ n => exact turn16_lt _
def byte16 (x : Nat) (b : UInt8) : Nat := turns16 8 (x ^^^ (b.toNat * 256))
theorem xor16_lt (x : Nat) (b : UInt8) (h : x < 65536) : x ^^^ (b.toNat * 256) < 65536 :=
  Nat.xor_lt_two_pow (n := 16) (by omega) (by have := b.toNat_lt; omega)
theorem byte16_lt (x : Nat) (b : UInt8) (h : x < 65536) : byte16 x b < 65536 := turns16_lt _ _ (xor16_lt x b h)
def crc16From (x : Nat) (l : List UInt8) : Nat := l.foldl byte16 x
def crc16 (l : List UInt8) : Nat := crc16From 0 l
theorem crc16From_lt (x : Nat) (l : List UInt8) (h : x < 65536) : crc16From x l < 65536 := by
  induction l generalizing x with
  | nil => exact h
  | cons c l ih => exact ih _ (byte16_lt _ _ h)
theorem crc16_lt (l : List UInt8) : crc16 l < 65536 := crc16From_lt _ _ (by omega)
theorem crc16_snoc (l : List UInt8) (c : UInt8) : crc16 (l ++ [c]) = byte16 (crc16 l) c := by simp [crc16, crc16From]
theorem ltake_snoc {α : Type} (l : List α) (k : Nat) (h : k < l.length) : l.take (k + 1) = l.take k ++ [l[k]] := List.take_succ_eq_append_getElem h
end Go.Proofs.Bits
namespace Go.Proofs.Nv
open Go.Proofs.Bits
set_option linter.unusedVariables false
set_option maxRecDepth 1000000
/-- A part of a list that is written anew. -/
def splice {α : Type} (l : List α) (o : Nat) (b : List α) : List α := l.take o ++ b ++ l.drop (o + b.length)
section
variable {α : Type} {l b x y : List α} {o : Nat}
theorem splice_len (h : o + b.length ≤ l.length) : (splice l o b).length = l.length := by
  unfold splice
  simp only [List.length_append, List.length_take, List.length_drop]
  omega
theorem splice_map {β : Type} (f : α → β) (l b : List α) (o : Nat) : (splice l o b).map f = splice (l.map f) o (b.map f) := by
  simp [splice]
theorem splice_get (h : o + b.length ≤ l.length) (k : Nat) : (splice l o b)[k]? = if o ≤ k ∧ k < o + b.length then b[k - o]? else l[k]? := by
  unfold splice
  by_cases h1 : k < o
  · rw [List.append_assoc, List.getElem?_append_left (by rw [List.length_take]; omega), if_neg (by omega), List.getElem?_take, if_pos h1]
  · by_cases h2 : k < o + b.length
    · rw [List.getElem?_append_left (by rw [List.length_append, List.length_take]; omega), List.getElem?_append_right (by rw [List.length_take]; omega), if_pos (by omega), List.length_take, Nat.min_eq_left (by omega)]
    · rw [List.getElem?_append_right (by rw [List.length_append, List.length_take]; omega), if_neg (by omega), List.length_append, List.length_take, Nat.min_eq_left (by omega), List.getElem?_drop]
      congr 1
      omega
theorem splice_nil (l : List α) (o : Nat) : splice l o [] = l := by simp [splice]
theorem splice_next (h : o + x.length + y.length ≤ l.length) : splice (splice l o x) (o + x.length) y = splice l o (x ++ y) := by
  apply List.ext_getElem?
  intro k
  rw [splice_get (by rw [splice_len (by omega)]; omega), splice_get (by omega), splice_get (by rw [List.length_append]; omega), List.length_append]
  by_cases h1 : o + x.length ≤ k ∧ k < o + x.length + y.length
  · rw [if_pos h1, if_pos (by omega), List.getElem?_append_right (by omega)]
    congr 1
    omega
  · rw [if_neg h1]
    by_cases h2 : o ≤ k ∧ k < o + x.length
    · rw [if_pos h2, if_pos (by omega), List.getElem?_append_left (by omega)]
    · rw [if_neg h2, if_neg (by omega)]
/-- What of a list is not written stays. -/
theorem splice_apart (h : o + b.length ≤ l.length) (p n : Nat) (hap : p + n ≤ o ∨ o + b.length ≤ p) : ((splice l o b).drop p).take n = (l.drop p).take n := by
  apply List.ext_getElem?
  intro k
  rw [List.getElem?_take, List.getElem?_take]
  split
  · rw [List.getElem?_drop, List.getElem?_drop, splice_get h, if_neg (by omega)]
  · rfl
/-- What is written within a part is written in the part. -/
theorem splice_in (h : o + b.length ≤ l.length) (p n : Nat) (h1 : p ≤ o) (h2 : o + b.length ≤ p + n) (h3 : p + n ≤ l.length) : ((splice l o b).drop p).take n = splice ((l.drop p).take n) (o - p) b := by
  apply List.ext_getElem?
  intro k
  rw [splice_get (by rw [List.length_take, List.length_drop]; omega), List.getElem?_take]
  by_cases hk : k < n
  · rw [if_pos hk, List.getElem?_drop, splice_get h]
    by_cases h4 : o ≤ p + k ∧ p + k < o + b.length
    · rw [if_pos h4, if_pos (by omega)]
      congr 1
      omega
    · rw [if_neg h4, if_neg (by omega), List.getElem?_take, if_pos hk, List.getElem?_drop]
  · rw [if_neg hk, if_neg (by omega), List.getElem?_take, if_neg hk]
end
/-- A number of bytes, the lowest first. -/
def num : List UInt8 → Nat
  | [] => 0
  | x :: r => x.toNat + 256 * num r
def le (n : Nat) : Nat → List UInt8
  | 0 => []
  | k + 1 => UInt8.ofNat (n % 256) :: le (n / 256) k
theorem le_len (n k : Nat) : (le n k).length = k := by
  induction k generalizing n with
  | zero => rfl
  | succ k ih => simp [le, ih]
theorem num_le (n k : Nat) (h : n < 256 ^ k) : num (le n k) = n := by
  induction k generalizing n with
  | zero => simp at h; subst h; rfl
  | succ k ih =>
    have h2 : n / 256 < 256 ^ k := by rw [Nat.div_lt_iff_lt_mul (by decide)]; rw [Nat.pow_succ] at h; omega
    simp only [le, num, ih _ h2]
    rw [show (UInt8.ofNat (n % 256)).toNat = n % 256 by simp]
    omega
theorem num_lt (l : List UInt8) : num l < 256 ^ l.length := by
  induction l with
  | nil => simp [num]
  | cons x r ih =>
    have := x.toNat_lt
    simp only [num, List.length_cons, Nat.pow_succ]
    omega
theorem num_snoc (l : List UInt8) (x : UInt8) : num (l ++ [x]) = num l + 256 ^ l.length * x.toNat := by
  induction l with
  | nil => simp [num]
  | cons y r ih =>
    simp only [List.cons_append, num, ih, List.length_cons, Nat.pow_succ]
    rw [Nat.mul_add, ← Nat.mul_assoc, Nat.mul_comm 256 (256 ^ r.length)]
    omega
theorem le_snoc (n k : Nat) : le n (k + 1) = le n k ++ [UInt8.ofNat (n / 256 ^ k % 256)] := by
  induction k generalizing n with
  | zero => simp [le]
  | succ k ih =>
    rw [le, ih, le, List.cons_append, Nat.div_div_eq_div_mul, Nat.pow_succ, Nat.mul_comm 256]
/-- A chip: its pages' bytes, one behind the other; how many pages; Writes that are left; is it dead? -/
structure Ch where
  pg : List UInt8
  n : Nat
  left : Int
  dead : Bool
structure Ch.Ok (c : Ch) : Prop where
  len : c.pg.length = 8 * c.n
  lo : 4 ≤ c.n
  hi : c.n ≤ 32768
  l1 : -1 ≤ c.left
  l2 : c.left < 9223372036854775808
def Ch.new (n : Nat) : Ch := ⟨List.replicate (8 * n) 0, n, -1, false⟩
theorem Ch.new_ok {n : Nat} (h1 : 4 ≤ n) (h2 : n ≤ 32768) : (Ch.new n).Ok := ⟨by simp [Ch.new], h1, h2, (by show (-1 : Int) ≤ -1; decide), (by show (-1 : Int) < 9223372036854775808; decide)⟩
def Ch.has (c : Ch) (i : Int) : Bool := decide (0 ≤ i ∧ i < c.n)
def Ch.put (c : Ch) (i : Nat) (b : List UInt8) : Ch := ⟨splice c.pg (8 * i) b, c.n, if 0 < c.left then c.left - 1 else c.left, c.dead⟩
def Ch.die (c : Ch) : Ch := ⟨c.pg, c.n, c.left, true⟩
def Ch.cut (c : Ch) (a : Int) : Ch := ⟨c.pg, c.n, if a < -1 then -1 else a, c.dead⟩
def Ch.power (c : Ch) : Ch := ⟨c.pg, c.n, -1, false⟩
def Ch.wr (c : Ch) (i : Int) (b : List UInt8) : Ch × Bool :=
  if c.has i = false ∨ c.dead = true then (c, false) else if c.left = 0 then (c.die, false) else (c.put i.toNat b, true)
def zero8 : List UInt8 := List.replicate 8 0
def Ch.rd (c : Ch) (i : Int) : List UInt8 := if c.has i then (c.pg.drop (8 * i.toNat)).take 8 else zero8
def Ch.many (c : Ch) : Nat := c.n / 2
def Ch.room (c : Ch) : Nat := 8 * (c.n / 2 - 1)
/-- What the bytes of a half hold. -/
def hs (room : Nat) (s : List UInt8) : Nat × List UInt8 :=
  if num (s.take 2) = 0 ∨ room < num ((s.drop 2).take 4) then (0, []) else
  if num ((s.drop 6).take 2) = crc16 (s.take 6 ++ (s.drop 8).take (num ((s.drop 2).take 4))) then (num (s.take 2), (s.drop 8).take (num ((s.drop 2).take 4))) else (0, [])
def Ch.seg (c : Ch) (f : Nat) : List UInt8 := (c.pg.drop (8 * f)).take (8 * c.many)
def Ch.holds (c : Ch) (f : Nat) : Nat × List UInt8 := hs c.room (c.seg f)
def nxt (k : Nat) : Nat := if k = 65535 then 1 else k + 1
def Ch.latest (c : Ch) : Nat := if (c.holds 0).1 = 0 ∨ (c.holds c.many).1 = nxt (c.holds 0).1 then 1 else 0
def Ch.kept (c : Ch) : Nat × List UInt8 := if c.latest = 1 then c.holds c.many else c.holds 0
def Ch.into (c : Ch) : Nat := if c.latest = 1 then 0 else c.many
def head (k : Nat) (b : List UInt8) : List UInt8 := le k 2 ++ le b.length 4 ++ le (crc16 (le k 2 ++ le b.length 4 ++ b)) 2
def nch (b : List UInt8) : Nat := (b.length + 7) / 8
def pad (b : List UInt8) : List UInt8 := b ++ List.replicate (8 - b.length) 0
def chunk (b : List UInt8) (k : Nat) : List UInt8 := (b.drop (8 * k)).take 8
def Ch.wrK (c : Ch) (page : Nat) (b : List UInt8) : Nat → Ch × Bool
  | 0 => (c, true)
  | k + 1 => if (c.wrK page b k).2 then (c.wrK page b k).1.wr ((page + k : Nat) : Int) (pad (chunk b k)) else c.wrK page b k
def Ch.save (c : Ch) (b : List UInt8) : Ch × Nat :=
  if c.room < b.length then (c, 2) else if c.dead then (c, 6) else
  if (c.wr c.into zero8).2 = false then ((c.wr c.into zero8).1, 6) else
  if ((c.wr c.into zero8).1.wrK (c.into + 1) b (nch b)).2 = false then (((c.wr c.into zero8).1.wrK (c.into + 1) b (nch b)).1, 6) else
  ((((c.wr c.into zero8).1.wrK (c.into + 1) b (nch b)).1.wr c.into (head (nxt c.kept.1) b)).1, if (((c.wr c.into zero8).1.wrK (c.into + 1) b (nch b)).1.wr c.into (head (nxt c.kept.1) b)).2 then 0 else 6)
def Ch.erase (c : Ch) : Ch × Nat :=
  if c.dead then (c, 6) else
  if (c.wr 0 zero8).2 = false then ((c.wr 0 zero8).1, 6) else
  (((c.wr 0 zero8).1.wr c.many zero8).1, if ((c.wr 0 zero8).1.wr c.many zero8).2 then 0 else 6)
section
variable {c : Ch}
theorem zero8_len : zero8.length = 8 := by simp [zero8]
theorem chunk_len (b : List UInt8) (k : Nat) : (chunk b k).length ≤ 8 := by simp [chunk]; omega
theorem pad_len (b : List UInt8) (h : b.length ≤ 8) : (pad b).length = 8 := by simp [pad]; omega
theorem head_len (k : Nat) (b : List UInt8) : (head k b).length = 8 := by simp [head, le_len]
theorem Ch.put_ok (h : c.Ok) {i : Nat} (hi : i < c.n) {b : List UInt8} (hb : b.length = 8) : (c.put i b).Ok := by
  have := h.len; have := h.l1; have := h.l2
  refine ⟨?_, h.lo, h.hi, ?_, ?_⟩
  · show (splice c.pg (8 * i) b).length = _
    rw [splice_len (by omega)]; exact h.len
  · show (-1 : Int) ≤ if 0 < c.left then c.left - 1 else c.left
    split <;> omega
  · show (if 0 < c.left then c.left - 1 else c.left) < _
    split <;> omega
theorem Ch.wr_ok (h : c.Ok) (i : Int) {b : List UInt8} (hb : b.length = 8) : (c.wr i b).1.Ok := by
  unfold Ch.wr
  split
  · exact h
  · rename_i hq
    split
    · exact ⟨h.len, h.lo, h.hi, h.l1, h.l2⟩
    · refine Ch.put_ok h ?_ hb
      simp [Ch.has] at hq
      omega
theorem Ch.wr_n (c : Ch) (i : Int) (b : List UInt8) : (c.wr i b).1.n = c.n := by
  unfold Ch.wr
  split
  · rfl
  · split <;> rfl
theorem Ch.wrK_n (c : Ch) (page : Nat) (b : List UInt8) (k : Nat) : (c.wrK page b k).1.n = c.n := by
  induction k with
  | zero => rfl
  | succ k ih =>
    simp only [Ch.wrK]
    split
    · rw [Ch.wr_n]; exact ih
    · exact ih
theorem Ch.wrK_ok (h : c.Ok) (page : Nat) (b : List UInt8) (k : Nat) : (c.wrK page b k).1.Ok := by
  induction k with
  | zero => exact h
  | succ k ih =>
    simp only [Ch.wrK]
    split
    · exact Ch.wr_ok ih _ (pad_len _ (chunk_len _ _))
    · exact ih
theorem Ch.save_ok (h : c.Ok) (b : List UInt8) : (c.save b).1.Ok := by
  unfold Ch.save
  split
  · exact h
  split
  · exact h
  split
  · exact Ch.wr_ok h _ zero8_len
  split
  · exact Ch.wrK_ok (Ch.wr_ok h _ zero8_len) _ _ _
  · exact Ch.wr_ok (Ch.wrK_ok (Ch.wr_ok h _ zero8_len) _ _ _) _ (head_len _ _)
theorem Ch.erase_ok (h : c.Ok) : c.erase.1.Ok := by
  unfold Ch.erase
  split
  · exact h
  split
  · exact Ch.wr_ok h _ zero8_len
  · exact Ch.wr_ok (Ch.wr_ok h _ zero8_len) _ zero8_len
theorem Ch.cut_ok (h : c.Ok) {a : Int} (ha : a < 9223372036854775808) : (c.cut a).Ok := by
  refine ⟨h.len, h.lo, h.hi, ?_, ?_⟩
  · show (-1 : Int) ≤ if a < -1 then -1 else a
    split <;> omega
  · show (if a < -1 then -1 else a) < _
    split <;> omega
theorem Ch.power_ok (h : c.Ok) : c.power.Ok := ⟨h.len, h.lo, h.hi, (by show (-1 : Int) ≤ -1; decide), (by show (-1 : Int) < 9223372036854775808; decide)⟩
theorem Ch.save_n (c : Ch) (b : List UInt8) : (c.save b).1.n = c.n := by
  unfold Ch.save
  split
  · rfl
  split
  · rfl
  split
  · exact Ch.wr_n _ _ _
  split
  · rw [Ch.wrK_n, Ch.wr_n]
  · rw [Ch.wr_n, Ch.wrK_n, Ch.wr_n]
theorem hs_fst (room : Nat) (s : List UInt8) : (hs room s).1 < 65536 := by
  have h := num_lt (s.take 2)
  have h2 : (256 : Nat) ^ (s.take 2).length ≤ 256 ^ 2 := Nat.pow_le_pow_right (by decide) (by simp; omega)
  unfold hs
  split
  · decide
  · split
    · show num (s.take 2) < 65536
      omega
    · decide
theorem hs_snd (room : Nat) (s : List UInt8) (h : (hs room s).1 = 0) : (hs room s).2 = [] := by
  unfold hs at *
  split
  · rfl
  · split
    · rename_i h1 h2
      rw [if_neg h1, if_pos h2] at h
      simp at h1 h
      omega
    · rfl
theorem hs_len (room : Nat) (s : List UInt8) : (hs room s).2.length ≤ room := by
  unfold hs
  split
  · simp
  · rename_i h1
    split
    · simp only [List.length_take]
      omega
    · simp
theorem nxt_pos (k : Nat) : 0 < nxt k := by unfold nxt; split <;> omega
theorem nxt_lt {k : Nat} (h : k < 65536) : nxt k < 65536 := by unfold nxt; split <;> omega
theorem nxt_ne {k : Nat} (h : k < 65536) : nxt (nxt k) ≠ k := by unfold nxt; split <;> split <;> omega
theorem Ch.latest_le (c : Ch) : c.latest = 0 ∨ c.latest = 1 := by unfold Ch.latest; split <;> simp
theorem Ch.kept_lt (c : Ch) : c.kept.1 < 65536 := by unfold Ch.kept; split <;> exact hs_fst _ _
end
end Go.Proofs.Nv
namespace Go.Proofs.YtjlbahgjjdfaeaaGreat.Nz
open Go.RowKit Go.Proofs.Ty Go.Proofs.Nv
set_option linter.unusedVariables false
set_option maxRecDepth 1000000
set_option linter.unusedSimpArgs false
/-- Blocks other than g and h stand; nothing else is changed. -/
structure Two (g h : Nat) (w w' : World) : Prop where
  os : w'.os = w.os
  tape : w'.tape = w.tape
  output : w'.output = w.output
  size : w.heap.size ≤ w'.heap.size
  block : ∀ k, k < w.heap.size → k ≠ g → k ≠ h → w'.heap[k]? = w.heap[k]?
section
variable {g h : Nat} {a b c w : World}
theorem Two.refl (g h : Nat) (w : World) : Two g h w w := ⟨rfl, rfl, rfl, Nat.le_refl _, fun _ _ _ _ => rfl⟩
theorem Two.trans (x : Two g h a b) (y : Two g h b c) : Two g h a c :=
  ⟨y.os.trans x.os, y.tape.trans x.tape, y.output.trans x.output, Nat.le_trans x.size y.size, fun k hk h1 h2 => (y.block k (Nat.lt_of_lt_of_le hk x.size) h1 h2).trans (x.block k hk h1 h2)⟩
theorem Two.setCell (x : Two g h a w) {p : Addr} (hp : p.block = g ∨ p.block = h ∨ a.heap.size ≤ p.block) (v : Value) : Two g h a (w.setCell p v) :=
  ⟨x.os, x.tape, x.output, by simpa [World.setCell] using x.size, fun k hk h1 h2 => (Below.heap_setCell w p v k (by omega)).trans (x.block k hk h1 h2)⟩
theorem Two.alloc (x : Two g h a w) (o : Obj) : Two g h a (w.alloc o) :=
  ⟨x.os, x.tape, x.output, Nat.le_trans x.size (by simp), fun k hk h1 h2 => (Below.heap_alloc _ _ _ (Nat.lt_of_lt_of_le hk x.size)).trans (x.block k hk h1 h2)⟩
theorem Two.drawn (x : Two g h a w) (n : Nat) : Two g h a (w.drewN n) := ⟨x.os, x.tape, x.output, x.size, x.block⟩
theorem Two.row (x : Two g h a w) (q : Nat) (hq : q = g ∨ q = h ∨ a.heap.size ≤ q) (cs : Array Value) : Two g h a (w.setRow q cs) :=
  ⟨x.os, x.tape, x.output, by simpa [World.setRow] using x.size, fun k hk h1 h2 => (Go.Proofs.YtjlbahgjjdfaeaaGreat.setRow_other w q k _ (by omega)).trans (x.block k hk h1 h2)⟩
theorem Two.at0 (x : Two g h a w) (i : Nat) (v : Value) : Two g h a (w.setCell ⟨g, i, none⟩ v) := x.setCell (p := ⟨g, i, none⟩) (.inl rfl) v
theorem Two.below (x : Two g h a w) {B : Nat} (hB : B ≤ a.heap.size) (hg : B ≤ g) (hh : B ≤ h) : Below B a w :=
  ⟨x.os, x.tape, x.output, x.size, fun k hk => x.block k (by omega) (by omega) (by omega)⟩
theorem Two.of_below (x : Below a.heap.size a w) (g h : Nat) : Two g h a w := ⟨x.os, x.tape, x.output, x.size, fun k hk _ _ => x.block k hk⟩
end
abbrev byC (l : List UInt8) : List Value := Lib.byteCells l
/-- A page as a value. -/
def pgV (b : List UInt8) : Value := .agg (byC b).toArray
/-- The chip in block C, its pages in block P. -/
structure Cm (C P : Nat) (c : Ch) (w : World) : Prop where
  head : w.heap[C]? = some (.cells #[.slice (some ⟨P, 0, none⟩) c.n c.n, .int .i64 c.left, .bool c.dead] 56 (0, 0))
  pages : w.heap[P]? = some (.cells (byC c.pg).toArray 81 (0, 0))
  ok : c.Ok
theorem byC_get (l : List UInt8) (k : Nat) (h : k < l.length) : (byC l)[k]? = some (.int .u8 l[k].toNat) := by
  simp [Lib.byteCells, h]
theorem byC_splice (l b : List UInt8) (o : Nat) : byC (splice l o b) = splice (byC l) o (byC b) := by
  show Lib.byteCells _ = splice (Lib.byteCells _) _ (Lib.byteCells _)
  simp only [Lib.byteCells, splice_map]
section
variable {C P : Nat} {c : Ch} {w : World}
theorem Cm.lt (h : Cm C P c w) : C < w.heap.size := (Array.getElem?_eq_some_iff.1 h.head).1
theorem Cm.ltP (h : Cm C P c w) : P < w.heap.size := (Array.getElem?_eq_some_iff.1 h.pages).1
theorem Cm.ne (h : Cm C P c w) : C ≠ P := by
  intro e
  have h1 := h.head
  rw [e, h.pages] at h1
  simp at h1
theorem Cm.c0 (h : Cm C P c w) : w.cell? ⟨C, 0, none⟩ = some (.slice (some ⟨P, 0, none⟩) c.n c.n) := Lib.cell_of_heap h.head 0
theorem Cm.c1 (h : Cm C P c w) : w.cell? ⟨C, 1, none⟩ = some (.int .i64 c.left) := Lib.cell_of_heap h.head 1
theorem Cm.c2 (h : Cm C P c w) : w.cell? ⟨C, 2, none⟩ = some (.bool c.dead) := Lib.cell_of_heap h.head 2
theorem Cm.free (h : Cm C P c w) (k : Nat) : w.frozen? ⟨C, k, none⟩ = false := Lib.frozen_of_heap h.head k
theorem Cm.kept {w' : World} (h : Cm C P c w) (h1 : w'.heap[C]? = w.heap[C]?) (h2 : w'.heap[P]? = w.heap[P]?) : Cm C P c w' := ⟨h1.trans h.head, h2.trans h.pages, h.ok⟩
theorem Cm.below {w' : World} (h : Cm C P c w) (hb : Below w.heap.size w w') : Cm C P c w' := h.kept (hb.block C h.lt) (hb.block P h.ltP)
theorem Cm.two {g k : Nat} {w' : World} (h : Cm C P c w) (t : Two g k w w') (h1 : C ≠ g) (h2 : C ≠ k) (h3 : P ≠ g) (h4 : P ≠ k) : Cm C P c w' := h.kept (t.block C h.lt h1 h2) (t.block P h.ltP h3 h4)
theorem Cm.drawn (h : Cm C P c w) (n : Nat) : Cm C P c (w.drewN n) := ⟨h.head, h.pages, h.ok⟩
theorem Cm.setHead (h : Cm C P c w) (d : Ch) (hp : d.pg = c.pg) (hn : d.n = c.n) (hok : d.Ok) : Cm C P d (w.setRow C #[.slice (some ⟨P, 0, none⟩) c.n c.n, .int .i64 d.left, .bool d.dead]) := by
  refine ⟨?_, ?_, hok⟩
  · rw [hn]; exact Go.Proofs.YtjlbahgjjdfaeaaGreat.setRow_heap w C _ _ _ _ h.head
  · rw [hp]; exact (Go.Proofs.YtjlbahgjjdfaeaaGreat.setRow_other w C P _ h.ne.symm).trans h.pages
theorem Cm.left1 (h : Cm C P c w) (x : Int) (d : Ch) (hp : d.pg = c.pg) (hn : d.n = c.n) (hx : d.left = x) (hd : d.dead = c.dead) (hok : d.Ok) : Cm C P d (w.setCell ⟨C, 1, none⟩ (.int .i64 x)) := by
  refine ⟨?_, ?_, hok⟩
  · rw [hn, hx, hd]
    simp only [World.setCell, Array.getElem?_modify, h.head]
    simp
  · rw [hp]; exact (Below.heap_setCell w ⟨C, 1, none⟩ _ P (fun e => h.ne e.symm)).trans h.pages
theorem Cm.dead2 (h : Cm C P c w) (x : Bool) (d : Ch) (hp : d.pg = c.pg) (hn : d.n = c.n) (hx : d.left = c.left) (hd : d.dead = x) (hok : d.Ok) : Cm C P d (w.setCell ⟨C, 2, none⟩ (.bool x)) := by
  refine ⟨?_, ?_, hok⟩
  · rw [hn, hx, hd]
    simp only [World.setCell, Array.getElem?_modify, h.head]
    simp
  · rw [hp]; exact (Below.heap_setCell w ⟨C, 2, none⟩ _ P (fun e => h.ne e.symm)).trans h.pages
/-- A row of cells in which bytes are written anew. -/
def putA (cur : Array Value) (o : Nat) (b : List UInt8) : Array Value := (cur.toList.take o ++ byC b ++ cur.toList.drop (o + (byC b).length)).toArray
/-- A page is laid. -/
theorem Cm.page (h : Cm C P c w) (i : Nat) (b : List UInt8) (d : Ch) (hp : d.pg = splice c.pg (8 * i) b) (hn : d.n = c.n) (hx : d.left = c.left) (hd : d.dead = c.dead) (hok : d.Ok) :
    Cm C P d (w.setRow P (putA (byC c.pg).toArray (8 * i) b)) := by
  refine ⟨?_, ?_, hok⟩
  · rw [hn, hx, hd]; exact (Go.Proofs.YtjlbahgjjdfaeaaGreat.setRow_other w P C _ h.ne).trans h.head
  · rw [hp, byC_splice]
    exact Go.Proofs.YtjlbahgjjdfaeaaGreat.setRow_heap w P _ _ _ _ h.pages
theorem has_any (h : Cm C P c w) (i : Int) : Calls Tryz.prog 46 #[.pointer (some ⟨C, 0, none⟩), .int .i64 i] w fun e w' => e = .returned (.bool (c.has i)) ∧ w' = w := by
  have c0 := h.c0
  have HO : Hid (c.has i = decide (0 ≤ i ∧ i < c.n)) := rfl
  generalize c.has i = o at *
  generalize c.n = n at *
  clear h
  by_cases h1 : 0 ≤ i
  · have hd : decide (0 ≤ i) = true := by simpa using h1
    go_enter Tryz.func46, Tryz.ntmps46
    go_wp2
    go_ret
    exact ⟨ret_bool (by rw [HO.out]; simp [h1]), rfl⟩
  · have hd : decide (0 ≤ i) = false := by simpa using h1
    go_enter Tryz.func46, Tryz.ntmps46
    go_wp2
    go_ret
    exact ⟨ret_bool (by rw [HO.out]; simp; omega), rfl⟩
theorem Pages_any (h : Cm C P c w) : Calls Tryz.prog 43 #[.pointer (some ⟨C, 0, none⟩)] w fun e w' => e = .returned (.int .i64 c.n) ∧ w' = w := by
  have c0 := h.c0
  go_enter Tryz.func43, Tryz.ntmps43
  go_wp2
  go_ret
  exact ⟨rfl, rfl⟩
theorem Dead_any (h : Cm C P c w) : Calls Tryz.prog 20 #[.pointer (some ⟨C, 0, none⟩)] w fun e w' => e = .returned (.bool c.dead) ∧ w' = w := by
  have c2 := h.c2
  go_enter Tryz.func20, Tryz.ntmps20
  go_wp2
  go_ret
  exact ⟨rfl, rfl⟩
theorem halfPages_any (h : Cm C P c w) : Calls Tryz.prog 19 #[.pointer (some ⟨C, 0, none⟩)] w fun e w' => e = .returned (.int .i64 c.many) ∧ w' = w := by
  have HP := Pages_any h
  have h1 := h.ok.hi
  have HO : Hid (c.many = c.n / 2) := rfl
  generalize c.many = m at *
  generalize c.n = n at *
  go_enter Tryz.func19, Tryz.ntmps19
  go_wp2_with (go_at_call 43; refine HP.mono ?_; rintro e w' ⟨rfl, rfl⟩)
  go_ret
  exact ⟨ret_int (by rw [HO.out]; try omega), rfl⟩
theorem Room_any (h : Cm C P c w) : Calls Tryz.prog 8 #[.pointer (some ⟨C, 0, none⟩)] w fun e w' => e = .returned (.int .i64 c.room) ∧ w' = w := by
  have HP := halfPages_any h
  have h1 := h.ok.hi
  have h2 := h.ok.lo
  have HM : Hid (c.many = c.n / 2) := rfl
  have HO : Hid (c.room = 8 * (c.n / 2 - 1)) := rfl
  generalize c.many = m at *
  generalize c.room = r at *
  have h3 : m ≤ 16384 ∧ 2 ≤ m := by have := HM.out; omega
  have HR : Hid (r = 8 * (m - 1)) := by show r = _; rw [HO.out, HM.out]
  clear HO HM h1 h2
  go_enter Tryz.func8, Tryz.ntmps8
  go_wp2_with (go_at_call 19; refine HP.mono ?_; rintro e w' ⟨rfl, rfl⟩)
  go_ret
  exact ⟨ret_int (by rw [HR.out]; try omega), rfl⟩
theorem Room_nil (w : World) : Calls Tryz.prog 8 #[.pointer none] w fun e w' => e = .returned (.int .i64 0) ∧ w' = w := by
  go_enter Tryz.func8, Tryz.ntmps8
  go_wp2
  go_ret
  exact ⟨rfl, rfl⟩
theorem Power_any (h : Cm C P c w) : Calls Tryz.prog 11 #[.pointer (some ⟨C, 0, none⟩)] w fun e w' => (∃ v, e = .returned v) ∧ Cm C P c.power w' ∧ Two C P w w' := by
  have c1 := h.c1
  have c2 := h.c2
  have hf := h.free
  have HC := hidOf (h.left1 (-1) ⟨c.pg, c.n, -1, c.dead⟩ rfl rfl rfl rfl ⟨h.ok.len, h.ok.lo, h.ok.hi, by show (-1 : Int) ≤ -1; decide, by show (-1 : Int) < 9223372036854775808; decide⟩)
  have HT := hidOf ((Two.refl C P w).at0 1 (.int .i64 (-1)))
  clear h
  go_enter Tryz.func11, Tryz.ntmps11
  go_wp2
  go_end0
  exact ⟨⟨_, rfl⟩, HC.out.dead2 false c.power rfl rfl rfl rfl (Ch.power_ok (c := ⟨c.pg, c.n, -1, c.dead⟩) HC.out.ok), HT.out.at0 2 _⟩
theorem Cut_any (h : Cm C P c w) (a : Int) (h0 : -9223372036854775808 ≤ a) (ha : a < 9223372036854775808) : Calls Tryz.prog 9 #[.pointer (some ⟨C, 0, none⟩), .int .i64 a] w fun e w' => (∃ v, e = .returned v) ∧ Cm C P (c.cut a) w' ∧ Two C P w w' := by
  have c1 := h.c1
  have hf := h.free
  have HC := hidOf (h.left1 (c.cut a).left (c.cut a) rfl rfl rfl rfl (Ch.cut_ok h.ok ha))
  have HT := hidOf ((Two.refl C P w).at0 1 (.int .i64 (c.cut a).left))
  have HL : Hid ((c.cut a).left = if a < -1 then -1 else a) := rfl
  generalize (c.cut a).left = L at *
  clear h
  by_cases h1 : a < -1
  · obtain rfl : L = -1 := by rw [HL.out, if_pos h1]
    go_enter Tryz.func9, Tryz.ntmps9
    go_wp2
    go_end0
    exact ⟨⟨_, rfl⟩, HC.out, HT.out⟩
  · obtain rfl : L = a := by rw [HL.out, if_neg h1]
    go_enter Tryz.func9, Tryz.ntmps9
    go_wp2
    go_end0
    exact ⟨⟨_, rfl⟩, HC.out, HT.out⟩
/-- Storing of a page's bytes at its place. -/
theorem infoA8 : (Tryz.prog.info? 81).map (·.size) = some 8 := by kernel_rfl
theorem byC_len (l : List UInt8) : (byC l).length = l.length := Lib.byteCells_length l
theorem run_storePg (w : World) (g o : Nat) (cur : Array Value) (t : TypeId) (b : List UInt8) (hb : b.length = 8) (hg : w.heap[g]? = some (.cells cur t (0, 0))) (ho : o + 8 ≤ cur.size) :
    (Instr.storeAt 81 (.pointer (some ⟨g, o, none⟩)) (pgV b)).run Tryz.prog w = .ok () (w.setRow g (putA cur o b)) := by
  have hst := run_storeCells_at Tryz.prog g o t (byC b) 0 cur w hg (by rw [byC_len, hb]; omega) (byteCells_one b)
  cases hq : Tryz.prog.info? 81 with
  | none => have := infoA8; simp [hq] at this
  | some i =>
    have hs : i.size = 8 := by have := infoA8; simpa [hq] using this
    simp only [Nat.add_zero] at hst
    simp [Instr.storeAt, Instr.sureAddr, pgV, storeVar, sizeOf, typeInfo, hq, Value.cells, hs, byC_len, hb, hst, putA]
theorem wp_storePg {w : World} {o : Oper} {a : Act} {K : Act → World → Prop} {Q : Exit → Act → World → Prop} (x y : Operand) (ho : o.op = .store 81 x y) (g of : Nat) (cur : Array Value) (t : TypeId) (b : List UInt8) (hb : b.length = 8) (hx : a.eval x = .pointer (some ⟨g, of, none⟩)) (hy : a.eval y = pgV b) (hg : w.heap[g]? = some (.cells cur t (0, 0))) (hof : of + 8 ≤ cur.size)
    (h : K (a.put o.dst undef) (w.setRow g (putA cur of b))) : o.wp Tryz.prog a w K Q := by
  unfold Oper.wp execOp
  simp only [ho, hx, hy, Sem.run_bind, Sem.run_pure, Result.andThen_ok, run_storePg w g of cur t b hb hg hof]
  exact h
theorem Cm.range (h : Cm C P c w) (i : Nat) (hi : i < c.n) : w.rangeAt P (8 * i) (byC ((c.pg.drop (8 * i)).take 8)) := by
  intro j v hv
  have hl := h.ok.len
  have hj : j < 8 := by
    have := (List.getElem?_eq_some_iff.1 hv).1
    rw [byC_len, List.length_take] at this
    omega
  rw [Lib.cell_of_heap h.pages]
  have : (byC ((c.pg.drop (8 * i)).take 8))[j]? = (byC c.pg)[8 * i + j]? := by
    simp [Lib.byteCells, List.getElem?_take, hj]
  rw [this] at hv
  simpa using hv
theorem Cm.ld (h : Cm C P c w) (i : Nat) (hi : i < c.n) : (loadVar 81 ⟨P, 8 * i, none⟩).run Tryz.prog w = .ok (pgV ((c.pg.drop (8 * i)).take 8)) w :=
  run_loadVar_mid w P (8 * i) 81 _ _ (h.range i hi) Tryz.underlying81 rfl (by rw [infoA8, byC_len, List.length_take, List.length_drop, h.ok.len]; congr 1; omega)
end
end Go.Proofs.YtjlbahgjjdfaeaaGreat.Nz
