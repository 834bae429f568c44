/- Plain facts on bits as lists of bytes: no program is named here. -/
import Derived.Below
namespace Go.Proofs.Bits

def isBit (c : UInt8) : Bool := c == 48 || c == 49
/-- A text's error: 2 too long, 8 another byte, 0 none. -/
def err (l : List UInt8) : Int := if 65536 < l.length then 2 else if l.all isBit then 0 else 8

theorem err_zero {l : List UInt8} (h : err l = 0) : l.length ≤ 65536 ∧ l.all isBit = true := by
  unfold err at h
  split at h
  · simp at h
  · split at h
    · exact ⟨by omega, by assumption⟩
    · simp at h

theorem take_snoc (s : ByteArray) (k : Nat) (h : k < s.size) : s.data.toList.take (k + 1) = s.data.toList.take k ++ [s[k]] := by
  rw [List.take_succ_eq_append_getElem (by simpa using h)]; rfl
theorem take_all (s : ByteArray) : s.data.toList.take s.size = s.data.toList := by
  rw [List.take_of_length_le]; simp
theorem size_len (s : ByteArray) : s.data.toList.length = s.size := by simp

theorem isBit_cases {c : UInt8} (h : isBit c = true) : c.toNat = 48 ∨ c.toNat = 49 := by
  simp [isBit] at h
  rcases h with h | h <;> subst h <;> simp
theorem isBit_of {c : UInt8} (h : c.toNat = 48 ∨ c.toNat = 49) : isBit c = true := by
  simp only [isBit, Bool.or_eq_true, beq_iff_eq]
  rcases h with h | h
  · exact .inl (UInt8.toNat_inj.1 h)
  · exact .inr (UInt8.toNat_inj.1 h)
theorem isBit_not {c : UInt8} (h : isBit c = false) : c.toNat ≠ 48 ∧ c.toNat ≠ 49 := by
  constructor <;> intro e
  · rw [isBit_of (.inl e)] at h; cases h
  · rw [isBit_of (.inr e)] at h; cases h
theorem all_at {s : ByteArray} (h : s.data.toList.all isBit = true) (k : Nat) (hk : k < s.size) : s[k].toNat = 48 ∨ s[k].toNat = 49 := by
  rw [List.all_eq_true] at h
  exact isBit_cases (h s[k] (by show s.data[k] ∈ _; simp))
theorem all_snoc (l : List UInt8) (c : UInt8) (h : l.all isBit = true) (hc : isBit c = true) : (l ++ [c]).all isBit = true := by
  simp [List.all_append, h, hc]
theorem not_all {s : ByteArray} (k : Nat) (hk : k < s.size) (h : isBit s[k] = false) : s.data.toList.all isBit = false := by
  rw [← Bool.not_eq_true, List.all_eq_true]
  intro hh
  rw [hh s[k] (by show s.data[k] ∈ _; simp)] at h
  cases h

/-- One bit more into the register of fifteen bits. -/
def crcStep (x c : Nat) : Nat := if x / 16384 = c then x * 2 % 32768 else (x * 2 % 32768) ^^^ 17817
def crcFrom (x : Nat) (l : List UInt8) : Nat := l.foldl (fun x c => crcStep x (c.toNat - 48)) x
def crc (l : List UInt8) : Nat := crcFrom 0 l
def crcV (l : List UInt8) : Nat := if err l = 0 then crc l else 0
theorem crcStep_lt (x c : Nat) : crcStep x c < 32768 := by
  unfold crcStep
  split
  · omega
  · exact Nat.xor_lt_two_pow (n := 15) (by omega) (by omega)
theorem crcFrom_lt (x : Nat) (l : List UInt8) (h : x < 32768) : crcFrom x l < 32768 := by
  induction l generalizing x with
  | nil => exact h
  | cons c l ih => exact ih _ (crcStep_lt _ _)
theorem crc_lt (l : List UInt8) : crc l < 32768 := crcFrom_lt _ _ (by omega)
theorem crcV_lt (l : List UInt8) : crcV l < 32768 := by
  unfold crcV; split
  · exact crc_lt _
  · omega
theorem crcFrom_append (x : Nat) (l r : List UInt8) : crcFrom x (l ++ r) = crcFrom (crcFrom x l) r := by simp [crcFrom, List.foldl_append]
theorem crc_snoc (l : List UInt8) (c : UInt8) : crc (l ++ [c]) = crcStep (crc l) (c.toNat - 48) := by simp [crc, crcFrom]
theorem crcStep_ne {x c : Nat} (h : x / 16384 ≠ c) : crcStep x c = (x * 2 % 32768) ^^^ 17817 := by simp [crcStep, h]
theorem crcStep_eq {x c : Nat} (h : x / 16384 = c) : crcStep x c = x * 2 % 32768 := by simp [crcStep, h]

/-- One turn of the register of sixteen bits. -/
def turn16 (x : Nat) : Nat := if x / 32768 = 1 then (x * 2 % 65536) ^^^ 4129 else x * 2 % 65536
theorem turn16_lt (x : Nat) : turn16 x < 65536 := by
  unfold turn16
  split
  · exact Nat.xor_lt_two_pow (n := 16) (by omega) (by omega)
  · omega
def turns16 : Nat → Nat → Nat
  | 0, x => x
  | n + 1, x => turn16 (turns16 n x)
theorem turns16_lt (n x : Nat) (h : x < 65536) : turns16 n x < 65536 := by
  cases n with
  | zero => exact h
  | succ n => exact turn16_lt _
def byte16 (x : Nat) (b : UInt8) : Nat := turns16 8 (x ^^^ (b.toNat * 256))
theorem xor16_lt (x : Nat) (b : UInt8) (h : x < 65536) : x ^^^ (b.toNat * 256) < 65536 :=
  Nat.xor_lt_two_pow (n := 16) (by omega) (by have := b.toNat_lt; omega)
theorem byte16_lt (x : Nat) (b : UInt8) (h : x < 65536) : byte16 x b < 65536 := turns16_lt _ _ (xor16_lt x b h)
def crc16From (x : Nat) (l : List UInt8) : Nat := l.foldl byte16 x
def crc16 (l : List UInt8) : Nat := crc16From 0 l
theorem crc16From_lt (x : Nat) (l : List UInt8) (h : x < 65536) : crc16From x l < 65536 := by
  induction l generalizing x with
  | nil => exact h
  | cons c l ih => exact ih _ (byte16_lt _ _ h)
theorem crc16_lt (l : List UInt8) : crc16 l < 65536 := crc16From_lt _ _ (by omega)
theorem crc16_snoc (l : List UInt8) (c : UInt8) : crc16 (l ++ [c]) = byte16 (crc16 l) c := by simp [crc16, crc16From]
theorem ltake_snoc {α : Type} (l : List α) (k : Nat) (h : k < l.length) : l.take (k + 1) = l.take k ++ [l[k]] := List.take_succ_eq_append_getElem h
end Go.Proofs.Bits
