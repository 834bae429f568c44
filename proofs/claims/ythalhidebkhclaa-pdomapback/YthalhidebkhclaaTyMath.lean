/- Plain facts on values: no program is named here. -/
import Derived.Below
namespace Go.Proofs.Ty

/-- 1 without a sign, 2 with one, 3 a text, 4 octets, 0 none. -/
def kind (t : Int) : Nat := if t = 1 ∨ t = 5 ∨ t = 6 ∨ t = 7 ∨ t = 27 then 1 else if t = 2 ∨ t = 3 ∨ t = 4 ∨ t = 21 then 2 else if t = 9 then 3 else if t = 10 ∨ t = 15 then 4 else 0
def wid (t : Int) : Nat := if t = 1 then 1 else if t = 2 ∨ t = 5 then 8 else if t = 3 ∨ t = 6 then 16 else if t = 4 ∨ t = 7 then 32 else if t = 21 ∨ t = 27 then 64 else 0
def siz (t : Int) : Nat := if t = 1 ∨ t = 2 ∨ t = 5 then 1 else if t = 3 ∨ t = 6 then 2 else if t = 4 ∨ t = 7 then 4 else if t = 21 ∨ t = 27 then 8 else 0
/-- So many bits, without and with a sign. -/
def extN (b n : Nat) : Nat := if n % 2 ^ b < 2 ^ (b - 1) then n % 2 ^ b else n % 2 ^ b + (18446744073709551616 - 2 ^ b)
def prn (l : List UInt8) : Bool := l.all fun c => decide (32 ≤ c.toNat) && decide (c.toNat ≤ 126)
def chk (t : Int) (n : Nat) (s : ByteArray) : Nat :=
  if kind t = 1 then (if n % 2 ^ wid t = n then 0 else 1)
  else if kind t = 2 then (if extN (wid t) n = n then 0 else 1)
  else if kind t = 0 then 1
  else if 65536 < s.size then 2 else if t = 9 ∧ prn s.data.toList = false then 1 else 0

theorem kind_le (t : Int) : kind t ≤ 4 := by unfold kind; (repeat' split) <;> omega
theorem kind_text (t : Int) : kind t = 3 ↔ t = 9 := by unfold kind; (repeat' split) <;> omega
theorem wid_cases (t : Int) : wid t = 1 ∨ wid t = 8 ∨ wid t = 16 ∨ wid t = 32 ∨ wid t = 64 ∨ wid t = 0 := by unfold wid; (repeat' split) <;> omega
theorem kind_wid1 {t : Int} (h : kind t = 1) : wid t = 1 ∨ wid t = 8 ∨ wid t = 16 ∨ wid t = 32 ∨ wid t = 64 := by
  unfold kind at h; unfold wid; (repeat' split at h) <;> (repeat' split) <;> omega
theorem kind_wid2 {t : Int} (h : kind t = 2) : wid t = 8 ∨ wid t = 16 ∨ wid t = 32 ∨ wid t = 64 := by
  unfold kind at h; unfold wid; (repeat' split at h) <;> (repeat' split) <;> omega
theorem siz_wid (t : Int) : siz t = (wid t + 7) / 8 := by
  unfold siz wid; (repeat' split) <;> omega
theorem siz_zero (t : Int) : siz t = 0 ↔ kind t ≠ 1 ∧ kind t ≠ 2 := by
  unfold siz kind; (repeat' split) <;> omega
theorem chk_le (t : Int) (n : Nat) (s : ByteArray) : chk t n s ≤ 2 := by unfold chk; (repeat' split) <;> omega

theorem take_snoc (s : ByteArray) (k : Nat) (h : k < s.size) : s.data.toList.take (k + 1) = s.data.toList.take k ++ [s[k]] := by
  rw [List.take_succ_eq_append_getElem (by simpa using h)]; rfl
theorem take_all (s : ByteArray) : s.data.toList.take s.size = s.data.toList := by
  rw [List.take_of_length_le]; simp
theorem prn_snoc {l : List UInt8} {c : UInt8} (h : prn l = true) (h1 : 32 ≤ c.toNat) (h2 : c.toNat ≤ 126) : prn (l ++ [c]) = true := by
  unfold prn at h ⊢
  rw [List.all_append, h]
  simp [h1, h2]
theorem prn_not {s : ByteArray} (k : Nat) (hk : k < s.size) (h : s[k].toNat < 32 ∨ 126 < s[k].toNat) : prn s.data.toList = false := by
  rw [← Bool.not_eq_true]
  unfold prn
  rw [List.all_eq_true]
  intro hh
  have := hh s[k] (by show s.data[k] ∈ _; simp)
  simp at this
  omega
end Go.Proofs.Ty
