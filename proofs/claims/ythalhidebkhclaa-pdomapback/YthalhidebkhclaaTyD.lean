/- Plain facts on values that are read: no program is named here. -/
import Derived.Test.YthalhidebkhclaaTy6
namespace Go.Proofs.Ythalhidebkhclaa
open Go.RowKit Go.Proofs.Ty
set_option linter.unusedVariables false
set_option maxRecDepth 1000000
/-- The number and the text of bytes. -/
def decN (t : Int) (l : List UInt8) : Nat := if kind t = 1 then joinL l else if kind t = 2 then extN (wid t) (joinL l) else 0
def decS (t : Int) (l : List UInt8) : ByteArray := if kind t = 1 ∨ kind t = 2 then ⟨#[]⟩ else ⟨l.toArray⟩
def decE (t : Int) (l : List UInt8) : Nat := if fitE t l.length ≠ 0 then fitE t l.length else if chk t (decN t l) (decS t l) ≠ 0 then 8 else 0
def mkV (t : Int) (n : Nat) (s : ByteArray) : Vl := if h : (-9223372036854775808 ≤ t ∧ t < 9223372036854775808) ∧ n < 18446744073709551616 ∧ s.size ≤ maxLen then ⟨t, n, s, h.1, h.2.1, h.2.2⟩ else Vl.nul
def decW (t : Int) (l : List UInt8) : Vl := if decE t l = 0 then mkV t (decN t l) (decS t l) else Vl.nul
theorem mkV_eq {t : Int} {n : Nat} {s : ByteArray} (h1 : -9223372036854775808 ≤ t ∧ t < 9223372036854775808) (h2 : n < 18446744073709551616) (h3 : s.size ≤ maxLen) : mkV t n s = ⟨t, n, s, h1, h2, h3⟩ := dif_pos ⟨h1, h2, h3⟩
theorem extN_lt (b n : Nat) (hb : b = 8 ∨ b = 16 ∨ b = 32 ∨ b = 64) : extN b n < 18446744073709551616 := by
  rcases hb with rfl | rfl | rfl | rfl <;> simp only [extN] <;> split <;> omega
theorem join8 {l : List UInt8} (h : l.length ≤ 8) : joinL l < 18446744073709551616 := by
  have h1 := joinL_lt l
  have h2 : 256 ^ l.length ≤ 256 ^ 8 := Nat.pow_le_pow_right (by omega) h
  have h3 : 256 ^ 8 = 18446744073709551616 := by decide
  omega
theorem fit_zero {t : Int} {n : Nat} (h : fitE t n = 0) : kind t ≠ 0 ∧ (0 < siz t → n = siz t) ∧ n ≤ 65536 := by
  unfold fitE at h
  (repeat' split at h) <;> omega
end Go.Proofs.Ythalhidebkhclaa
