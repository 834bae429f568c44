/- Contracts: joined, fits. -/
import Derived.Test.YtffajokpfobalaaTy4
import Derived.Test.YtffajokpfobalaaTy5
import Derived.Laws.BitsAllLaws
namespace Go.Proofs.Ytffajokpfobalaa.Tv
open Go.RowKit Go.Proofs.Ty
set_option linter.unusedVariables false
set_option maxRecDepth 1000000

theorem val_int {k : IntKind} {a b : Int} (h : a = b) : Value.int k a = .int k b := by rw [h]
theorem two8 (k : Nat) : 2 ^ (k * 8) = 256 ^ k := by rw [Nat.mul_comm, Nat.pow_mul]
theorem two8i (k : Nat) : (2 : Int) ^ (k * 8) = ((256 ^ k : Nat) : Int) := by
  rw [← two8]
  simp
theorem wrapU (n : Int) : IntKind.u64.wrap n = n % 18446744073709551616 := by simp [IntKind.wrap, IntKind.bits, IntKind.signed]
/-- One byte more put into a number. -/
theorem join_step (l : List UInt8) (k : Nat) (hk : k < l.length) (h8 : l.length ≤ 8) :
    bits BinOp.or IntKind.u64 ((joinL (l.take k) : Nat) : Int) (IntKind.u64.wrap ((l[k].toNat : Int) * 2 ^ (k * 8))) = ((joinL (l.take (k + 1)) : Nat) : Int) := by
  have hc := l[k].toNat_lt
  have hlen : (l.take k).length = k := by rw [List.length_take]; omega
  have h1 := joinL_lt (l.take k)
  rw [hlen] at h1
  have hp : 256 ^ k ≤ 256 ^ 7 := Nat.pow_le_pow_right (by omega) (by omega)
  have hx : l[k].toNat * 256 ^ k < 18446744073709551616 := by
    have : l[k].toNat * 256 ^ k ≤ 255 * 256 ^ 7 := Nat.mul_le_mul (by omega) hp
    have e : 255 * 256 ^ 7 < 18446744073709551616 := by decide
    omega
  have e : ((l[k].toNat : Int) * 2 ^ (k * 8)) = ((l[k].toNat * 256 ^ k : Nat) : Int) := by rw [two8i]; simp
  have ew : IntKind.u64.wrap ((l[k].toNat * 256 ^ k : Nat) : Int) = ((l[k].toNat * 256 ^ k : Nat) : Int) := by
    rw [wrapU]
    omega
  have e7 : (256 : Nat) ^ 7 < 18446744073709551616 := by decide
  rw [e, ew, u64_or_nat _ _ (by omega) hx, Nat.or_comm, nat_join (k * 8) _ _ (by rw [two8]; exact Nat.mul_mod_left _ _) (by rw [two8]; exact h1), List.take_succ_eq_append_getElem hk, joinL_snoc, hlen, Nat.add_comm]

/-- Whether a type may have so many bytes. -/
def fitE (t : Int) (n : Nat) : Nat := if kind t = 0 then 1 else if n < siz t then 3 else if (0 < siz t ∧ siz t < n) ∨ 65536 < n then 2 else 0
end Go.Proofs.Ytffajokpfobalaa.Tv
