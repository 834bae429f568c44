/- Plain facts on the register of sixteen bits: what remains. -/
import Derived.Test.YtcpgpnilglbmoabMath
namespace Go.Proofs.Bits

theorem xor_high (n : Nat) : n ^^^ (n / 256 * 256) = n % 256 := by
  apply Nat.eq_of_testBit_eq
  intro i
  rw [Nat.testBit_xor, show (256 : Nat) = 2 ^ 8 from rfl, Nat.testBit_mul_two_pow, Nat.testBit_div_two_pow, Nat.testBit_mod_two_pow]
  by_cases h : 8 ≤ i
  · have : i - 8 + 8 = i := by omega
    have h2 : ¬ i < 8 := by omega
    simp [h, this, h2]
  · have h2 : i < 8 := by omega
    simp [h, h2]
theorem turns16_small (k x : Nat) (h : x < 256) (hk : k ≤ 8) : turns16 k x = x * 2 ^ k := by
  induction k with
  | zero => simp [turns16]
  | succ k ih =>
    have e := ih (by omega)
    have hb : x * 2 ^ k < 32768 := by
      have : 2 ^ k ≤ 2 ^ 7 := Nat.pow_le_pow_right (by omega) (by omega)
      calc x * 2 ^ k ≤ 255 * 2 ^ 7 := Nat.mul_le_mul (by omega) this
        _ < 32768 := by decide
    rw [turns16, e, turn16, if_neg (by omega), Nat.pow_succ, ← Nat.mul_assoc]
    omega
theorem turns16_zero (k : Nat) : turns16 k 0 = 0 := by
  induction k with
  | zero => rfl
  | succ k ih => rw [turns16, ih]; rfl
theorem byte16_high (n : Nat) (hi : UInt8) (hh : hi.toNat = n / 256) : byte16 n hi = n % 256 * 256 := by
  unfold byte16
  rw [hh, xor_high, turns16_small 8 _ (by omega) (by omega)]
theorem byte16_low (m : Nat) (lo : UInt8) (hl : lo.toNat = m) : byte16 (m * 256) lo = 0 := by
  unfold byte16
  rw [hl, Nat.xor_self, turns16_zero]
theorem crc16_remain (l : List UInt8) (hi lo : UInt8) (hh : hi.toNat = crc16 l / 256) (hl : lo.toNat = crc16 l % 256) : crc16 (l ++ [hi, lo]) = 0 := by
  rw [show l ++ [hi, lo] = (l ++ [hi]) ++ [lo] by simp, crc16_snoc, crc16_snoc, byte16_high _ _ hh, byte16_low _ _ hl]
end Go.Proofs.Bits
