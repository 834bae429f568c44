/- Plain: where one byte is another, the sum is another. -/
import Derived.Test.YtebjofkblfmkmaaMath
namespace Go.Proofs.Bits
set_option linter.unusedVariables false
set_option maxRecDepth 1000000
def unturn (z : Nat) : Nat := if z % 2 = 1 then (z ^^^ 4129) / 2 + 32768 else z / 2
theorem unturn_all : ∀ a < 256, ∀ b < 256, unturn (turn16 (256 * a + b)) = 256 * a + b := by decide +kernel
theorem unturn_turn (x : Nat) (h : x < 65536) : unturn (turn16 x) = x := by
  have := unturn_all (x / 256) (by omega) (x % 256) (by omega)
  rwa [show 256 * (x / 256) + x % 256 = x by omega] at this
theorem turn16_inj (x y : Nat) (hx : x < 65536) (hy : y < 65536) (h : turn16 x = turn16 y) : x = y := by
  rw [← unturn_turn x hx, ← unturn_turn y hy, h]
theorem turns16_inj (k x y : Nat) (hx : x < 65536) (hy : y < 65536) (h : turns16 k x = turns16 k y) : x = y := by
  induction k with
  | zero => exact h
  | succ k ih => exact ih (turn16_inj _ _ (turns16_lt k x hx) (turns16_lt k y hy) h)
theorem byte16_left (x y : Nat) (c : UInt8) (hx : x < 65536) (hy : y < 65536) (h : byte16 x c = byte16 y c) : x = y := by
  have := turns16_inj 8 _ _ (xor16_lt x c hx) (xor16_lt y c hy) h
  have e := congrArg (fun z => z ^^^ (c.toNat * 256)) this
  simpa [Nat.xor_assoc] using e
theorem byte16_right (x : Nat) (c d : UInt8) (hx : x < 65536) (h : byte16 x c = byte16 x d) : c = d := by
  have := turns16_inj 8 _ _ (xor16_lt x c hx) (xor16_lt x d hx) h
  have e := congrArg (fun z => x ^^^ z) this
  simp only [← Nat.xor_assoc, Nat.xor_self, Nat.zero_xor] at e
  apply UInt8.toNat_inj.1
  omega
theorem crc16_more (l m r : List UInt8) (h : crc16 (l ++ r) = crc16 (m ++ r)) : crc16 l = crc16 m := by
  induction r generalizing l m with
  | nil => simpa using h
  | cons c r ih =>
    have := ih (l ++ [c]) (m ++ [c]) (by simpa using h)
    rw [crc16_snoc, crc16_snoc] at this
    exact byte16_left _ _ c (crc16_lt l) (crc16_lt m) this
/-- One byte that is another one is told by the sum. -/
theorem crc16_one (l r : List UInt8) (c d : UInt8) (h : crc16 (l ++ c :: r) = crc16 (l ++ d :: r)) : c = d := by
  have := crc16_more (l ++ [c]) (l ++ [d]) r (by simpa using h)
  rw [crc16_snoc, crc16_snoc] at this
  exact byte16_right _ c d (crc16_lt l) this
end Go.Proofs.Bits
