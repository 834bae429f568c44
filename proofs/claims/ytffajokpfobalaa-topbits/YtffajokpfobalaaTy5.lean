/- Contracts: Encode. -/
import Derived.Test.YtffajokpfobalaaTyRow
namespace Go.Proofs.Ytffajokpfobalaa.Tv
open Go.RowKit Go.Proofs.Ty
set_option linter.unusedVariables false
set_option maxRecDepth 1000000
theorem byte_at (n k : Nat) : ((n : Int) / 2 ^ (k * 8) % 256) = ((UInt8.ofNat (n / 256 ^ k)).toNat : Int) := by
  have e : (2 : Int) ^ (k * 8) = ((256 ^ k : Nat) : Int) := by
    rw [Nat.mul_comm, Int.pow_mul]
    simp
  rw [e, ofNat_toNat]
  simp
theorem byteCells_set (l : List UInt8) (k : Nat) (c : UInt8) : (Lib.byteCells l).set k (.int .u8 c.toNat) = Lib.byteCells (l.set k c) := by
  simp [Lib.byteCells, List.map_set]
theorem rep_cells (z : Nat) : List.replicate z (Value.int .u8 0) = Lib.byteCells (lowL 0 0 ++ List.replicate (z - 0) 0) := by
  simp [Lib.byteCells, lowL]
end Go.Proofs.Ytffajokpfobalaa.Tv
