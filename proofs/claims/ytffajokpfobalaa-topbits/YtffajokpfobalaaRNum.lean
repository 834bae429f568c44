/- Contracts of the document's own Value and Number. -/
import Derived.Test.YtffajokpfobalaaNum
import Derived.Test.YtffajokpfobalaaCells
import Derived.Test.YtffajokpfobalaaBuild
namespace Go.Proofs.Ytffajokpfobalaa
open Go.RowKit Go.Proofs.Bits
set_option linter.unusedVariables false
set_option maxRecDepth 1000000

theorem numL_cons (n w : Nat) : numL n (w + 1) = bitc (n / 2 ^ w % 2) :: numL n w := by
  induction w generalizing n with
  | zero => simp [numL]
  | succ w ih =>
    rw [numL, ih (n / 2), numL, Nat.div_div_eq_div_mul, Nat.pow_succ, Nat.mul_comm 2 (2 ^ w)]
    rfl
/-- The cells behind j rounds: zeros, then the last j bits. -/
def numCells (n wd j : Nat) : List Value := List.replicate (wd - j) (.int .u8 0) ++ Lib.byteCells (numL n j)
theorem numCells_length (n wd j : Nat) (h : j ≤ wd) : (numCells n wd j).length = wd := by
  simp [numCells, Lib.byteCells_length, numL_length]; omega
theorem numCells_next (n wd j : Nat) (h : j < wd) : (numCells n wd j).set (wd - 1 - j) (.int .u8 (bitc (n / 2 ^ j % 2)).toNat) = numCells n wd (j + 1) := by
  unfold numCells
  rw [List.set_append_left _ _ (by simp; omega), numL_cons]
  have e : wd - j = (wd - (j + 1)) + 1 := by omega
  rw [e, List.replicate_succ', List.set_append_right _ _ (by simp; omega)]
  have e2 : wd - 1 - j - (List.replicate (wd - (j + 1)) (Value.int IntKind.u8 0)).length = 0 := by simp; omega
  rw [e2]
  simp [Lib.byteCells]

theorem num_byte (m : Nat) (hu : m < 18446744073709551616) : ((48 : Int) + bits BinOp.and IntKind.u64 (m : Int) 1) % 256 = ((bitc (m % 2)).toNat : Int) := by
  rw [show (1 : Int) = ((1 : Nat) : Int) from rfl, u64_and_nat _ _ hu (by omega), nat_mask1, bitc_val _ (by omega)]
  omega

end Go.Proofs.Ytffajokpfobalaa
