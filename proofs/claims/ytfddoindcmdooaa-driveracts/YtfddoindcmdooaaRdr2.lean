/- Contracts of a reader's mark, number and fixed. -/
import Derived.Test.YtfddoindcmdooaaRdr
import Derived.Test.YtfddoindcmdooaaNum
namespace Go.Proofs.Ytfddoindcmdooaa
open Go.RowKit Go.Proofs.Bits
set_option linter.unusedVariables false
set_option maxRecDepth 1000000

section
variable {t : List UInt8} {s : RS} {g : Nat} {w : World}

def markV (b : UInt8) : Value := .bool (decide (b = 49))
theorem mark_eq (b : UInt8) : ((b.toNat : Int) == 49) = decide (b = 49) := by
  by_cases h : b = 49
  · subst h; rfl
  · have : b.toNat ≠ 49 := fun e => h (UInt8.toNat_inj.1 e)
    simp [h]; omega

def u32V (bs : List UInt8) : Value := .int .u32 (val bs)
theorem val_step32 (x : Nat) (b : UInt8) (hb : b.toNat = 48 ∨ b.toNat = 49) (hx : x < 262144) :
    bits BinOp.or IntKind.u32 ((x : Int) * 2) ((b.toNat : Int) - 48) = ((valStep x b : Nat) : Int) := by
  rw [show ((b.toNat : Int) - 48) = ((b.toNat - 48 : Nat) : Int) by omega, show ((x : Int) * 2) = ((x * 2 : Nat) : Int) by omega, u32_or_nat _ _ (by omega) (by omega), or_bit _ _ (by omega)]
  rfl

end
end Go.Proofs.Ytfddoindcmdooaa
