/- The document's own arbitration field. -/
import Derived.Test.YtffajokpfobalaaFrame
import Derived.Test.YtffajokpfobalaaLater
namespace Go.Proofs.Ytffajokpfobalaa
open Go.RowKit Go.Proofs.Bits
set_option linter.unusedVariables false
set_option maxRecDepth 1000000

theorem txt_add (a b : List UInt8) : (⟨a.toArray⟩ : ByteArray) ++ ⟨b.toArray⟩ = ⟨(a ++ b).toArray⟩ := by
  apply ByteArray.ext
  simp
theorem ret_txt {a b : ByteArray} (h : a = b) : Ending.returned (.string a) = .returned (.string b) := by rw [h]
theorem flagV_length (b : Bool) : (flagV b).length = 1 := by cases b <;> rfl

def Fr.field (f : Fr) : List UInt8 := if f.ext then numL (f.id / 262144) 11 ++ [49, 49] ++ numL (f.id % 262144) 18 ++ flagV f.rem else numL f.id 11 ++ flagV f.rem ++ [48]

/-- The cells of a frame that came in, in a later world. -/
theorem later_cell {w : World} {A : Array Value} {T : TypeId} {k : Nat} {v : Value} (h : A[k]? = some v) (x : Later (w.alloc (.cells A T))) : x.now.cell? ⟨w.heap.size, k, none⟩ = some v :=
  (x.below.cell (p := ⟨w.heap.size, k, none⟩) (by simp)).trans (by simp [go_sem, h])

theorem and18 (x : Nat) (h : x < 4294967296) : bits BinOp.and IntKind.u32 (x : Int) 262143 = ((x % 262144 : Nat) : Int) := by
  rw [show (262143 : Int) = ((262143 : Nat) : Int) from rfl, u32_and_nat _ _ (by omega) (by omega), Nat.and_two_pow_sub_one_eq_mod x 18]

end Go.Proofs.Ytffajokpfobalaa
