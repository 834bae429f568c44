/- Contracts: Check, Plain. -/
import Derived.Test.YtebjofkblfmkmaaTy1
import Derived.Lib.Builder
namespace Go.Proofs.Ytebjofkblfmkmaa
open Go.RowKit Go.Proofs.Ty
set_option linter.unusedVariables false
set_option maxRecDepth 1000000

theorem bdr {B : Nat} {a w : World} (h : Below B a w) (n : Nat) : Below B a (w.drewN n) := ⟨h.os, h.tape, h.output, h.size, h.block⟩
theorem hidOf {P : Prop} (h : P) : Hid P := h
/-- A value's cells in a new block. -/
theorem new_cells (w : World) (a b c : Value) (T : TypeId) : (w.alloc (.cells #[a, b, c] T)).cell? ⟨w.heap.size, 0, none⟩ = some a ∧ (w.alloc (.cells #[a, b, c] T)).cell? ⟨w.heap.size, 1, none⟩ = some b ∧ (w.alloc (.cells #[a, b, c] T)).cell? ⟨w.heap.size, 2, none⟩ = some c := by
  have h : (w.alloc (.cells #[a, b, c] T)).heap[w.heap.size]? = some (.cells #[a, b, c] T (0, 0)) := by
    show (w.heap.push _)[w.heap.size]? = _
    simp
  exact ⟨Lib.cell_of_heap h 0, Lib.cell_of_heap h 1, Lib.cell_of_heap h 2⟩
/-- A value's cells. -/
def vA (t : Int) (n : Nat) (s : ByteArray) : Array Value := #[.int .i64 t, .int .u64 n, .string s]
/-- A value without what plays no part. -/
def plN (t : Int) (n : Nat) : Nat := if kind t = 3 ∨ kind t = 4 then 0 else n
def plS (t : Int) (s : ByteArray) : ByteArray := if kind t = 1 ∨ kind t = 2 then ⟨#[]⟩ else s

end Go.Proofs.Ytebjofkblfmkmaa
