/- Blocks that stand, blocks of cells; for any small seat. -/
import Derived.Test.YthbmbabndhpdkaaProg
import Derived.WalkKit
import Derived.WalkSmall
import Derived.Deep.QuietTactic
import Derived.BigQuiet
import Derived.Deep.WholeRow
import Derived.Below
import Derived.Deep.RegionWith
namespace Go.Proofs.Ythbmbabndhpdkaa
open Go.RowKit
set_option linter.unusedVariables false
set_option maxRecDepth 1000000

theorem ret_int {k : IntKind} {a b : Int} (h : a = b) : Ending.returned (.int k a) = .returned (.int k b) := by rw [h]
theorem ret_bool {a b : Bool} (h : a = b) : Ending.returned (.bool a) = .returned (.bool b) := by rw [h]
/-- Blocks other than g and h stand; nothing else is changed. -/
structure Two (g h : Nat) (w w' : World) : Prop where
  os : w'.os = w.os
  tape : w'.tape = w.tape
  output : w'.output = w.output
  size : w.heap.size ≤ w'.heap.size
  block : ∀ k, k < w.heap.size → k ≠ g → k ≠ h → w'.heap[k]? = w.heap[k]?
section
variable {g h : Nat} {a b c w : World}
theorem Two.refl (g h : Nat) (w : World) : Two g h w w := ⟨rfl, rfl, rfl, Nat.le_refl _, fun _ _ _ _ => rfl⟩
theorem Two.trans (x : Two g h a b) (y : Two g h b c) : Two g h a c :=
  ⟨y.os.trans x.os, y.tape.trans x.tape, y.output.trans x.output, Nat.le_trans x.size y.size, fun k hk h1 h2 => (y.block k (Nat.lt_of_lt_of_le hk x.size) h1 h2).trans (x.block k hk h1 h2)⟩
theorem Two.setCell (x : Two g h a w) {p : Addr} (hp : p.block = g ∨ p.block = h ∨ a.heap.size ≤ p.block) (v : Value) : Two g h a (w.setCell p v) :=
  ⟨x.os, x.tape, x.output, by simpa [World.setCell] using x.size, fun k hk h1 h2 => (Below.heap_setCell w p v k (by omega)).trans (x.block k hk h1 h2)⟩
theorem Two.alloc (x : Two g h a w) (o : Obj) : Two g h a (w.alloc o) :=
  ⟨x.os, x.tape, x.output, Nat.le_trans x.size (by simp), fun k hk h1 h2 => (Below.heap_alloc _ _ _ (Nat.lt_of_lt_of_le hk x.size)).trans (x.block k hk h1 h2)⟩
theorem Two.drawn (x : Two g h a w) (n : Nat) : Two g h a (w.drewN n) := ⟨x.os, x.tape, x.output, x.size, x.block⟩
theorem Two.row (x : Two g h a w) (q : Nat) (hq : q = g ∨ q = h) (cs : Array Value) : Two g h a (w.setRow q cs) :=
  ⟨x.os, x.tape, x.output, by simpa [World.setRow] using x.size, fun k hk h1 h2 => (setRow_other w q k _ (by omega)).trans (x.block k hk h1 h2)⟩
theorem Two.at0 (x : Two g h a w) (i : Nat) (v : Value) : Two g h a (w.setCell ⟨g, i, none⟩ v) := x.setCell (p := ⟨g, i, none⟩) (.inl rfl) v
theorem Two.at1 (x : Two g h a w) (i : Nat) (v : Value) : Two g h a (w.setCell ⟨h, i, none⟩ v) := x.setCell (p := ⟨h, i, none⟩) (.inr (.inl rfl)) v
theorem Two.left (x : Two g g a w) (h : Nat) : Two g h a w := ⟨x.os, x.tape, x.output, x.size, fun k hk h1 h2 => x.block k hk h1 h1⟩
theorem Two.right (x : Two h h a w) (g : Nat) : Two g h a w := ⟨x.os, x.tape, x.output, x.size, fun k hk h1 h2 => x.block k hk h2 h2⟩
theorem Two.below (x : Two g h a w) {B : Nat} (hB : B ≤ a.heap.size) (hg : B ≤ g) (hh : B ≤ h) : Below B a w :=
  ⟨x.os, x.tape, x.output, x.size, fun k hk => x.block k (by omega) (by omega) (by omega)⟩
theorem Two.draw (w : World) (g n : Nat) : Two g g w (w.drewN n) := (Two.refl g g w).drawn n
theorem below_drawn {B : Nat} {w w' : World} (h : Below B w w') (m : Nat) : Below B w (w'.drewN m) := ⟨h.os, h.tape, h.output, h.size, h.block⟩
end
/-- A block of cells. -/
def Bc (T : TypeId) (g : Nat) (cs : Array Value) (w : World) : Prop := w.heap[g]? = some (.cells cs T (0, 0))
section
variable {T : TypeId} {g : Nat} {cs : Array Value} {w : World}
theorem Bc.lt (h : Bc T g cs w) : g < w.heap.size := (Array.getElem?_eq_some_iff.1 h).1
theorem Bc.drawn (h : Bc T g cs w) (n : Nat) : Bc T g cs (w.drewN n) := h
theorem Bc.cell (h : Bc T g cs w) (k : Nat) : w.cell? ⟨g, k, none⟩ = cs[k]? := Lib.cell_of_heap h k
theorem Bc.frozen (h : Bc T g cs w) (k : Nat) : w.frozen? ⟨g, k, none⟩ = false := Lib.frozen_of_heap h k
theorem Bc.set (h : Bc T g cs w) (k : Nat) (v : Value) : Bc T g (cs.setIfInBounds k v) (w.setCell ⟨g, k, none⟩ v) := by
  unfold Bc at *
  simp [World.setCell, Array.getElem?_modify, h]
theorem Bc.two {p q : Nat} {w' : World} (h : Bc T g cs w) (t : Two p q w w') (h1 : g ≠ p) (h2 : g ≠ q) : Bc T g cs w' := (t.block g h.lt h1 h2).trans h
theorem Bc.below {w' : World} (h : Bc T g cs w) (t : Below w.heap.size w w') : Bc T g cs w' := (t.block g h.lt).trans h
theorem Bc.alloc (h : Bc T g cs w) (o : Obj) : Bc T g cs (w.alloc o) := (Below.heap_alloc w o g h.lt).trans h
end
end Go.Proofs.Ythbmbabndhpdkaa
