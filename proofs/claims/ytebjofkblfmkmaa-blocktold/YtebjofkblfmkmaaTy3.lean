/- Values in memory, held against each other; contracts: Plain, Encode. -/
import Derived.Test.YtebjofkblfmkmaaTy2
import Derived.Test.YtebjofkblfmkmaaTyB
import Derived.DeepKeys
import Derived.Lib.UnsafeStr
import Derived.Laws.IdiomStrings
import Derived.Deep.OwnRows
import Derived.Deep.WholeRow
import Derived.ProofKit
import Derived.OpenShut
namespace Go.Proofs.Ytebjofkblfmkmaa
open Go.RowKit Go.Proofs.Ty
set_option linter.unusedVariables false
set_option maxRecDepth 1000000

/-- A value. -/
structure Vl where
  t : Int
  n : Nat
  s : ByteArray
  ht : -9223372036854775808 ≤ t ∧ t < 9223372036854775808
  hn : n < 18446744073709551616
  hs : s.size ≤ maxLen
def Vl.arr (v : Vl) : Array Value := #[.int .i64 v.t, .int .u64 v.n, .string v.s]
def Vl.chk (v : Vl) : Nat := Ty.chk v.t v.n v.s
def Vl.nul : Vl := ⟨0, 0, ⟨#[]⟩, by decide, by decide, by decide⟩
def Vl.plain (v : Vl) : Vl := ⟨v.t, plN v.t v.n, plS v.t v.s, v.ht, by unfold plN; split <;> first | omega | exact v.hn, by unfold plS; split <;> first | decide | exact v.hs⟩
def Vl.enc (v : Vl) : List UInt8 := encV v.t v.n v.s
theorem Vl.arr_size (v : Vl) : v.arr.size = 3 := rfl
theorem Vl.one (v : Vl) : v.arr.all (·.oneCell') = true := by simp [Vl.arr, Value.oneCell']
theorem size_alloc (w : World) (o : Obj) : (w.alloc o).heap.size = w.heap.size + 1 := by simp only [World.alloc, Array.size_push]
theorem heap_alloc_new (w : World) (o : Obj) : (w.alloc o).heap[w.heap.size]? = some o := by show (w.heap.push _)[w.heap.size]? = _; simp
theorem setRow_heap (w : World) (q : Nat) (c c' : Array Value) (T : TypeId) (z : Nat × Nat) (h : w.heap[q]? = some (.cells c T z)) : (w.setRow q c').heap[q]? = some (.cells c' T z) := by
  simp [World.setRow, Array.getElem?_modify, h]
theorem setRow_other (w : World) (q k : Nat) (c : Array Value) (h : k ≠ q) : (w.setRow q c).heap[k]? = w.heap[k]? := by
  simp only [World.setRow, Array.getElem?_modify]
  rw [if_neg (fun e => h e.symm)]
section
variable {q : Nat} {v : Vl} {w : World}
end
theorem setRow_kept (w : World) (q : Nat) (c : Array Value) : w.grownBy (w.setRow q c) (some q) :=
  ⟨rfl, rfl, rfl, by simp [World.setRow], fun k _ hk => setRow_other w q k c (fun e => hk (by rw [e]))⟩
theorem below_row {q : Nat} {w : World} {B : Nat} {a : World} (h : Below B a w) (hq : B ≤ q) (hl : B ≤ w.heap.size) (c : Array Value) : Below B a (w.setRow q c) := h.grown (setRow_kept w q c) hl (fun k hk => by cases hk; omega)

/-- Values held against each other. -/
def vlB (v u : Vl) : Bool := v.t == u.t && v.n == u.n && v.s.data.toList == u.s.data.toList
def Vl.lits (v : Vl) : List Lit := [.int .i64 v.t, .int .u64 v.n, .string v.s.data.toList]
theorem vlB_lits (v u : Vl) : vlB v u = true ↔ v.lits = u.lits := by
  simp [vlB, Vl.lits]
  constructor
  · rintro ⟨⟨a, b⟩, c⟩; exact ⟨a, by omega, c⟩
  · rintro ⟨a, b, c⟩; exact ⟨⟨a, by omega⟩, c⟩
theorem vlB_iff (v u : Vl) : vlB v u = true ↔ v = u := by
  obtain ⟨t, n, s, h1, h2, h3⟩ := v
  obtain ⟨t', n', s', h1', h2', h3'⟩ := u
  simp only [vlB, Bool.and_eq_true, beq_iff_eq, Vl.mk.injEq]
  constructor
  · rintro ⟨⟨a, b⟩, c⟩
    exact ⟨a, b, by cases s; cases s'; simp only [ByteArray.mk.injEq]; exact Array.toList_inj.1 c⟩
  · rintro ⟨a, b, c⟩; exact ⟨⟨a, b⟩, by rw [c]⟩
theorem vlB_same (v : Vl) : vlB v v = true := (vlB_iff v v).2 rfl
end Go.Proofs.Ytebjofkblfmkmaa
