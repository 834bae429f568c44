/- Values in memory, held against each other; contracts: Plain, Encode. -/
import Derived.Test.YthalhidebkhclaaTy2
import Derived.Test.YthalhidebkhclaaTyB
import Derived.DeepKeys
import Derived.Lib.UnsafeStr
import Derived.Laws.IdiomStrings
import Derived.Deep.OwnRows
import Derived.Deep.WholeRow
import Derived.ProofKit
import Derived.OpenShut
namespace Go.Proofs.Ythalhidebkhclaa
open Go.RowKit Go.Proofs.Ty
set_option linter.unusedVariables false
set_option maxRecDepth 1000000

/-- A value. -/
structure Vl where
  t : Int
  n : Nat
  s : ByteArray
  ht : -9223372036854775808 ≤ t ∧ t < 9223372036854775808
  hn : n < 18446744073709551616
  hs : s.size ≤ maxLen
def Vl.arr (v : Vl) : Array Value := #[.int .i64 v.t, .int .u64 v.n, .string v.s]
def Vl.chk (v : Vl) : Nat := Ty.chk v.t v.n v.s
def Vl.nul : Vl := ⟨0, 0, ⟨#[]⟩, by decide, by decide, by decide⟩
def Vl.plain (v : Vl) : Vl := ⟨v.t, plN v.t v.n, plS v.t v.s, v.ht, by unfold plN; split <;> first | omega | exact v.hn, by unfold plS; split <;> first | decide | exact v.hs⟩
def Vl.enc (v : Vl) : List UInt8 := encV v.t v.n v.s
theorem Vl.arr_size (v : Vl) : v.arr.size = 3 := rfl
theorem Vl.one (v : Vl) : v.arr.all (·.oneCell') = true := by simp [Vl.arr, Value.oneCell']
theorem infoV : (Try.prog.info? 42).map (·.size) = some 3 := by kernel_rfl
theorem size_alloc (w : World) (o : Obj) : (w.alloc o).heap.size = w.heap.size + 1 := by simp only [World.alloc, Array.size_push]
theorem heap_alloc_new (w : World) (o : Obj) : (w.alloc o).heap[w.heap.size]? = some o := by show (w.heap.push _)[w.heap.size]? = _; simp
theorem setRow_heap (w : World) (q : Nat) (c c' : Array Value) (T : TypeId) (z : Nat × Nat) (h : w.heap[q]? = some (.cells c T z)) : (w.setRow q c').heap[q]? = some (.cells c' T z) := by
  simp [World.setRow, Array.getElem?_modify, h]
theorem setRow_other (w : World) (q k : Nat) (c : Array Value) (h : k ≠ q) : (w.setRow q c).heap[k]? = w.heap[k]? := by
  simp only [World.setRow, Array.getElem?_modify]
  rw [if_neg (fun e => h e.symm)]
/-- The value v lies in block q. -/
def Va (q : Nat) (v : Vl) (w : World) : Prop := w.heap[q]? = some (.cells v.arr 42 (0, 0))
section
variable {q : Nat} {v : Vl} {w : World}
theorem Va.lt (h : Va q v w) : q < w.heap.size := (Array.getElem?_eq_some_iff.1 h).1
theorem Va.new (w : World) (v : Vl) : Va w.heap.size v (w.alloc (.cells v.arr 42)) := heap_alloc_new w _
theorem Va.alloc (h : Va q v w) (o : Obj) : Va q v (w.alloc o) := (Lib.alloc_old w o q h.lt).trans h
theorem Va.below {w' : World} (h : Va q v w) (hb : Below w.heap.size w w') : Va q v w' := (hb.block q h.lt).trans h
theorem Va.other (h : Va q v w) {p : Addr} (hp : q ≠ p.block) (x : Value) : Va q v (w.setCell p x) := (Below.heap_setCell w p x q hp).trans h
theorem Va.row (h : Va q v w) (v' : Vl) : Va q v' (w.setRow q v'.arr) := setRow_heap w q v.arr _ 42 _ h
theorem Va.set (h : Va q v w) (i : Nat) (x : Value) : (w.setCell ⟨q, i, none⟩ x).heap[q]? = some (.cells (v.arr.setIfInBounds i x) 42 (0, 0)) := by
  have h : w.heap[q]? = some (.cells v.arr 42 (0, 0)) := h
  simp only [World.setCell, Array.getElem?_modify, h]
  simp
theorem Va.frozen (h : Va q v w) (k : Nat) : w.frozen? ⟨q, k, none⟩ = false := Lib.frozen_of_heap h k
theorem Va.c0 (h : Va q v w) : w.cell? ⟨q, 0, none⟩ = some (.int .i64 v.t) := Lib.cell_of_heap h 0
theorem Va.c1 (h : Va q v w) : w.cell? ⟨q, 1, none⟩ = some (.int .u64 v.n) := Lib.cell_of_heap h 1
theorem Va.c2 (h : Va q v w) : w.cell? ⟨q, 2, none⟩ = some (.string v.s) := Lib.cell_of_heap h 2
theorem Va.load (h : Va q v w) : (loadVar 42 ⟨q, 0, none⟩).run Try.prog w = .ok (.agg v.arr) w :=
  run_loadVar_row w q 42 42 v.arr (0, 0) _ h Try.underlying42 rfl (by rw [v.arr_size]; exact infoV)
theorem Va.ld {ops : Array Oper} {rest : List Oper} {o : Oper} {a : Act} {Q : Exit → Act → World → Prop} (h : Va q v w) (hgd : Region.wanted o (yielded ops a.tmps) = true) (x : Operand) (ho : o.op = .load 42 x) (hx : a.eval x = .pointer (some ⟨q, 0, none⟩))
    (hh : wpList Try.prog ops Q rest (a.put o.dst (.agg v.arr)) w) : wpList Try.prog ops Q (o :: rest) a w :=
  BigFrame.wpList_want hgd fun _ hK => wp_load_row 42 x ho q hx 42 v.arr (0, 0) _ h Try.underlying42 rfl (by rw [v.arr_size]; exact infoV) (hK _ _ hh)
theorem Va.sd {ops : Array Oper} {rest : List Oper} {o : Oper} {a : Act} {Q : Exit → Act → World → Prop} (h : Va q v w) (v' : Vl) (hgd : o.guard = none) (x y : Operand) (ho : o.op = .store 42 x y) (hx : a.eval x = .pointer (some ⟨q, 0, none⟩)) (hy : a.eval y = .agg v'.arr)
    (hh : wpList Try.prog ops Q rest (a.put o.dst undef) (w.setRow q v'.arr)) : wpList Try.prog ops Q (o :: rest) a w :=
  wpList_store_row hgd 42 x y ho q v'.arr hx hy 42 v.arr h (by rw [v'.arr_size]; exact infoV) (by rw [v.arr_size, v'.arr_size]) v'.one hh
end
theorem setRow_kept (w : World) (q : Nat) (c : Array Value) : w.grownBy (w.setRow q c) (some q) :=
  ⟨rfl, rfl, rfl, by simp [World.setRow], fun k _ hk => setRow_other w q k c (fun e => hk (by rw [e]))⟩
theorem below_row {q : Nat} {w : World} {B : Nat} {a : World} (h : Below B a w) (hq : B ≤ q) (hl : B ≤ w.heap.size) (c : Array Value) : Below B a (w.setRow q c) := h.grown (setRow_kept w q c) hl (fun k hk => by cases hk; omega)

/-- Values held against each other. -/
def vlB (v u : Vl) : Bool := v.t == u.t && v.n == u.n && v.s.data.toList == u.s.data.toList
theorem keyV : Try.prog.keyTypeAt 3 42 = true := by kernel_rfl
theorem guardV : Try.prog.eqGuardType Try.prog.depth 42 = false := by kernel_rfl
def Vl.lits (v : Vl) : List Lit := [.int .i64 v.t, .int .u64 v.n, .string v.s.data.toList]
theorem vl_keyLits (v : Vl) (d : Nat) : Try.prog.keyLits (d + 3) 42 v.arr.toList = some v.lits := by
  obtain ⟨t, n, s, h1, h2, h3⟩ := v
  have c1 : Try.prog.cellsOf 42 = 3 := by kernel_rfl
  have c2 : Try.prog.cellsOf 3 = 1 := by kernel_rfl
  have c3 : Try.prog.cellsOf 40 = 1 := by kernel_rfl
  have c4 : Try.prog.cellsOf 9 = 1 := by kernel_rfl
  have w1 : (Lit.int .i64 t).wf = true := by simp [Lit.wf, IntKind.min, IntKind.max, IntKind.signed, IntKind.bits]; omega
  have w2 : (Lit.int .u64 n).wf = true := by simp [Lit.wf, IntKind.min, IntKind.max, IntKind.signed, IntKind.bits]; omega
  simp [Vl.arr, Vl.lits, Program.keyLits, Try.underlying42, Try.underlying3, Try.underlying40, Try.underlying9, c1, c2, c3, c4, w1, w2, h3]
theorem vl_formed (v : Vl) : (Value.agg v.arr).formed Try.prog 42 = true := by
  have c1 : Try.prog.cellsOf 42 = 3 := by kernel_rfl
  simp [Value.formed, Try.underlying42, c1, v.arr_size]
theorem vlB_lits (v u : Vl) : vlB v u = true ↔ v.lits = u.lits := by
  simp [vlB, Vl.lits]
  constructor
  · rintro ⟨⟨a, b⟩, c⟩; exact ⟨a, by omega, c⟩
  · rintro ⟨a, b, c⟩; exact ⟨⟨a, by omega⟩, c⟩
theorem vlB_iff (v u : Vl) : vlB v u = true ↔ v = u := by
  obtain ⟨t, n, s, h1, h2, h3⟩ := v
  obtain ⟨t', n', s', h1', h2', h3'⟩ := u
  simp only [vlB, Bool.and_eq_true, beq_iff_eq, Vl.mk.injEq]
  constructor
  · rintro ⟨⟨a, b⟩, c⟩
    exact ⟨a, b, by cases s; cases s'; simp only [ByteArray.mk.injEq]; exact Array.toList_inj.1 c⟩
  · rintro ⟨a, b, c⟩; exact ⟨⟨a, b⟩, by rw [c]⟩
theorem vlB_same (v : Vl) : vlB v v = true := (vlB_iff v v).2 rfl
theorem vlEqual (v u : Vl) (w : World) : (Op.equal 42 (.agg v.arr) (.agg u.arr)).run Try.prog w = .ok (vlB v u) w := by
  obtain ⟨r, hr, hiff⟩ := run_equalIn_deep (10000 - 3) 3 42 keyV w 3 3 (.agg v.arr) (.agg u.arr) v.lits u.lits (vl_formed v) (vl_formed u) (vl_keyLits v 0) (vl_keyLits u 0)
  have e : r = vlB v u := by rw [Bool.eq_iff_iff, hiff, vlB_lits]
  rw [← e]
  exact hr
theorem vlEq (v u : Vl) (w : World) : (binOp .eql 42 (.agg v.arr) (.agg u.arr)).run Try.prog w = .ok (.bool (vlB v u)) w := by
  simp [binOp, vlEqual v u w]
theorem vlNeq (v u : Vl) (w : World) : (binOp .neq 42 (.agg v.arr) (.agg u.arr)).run Try.prog w = .ok (.bool (!vlB v u)) w := by
  simp [binOp, vlEqual v u w]
theorem eqv {ops : Array Oper} {rest : List Oper} {o : Oper} {a : Act} {w : World} {Q : Exit → Act → World → Prop} (v u : Vl) (hgd : Region.wanted o (yielded ops a.tmps) = true) (x y : Operand) (ho : o.op = .binOp .eql 42 x y 42) (hx : a.eval x = .agg v.arr) (hy : a.eval y = .agg u.arr)
    (hh : wpList Try.prog ops Q rest (a.put o.dst (.bool (vlB v u))) w) : wpList Try.prog ops Q (o :: rest) a w := by
  refine BigFrame.wpList_want hgd fun K hK => ?_
  have hl := vlEq v u w
  have hg : (eqGuard .eql 42 x y (.agg v.arr) (.agg u.arr)).run Try.prog w = .ok () w := run_eqGuard_agg w .eql 42 x y v.arr u.arr guardV
  unfold Oper.wp execOp
  simp only [ho, hx, hy, Sem.run_bind, Sem.run_pure, hg, Result.andThen_ok, hl]
  exact hK _ _ hh
theorem neqv {ops : Array Oper} {rest : List Oper} {o : Oper} {a : Act} {w : World} {Q : Exit → Act → World → Prop} (v u : Vl) (hgd : Region.wanted o (yielded ops a.tmps) = true) (x y : Operand) (ho : o.op = .binOp .neq 42 x y 42) (hx : a.eval x = .agg v.arr) (hy : a.eval y = .agg u.arr)
    (hh : wpList Try.prog ops Q rest (a.put o.dst (.bool (!vlB v u))) w) : wpList Try.prog ops Q (o :: rest) a w := by
  refine BigFrame.wpList_want hgd fun K hK => ?_
  have hl := vlNeq v u w
  have hg : (eqGuard .neq 42 x y (.agg v.arr) (.agg u.arr)).run Try.prog w = .ok () w := run_eqGuard_agg w .neq 42 x y v.arr u.arr guardV
  unfold Oper.wp execOp
  simp only [ho, hx, hy, Sem.run_bind, Sem.run_pure, hg, Result.andThen_ok, hl]
  exact hK _ _ hh
theorem Check_v (v : Vl) (w : World) : Calls Try.prog 51 #[.agg v.arr] w fun e w' => e = .returned (.int .i64 v.chk) ∧ Below w.heap.size w w' := Check_any v.t v.n v.s v.hn w
end Go.Proofs.Ythalhidebkhclaa
