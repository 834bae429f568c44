/- Frames of eight bytes: in memory, as numbers, held against one another; for any small seat. -/
import Derived.Test.YthbmbabndhpdkaaRwX
import Derived.Test.YthbmbabndhpdkaaTwX
import Derived.Deep.MidRow
import Derived.Laws.BitsAllLaws
namespace Go.Proofs.Ythbmbabndhpdkaa
open Go.RowKit
open Classical
set_option linter.unusedVariables false
set_option maxRecDepth 1000000
set_option linter.unusedSimpArgs false
/-- A frame: eight bytes. -/
structure F8 where
  b0 : UInt8
  b1 : UInt8
  b2 : UInt8
  b3 : UInt8
  b4 : UInt8
  b5 : UInt8
  b6 : UInt8
  b7 : UInt8
def F8.c (f : F8) : List Value := [.int .u8 (f.b0.toNat : Int), .int .u8 (f.b1.toNat : Int), .int .u8 (f.b2.toNat : Int), .int .u8 (f.b3.toNat : Int), .int .u8 (f.b4.toNat : Int), .int .u8 (f.b5.toNat : Int), .int .u8 (f.b6.toNat : Int), .int .u8 (f.b7.toNat : Int)]
def F8.arr (f : F8) : Array Value := f.c.toArray
def F8.nul : F8 := ⟨0, 0, 0, 0, 0, 0, 0, 0⟩
def zA8 : Array Value := #[.int .u8 0, .int .u8 0, .int .u8 0, .int .u8 0, .int .u8 0, .int .u8 0, .int .u8 0, .int .u8 0]
theorem F8.size (f : F8) : f.arr.size = 8 := rfl
theorem F8.one (f : F8) : (f.arr.all fun x => x.oneCell') = true := by
  simp [F8.arr, F8.c, Value.oneCell']
theorem infoA8s : (Try.prog.info? 34).map (·.size) = some 8 := by kernel_rfl
theorem un8 (n : Nat) (h : n < 256) : ((UInt8.ofNat n).toNat : Int) = (n : Int) := by
  have : (UInt8.ofNat n).toNat = n := by simp; omega
  rw [this]
/-- A frame in a block of its own. -/
def Qb (q : Nat) (f : F8) (w : World) : Prop := w.heap[q]? = some (.cells f.arr 34 (0, 0))
theorem Qb.new (w : World) (f : F8) : Qb w.heap.size f (w.alloc (.cells f.arr 34)) := heap_alloc_new w _
section
variable {q : Nat} {f : F8} {w x : World}
theorem Qb.lt (h : Qb q f w) : q < w.heap.size := (Array.getElem?_eq_some_iff.1 h).1
theorem Qb.below (h : Qb q f w) (hb : Below w.heap.size w x) : Qb q f x := (hb.block q h.lt).trans h
theorem Qb.cell (h : Qb q f w) (k : Nat) : w.cell? ⟨q, k, none⟩ = f.arr[k]? := Lib.cell_of_heap h k
theorem Qb.c0 (h : Qb q f w) : w.cell? ⟨q, 0, none⟩ = some (.int .u8 (f.b0.toNat : Int)) := Lib.cell_of_heap h 0
theorem Qb.c1 (h : Qb q f w) : w.cell? ⟨q, 1, none⟩ = some (.int .u8 (f.b1.toNat : Int)) := Lib.cell_of_heap h 1
theorem Qb.c2 (h : Qb q f w) : w.cell? ⟨q, 2, none⟩ = some (.int .u8 (f.b2.toNat : Int)) := Lib.cell_of_heap h 2
theorem Qb.c3 (h : Qb q f w) : w.cell? ⟨q, 3, none⟩ = some (.int .u8 (f.b3.toNat : Int)) := Lib.cell_of_heap h 3
theorem Qb.c4 (h : Qb q f w) : w.cell? ⟨q, 4, none⟩ = some (.int .u8 (f.b4.toNat : Int)) := Lib.cell_of_heap h 4
theorem Qb.c5 (h : Qb q f w) : w.cell? ⟨q, 5, none⟩ = some (.int .u8 (f.b5.toNat : Int)) := Lib.cell_of_heap h 5
theorem Qb.c6 (h : Qb q f w) : w.cell? ⟨q, 6, none⟩ = some (.int .u8 (f.b6.toNat : Int)) := Lib.cell_of_heap h 6
theorem Qb.c7 (h : Qb q f w) : w.cell? ⟨q, 7, none⟩ = some (.int .u8 (f.b7.toNat : Int)) := Lib.cell_of_heap h 7
theorem Qb.zz (h : Qb q f w) (k : Nat) : w.frozen? ⟨q, k, none⟩ = false := Lib.frozen_of_heap h k
theorem Qb.load (h : Qb q f w) : (loadVar 34 ⟨q, 0, none⟩).run Try.prog w = .ok (.agg f.arr) w :=
  run_loadVar_row w q 34 34 f.arr (0, 0) _ h Try.underlying34 rfl (by rw [f.size]; exact infoA8s)
theorem Qb.two {g g' : Nat} (h : Qb q f w) (t : Two g g' w x) (h1 : q ≠ g) (h2 : q ≠ g') : Qb q f x := (t.block q h.lt h1 h2).trans h
theorem Qb.drawn (h : Qb q f w) (n : Nat) : Qb q f (w.drewN n) := h
theorem Qb.row (h : Qb q f w) (g : F8) : Qb q g (w.setRow q g.arr) := setRow_heap w q f.arr _ 34 _ h
theorem Qb.put (h : Qb q f w) (k : Nat) (v : Value) {g : F8} (hg : f.arr.setIfInBounds k v = g.arr) : Qb q g (w.setCell ⟨q, k, none⟩ v) := by
  unfold Qb at *
  rw [← hg]
  simp [World.setCell, Array.getElem?_modify, h]
theorem Qb.sto (h : Qb q f w) (g : F8) : (storeCells ⟨q, 0, none⟩ g.arr.toList).run Try.prog w = .ok () (w.setRow q g.arr) := by
  have := run_storeCells_from (P := Try.prog) q 34 g.arr.toList 0 f.arr w h rfl (fun v hv => (Array.all_eq_true_iff_forall_mem.1 g.one) v (by simpa using hv))
  simpa using this
end
section
variable {w : World} {ops : Array Oper} {rest : List Oper} {p : Oper} {a : Act} {Q : Exit → Act → World → Prop} {b : Nat}
/-- A load, told by its run. -/
theorem ldG {ty : TypeId} {ad : Addr} {v : Value} (hr : (loadVar ty ad).run Try.prog w = .ok v w) (hgd : Region.wanted p (yielded ops a.tmps) = true) (x : Operand) (ho : p.op = .load ty x) (hx : a.eval x = .pointer (some ad))
    (hh : wpList Try.prog ops Q rest (a.put p.dst v) w) : wpList Try.prog ops Q (p :: rest) a w := by
  refine BigFrame.wpList_want hgd fun K hK => ?_
  unfold Oper.wp execOp
  simp only [ho, hx, Instr.loadAt, Instr.sureAddr, Sem.run_bind, Sem.run_pure, Result.andThen_ok, hr]
  exact hK _ _ hh
theorem opE {o : Oper} (v : Value) (hgd : Region.wanted o (yielded ops a.tmps) = true) (hr : (execOp a.eval o).run Try.prog w = .ok (.value v) w)
    (h : wpList Try.prog ops Q rest (a.put o.dst v) w) : wpList Try.prog ops Q (o :: rest) a w := by
  refine BigFrame.wpList_want hgd fun K hK => ?_
  unfold Oper.wp
  simp only [hr]
  exact hK _ _ h
/-- A store of a whole frame into its block. -/
theorem sdF {f g : F8} (h : Qb b f w) (hgd : p.guard = none) (x y : Operand) (ho : p.op = .store 34 x y) (hx : a.eval x = .pointer (some ⟨b, 0, none⟩)) (hy : a.eval y = .agg g.arr)
    (hh : wpList Try.prog ops Q rest (a.put p.dst undef) (w.setRow b g.arr)) : wpList Try.prog ops Q (p :: rest) a w :=
  wpList_store_row hgd 34 x y ho b g.arr hx hy 34 _ h (by rw [g.size]; exact infoA8s) rfl g.one hh
end
/-- A block for an answer that is a frame, ahead of all. -/
theorem Qb.fresh0 (w : World) : ∃ W k, w.alloc (.cells zA8 34) = W ∧ w.heap.size = k ∧ Qb k F8.nul W ∧ Below w.heap.size w W ∧ k < W.heap.size := by
  refine ⟨_, _, rfl, rfl, heap_alloc_new w _, (Below.refl _ _).alloc (Nat.le_refl _) _, by simp⟩
theorem Qb.fresh1 (w : World) (f : F8) : ∃ W k, w.alloc (.cells f.arr 34) = W ∧ w.heap.size = k ∧ Qb k f W ∧ Below w.heap.size w W ∧ k < W.heap.size := by
  refine ⟨_, _, rfl, rfl, heap_alloc_new w _, (Below.refl _ _).alloc (Nat.le_refl _) _, by simp⟩
/-- A frame in a box and a fresh one behind it. -/
theorem Qb.fresh2 (w : World) (f : F8) : ∃ W k, (w.alloc (.cells f.arr 34)).alloc (.cells zA8 34) = W ∧ w.heap.size = k ∧ Qb k f W ∧ Qb (k + 1) F8.nul W ∧ Below w.heap.size w W ∧ k + 1 < W.heap.size := by
  have b1 : Below w.heap.size w (w.alloc (.cells f.arr 34)) := (Below.refl _ _).alloc (Nat.le_refl _) _
  have q1 : Qb w.heap.size f (w.alloc (.cells f.arr 34)) := heap_alloc_new w _
  refine ⟨_, _, rfl, rfl, q1.below ((Below.refl _ _).alloc (Nat.le_refl _) _), ?_, b1.alloc b1.size _, by simp⟩
  have := heap_alloc_new (w.alloc (.cells f.arr 34)) (.cells zA8 34)
  rw [size_alloc] at this
  exact this
theorem below_row8 {q : Nat} {a w : World} {B0 : Nat} (h : Below B0 a w) (hq : B0 ≤ q) (B : Array Value) : Below B0 a (w.setRow q B) :=
  ⟨h.os, h.tape, h.output, by have := h.size; simpa [World.setRow] using this, fun k hk => (setRow_other w q k B (by omega)).trans (h.block k hk)⟩
theorem partU8 (A : Array Value) (k : Nat) (v : Value) (h : A[k]? = some v) (w : World) : (part 5 A k).run Try.prog w = .ok v w := by
  obtain ⟨i0, hi, hz0, hz1, hz2⟩ := info_parts info5
  simp [part, isAgg, run_underlying Try.underlying5, sizeOf, typeInfo, hi, hz1, h, go_sem]
def F8.at (f : F8) : Nat → UInt8
  | 0 => f.b0
  | 1 => f.b1
  | 2 => f.b2
  | 3 => f.b3
  | 4 => f.b4
  | 5 => f.b5
  | 6 => f.b6
  | _ => f.b7
theorem eqU8 (d : Nat) (a b : UInt8) (w : World) : (Op.equalIn (d + 1) 5 (.int .u8 (a.toNat : Int)) (.int .u8 (b.toNat : Int))).run Try.prog w = .ok (decide (a = b)) w := by
  rw [run_equalIn_int w d 5 .u8 .u8 _ _ Try.underlying5]
  by_cases h : a = b
  · subst h; simp
  · have h2 : ¬ ((a.toNat : Int) = (b.toNat : Int)) := fun e => h (UInt8.toNat_inj.1 (Int.ofNat.inj e))
    simp [h, h2]
theorem eqA8 (f g : F8) (d : Nat) (w : World) : (Op.equalIn (d + 2) 34 (.agg f.arr) (.agg g.arr)).run Try.prog w = .ok (decide (f = g)) w := by
  obtain ⟨i0, hi0, hz0, hz1, hz2⟩ := info_parts info5
  have pf : ∀ (h : F8) k, k < 8 → (part 5 h.arr k).run Try.prog w = .ok (.int .u8 ((h.at k).toNat : Int)) w := fun h k hk => by
    refine partU8 h.arr k _ ?_ w
    obtain rfl | rfl | rfl | rfl | rfl | rfl | rfl | rfl : k = 0 ∨ k = 1 ∨ k = 2 ∨ k = 3 ∨ k = 4 ∨ k = 5 ∨ k = 6 ∨ k = 7 := by omega
    all_goals rfl
  have hr : List.range' 0 8 1 = [0, 1, 2, 3, 4, 5, 6, 7] := by decide
  have q := fun k => eqU8 d (f.at k) (g.at k) w
  have a0 := pf f 0 (by omega)
  have a1 := pf f 1 (by omega)
  have a2 := pf f 2 (by omega)
  have a3 := pf f 3 (by omega)
  have a4 := pf f 4 (by omega)
  have a5 := pf f 5 (by omega)
  have a6 := pf f 6 (by omega)
  have a7 := pf f 7 (by omega)
  have c0 := pf g 0 (by omega)
  have c1 := pf g 1 (by omega)
  have c2 := pf g 2 (by omega)
  have c3 := pf g 3 (by omega)
  have c4 := pf g 4 (by omega)
  have c5 := pf g 5 (by omega)
  have c6 := pf g 6 (by omega)
  have c7 := pf g 7 (by omega)
  have hfg : decide (f = g) = (decide (f.at 0 = g.at 0) && decide (f.at 1 = g.at 1) && decide (f.at 2 = g.at 2) && decide (f.at 3 = g.at 3) && decide (f.at 4 = g.at 4) && decide (f.at 5 = g.at 5) && decide (f.at 6 = g.at 6) && decide (f.at 7 = g.at 7)) := by
    cases f; cases g
    rw [Bool.eq_iff_iff]
    simp [F8.at, and_assoc]
  rw [hfg]
  generalize f.arr = A at *
  generalize g.arr = B at *
  clear hfg pf
  have q0 := q 0
  have q1 := q 1
  have q2 := q 2
  have q3 := q 3
  have q4 := q 4
  have q5 := q 5
  have q6 := q 6
  have q7 := q 7
  clear q
  generalize decide (f.at 0 = g.at 0) = e0 at *
  generalize (Value.int .u8 ((f.at 0).toNat : Int)) = v0 at *
  generalize (Value.int .u8 ((g.at 0).toNat : Int)) = u0 at *
  generalize decide (f.at 1 = g.at 1) = e1 at *
  generalize (Value.int .u8 ((f.at 1).toNat : Int)) = v1 at *
  generalize (Value.int .u8 ((g.at 1).toNat : Int)) = u1 at *
  generalize decide (f.at 2 = g.at 2) = e2 at *
  generalize (Value.int .u8 ((f.at 2).toNat : Int)) = v2 at *
  generalize (Value.int .u8 ((g.at 2).toNat : Int)) = u2 at *
  generalize decide (f.at 3 = g.at 3) = e3 at *
  generalize (Value.int .u8 ((f.at 3).toNat : Int)) = v3 at *
  generalize (Value.int .u8 ((g.at 3).toNat : Int)) = u3 at *
  generalize decide (f.at 4 = g.at 4) = e4 at *
  generalize (Value.int .u8 ((f.at 4).toNat : Int)) = v4 at *
  generalize (Value.int .u8 ((g.at 4).toNat : Int)) = u4 at *
  generalize decide (f.at 5 = g.at 5) = e5 at *
  generalize (Value.int .u8 ((f.at 5).toNat : Int)) = v5 at *
  generalize (Value.int .u8 ((g.at 5).toNat : Int)) = u5 at *
  generalize decide (f.at 6 = g.at 6) = e6 at *
  generalize (Value.int .u8 ((f.at 6).toNat : Int)) = v6 at *
  generalize (Value.int .u8 ((g.at 6).toNat : Int)) = u6 at *
  generalize decide (f.at 7 = g.at 7) = e7 at *
  generalize (Value.int .u8 ((f.at 7).toNat : Int)) = v7 at *
  generalize (Value.int .u8 ((g.at 7).toNat : Int)) = u7 at *
  rw [Op.equalIn]
  cases e0
  case false => simp [Sem.run_bind, run_underlying Try.underlying34, sizeOf, typeInfo, hi0, hz1, hr, a0, c0, q0]
  cases e1
  case false => simp [Sem.run_bind, run_underlying Try.underlying34, sizeOf, typeInfo, hi0, hz1, hr, a0, c0, q0, a1, c1, q1]
  cases e2
  case false => simp [Sem.run_bind, run_underlying Try.underlying34, sizeOf, typeInfo, hi0, hz1, hr, a0, c0, q0, a1, c1, q1, a2, c2, q2]
  cases e3
  case false => simp [Sem.run_bind, run_underlying Try.underlying34, sizeOf, typeInfo, hi0, hz1, hr, a0, c0, q0, a1, c1, q1, a2, c2, q2, a3, c3, q3]
  cases e4
  case false => simp [Sem.run_bind, run_underlying Try.underlying34, sizeOf, typeInfo, hi0, hz1, hr, a0, c0, q0, a1, c1, q1, a2, c2, q2, a3, c3, q3, a4, c4, q4]
  cases e5
  case false => simp [Sem.run_bind, run_underlying Try.underlying34, sizeOf, typeInfo, hi0, hz1, hr, a0, c0, q0, a1, c1, q1, a2, c2, q2, a3, c3, q3, a4, c4, q4, a5, c5, q5]
  cases e6
  case false => simp [Sem.run_bind, run_underlying Try.underlying34, sizeOf, typeInfo, hi0, hz1, hr, a0, c0, q0, a1, c1, q1, a2, c2, q2, a3, c3, q3, a4, c4, q4, a5, c5, q5, a6, c6, q6]
  cases e7
  case false => simp [Sem.run_bind, run_underlying Try.underlying34, sizeOf, typeInfo, hi0, hz1, hr, a0, c0, q0, a1, c1, q1, a2, c2, q2, a3, c3, q3, a4, c4, q4, a5, c5, q5, a6, c6, q6, a7, c7, q7]
  simp [Sem.run_bind, run_underlying Try.underlying34, sizeOf, typeInfo, hi0, hz1, hr, a0, c0, q0, a1, c1, q1, a2, c2, q2, a3, c3, q3, a4, c4, q4, a5, c5, q5, a6, c6, q6, a7, c7, q7]
theorem exec_eqF {a : Act} {o : Oper} {x y : Operand} {t : TypeId} (f g : F8) (ho : o.op = .binOp .eql 34 x y t) (hx : a.eval x = .agg f.arr) (hy : a.eval y = .agg g.arr) (w : World) : (execOp a.eval o).run Try.prog w = .ok (.value (.bool (decide (f = g)))) w := by
  have he := eqA8 f g 9998 w
  have hm : Try.prog.eqGuardType Try.prog.depth 34 = false := by kernel_rfl
  unfold execOp
  simp only [ho, hx, hy]
  simp [go_sem, run_eqGuard_agg w .eql 34 _ _ f.arr g.arr hm, run_eql_struct, he]
/-- == of frames. -/
theorem eqF {w : World} {ops : Array Oper} {rest : List Oper} {o : Oper} {a : Act} {Q : Exit → Act → World → Prop} {t : TypeId} (f g : F8) (hgd : Region.wanted o (yielded ops a.tmps) = true) (x y : Operand) (ho : o.op = .binOp .eql 34 x y t) (hx : a.eval x = .agg f.arr) (hy : a.eval y = .agg g.arr)
    (hh : wpList Try.prog ops Q rest (a.put o.dst (.bool (decide (f = g)))) w) : wpList Try.prog ops Q (o :: rest) a w := opE _ hgd (exec_eqF f g ho hx hy w) hh
/-- A frame of a command and a number, lowest byte first. -/
def ordF (c n : Nat) : F8 := ⟨.ofNat c, .ofNat (n % 256), .ofNat (n / 256 % 256), .ofNat (n / 65536 % 256), .ofNat (n / 16777216), 0, 0, 0⟩
def numq (q : F8) : Nat := q.b1.toNat + 256 * q.b2.toNat + 65536 * q.b3.toNat + 16777216 * q.b4.toNat
theorem numq_lt (q : F8) : numq q < 4294967296 := by have := q.b1.toNat_lt; have := q.b2.toNat_lt; have := q.b3.toNat_lt; have := q.b4.toNat_lt; unfold numq; omega
theorem ordF_c (c n : Nat) (h0 : c < 256) (h3 : n < 4294967296) : (ordF c n).arr = #[.int .u8 (c : Int), .int .u8 ((n : Int) % 256), .int .u8 ((n : Int) / 256 % 256), .int .u8 ((n : Int) / 65536 % 256), .int .u8 ((n : Int) / 16777216), .int .u8 0, .int .u8 0, .int .u8 0] := by
  unfold F8.arr F8.c ordF
  simp only [un8 c h0, un8 (n % 256) (by omega), un8 (n / 256 % 256) (by omega), un8 (n / 65536 % 256) (by omega), un8 (n / 16777216) (by omega)]
  rfl
theorem wrapU32 (n : Nat) (h : n < 4294967296) : IntKind.u32.wrap (n : Int) = (n : Int) := by
  simp only [IntKind.wrap, IntKind.bits, IntKind.signed]
  simp
  omega
theorem wrapU8 (n : Nat) (h : n < 256) : IntKind.u8.wrap (n : Int) = (n : Int) := by
  simp only [IntKind.wrap, IntKind.bits, IntKind.signed]
  simp
  omega
theorem wrapI (n : Nat) (h : n < 4611686018427387904) : IntKind.i64.wrap (n : Int) = (n : Int) := by
  simp only [IntKind.wrap, IntKind.bits, IntKind.signed]
  simp
  omega
end Go.Proofs.Ythbmbabndhpdkaa
