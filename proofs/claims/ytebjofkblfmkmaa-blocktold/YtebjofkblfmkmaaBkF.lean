/- Frames of layer 10: plain, and the contracts of what is made of them. -/
import Derived.Test.YtebjofkblfmkmaaBkO
import Derived.Deep.MidRow
import Derived.Laws.BitsAllLaws
namespace Go.Proofs.Ytebjofkblfmkmaa
open Go.RowKit Go.Proofs.Ty
set_option linter.unusedVariables false
set_option maxRecDepth 1000000
set_option linter.unusedSimpArgs false
/-- A frame: eight bytes. -/
structure F8 where
  b0 : UInt8
  b1 : UInt8
  b2 : UInt8
  b3 : UInt8
  b4 : UInt8
  b5 : UInt8
  b6 : UInt8
  b7 : UInt8
def F8.c (f : F8) : List Value := [.int .u8 (f.b0.toNat : Int), .int .u8 (f.b1.toNat : Int), .int .u8 (f.b2.toNat : Int), .int .u8 (f.b3.toNat : Int), .int .u8 (f.b4.toNat : Int), .int .u8 (f.b5.toNat : Int), .int .u8 (f.b6.toNat : Int), .int .u8 (f.b7.toNat : Int)]
def F8.arr (f : F8) : Array Value := f.c.toArray
def F8.l (f : F8) : List UInt8 := [f.b0, f.b1, f.b2, f.b3, f.b4, f.b5, f.b6, f.b7]
def F8.nul : F8 := ⟨0, 0, 0, 0, 0, 0, 0, 0⟩
theorem F8.size (f : F8) : f.arr.size = 8 := rfl
theorem F8.one (f : F8) : (f.arr.all fun x => x.oneCell') = true := by
  simp [F8.arr, F8.c, Value.oneCell']
/-- A frame of a first byte, a place and a number. -/
def frm (a ix sb n : Nat) : F8 := ⟨.ofNat a, .ofNat (ix % 256), .ofNat (ix / 256), .ofNat sb, .ofNat (n % 256), .ofNat (n / 256 % 256), .ofNat (n / 65536 % 256), .ofNat (n / 16777216)⟩
def pix (q : F8) : Nat := q.b1.toNat + 256 * q.b2.toNat
def psb (q : F8) : Nat := q.b3.toNat
def num4 (q : F8) : Nat := q.b4.toNat + 256 * q.b5.toNat + 65536 * q.b6.toNat + 16777216 * q.b7.toNat
theorem pix_lt (q : F8) : pix q < 65536 := by have := q.b1.toNat_lt; have := q.b2.toNat_lt; unfold pix; omega
theorem psb_lt (q : F8) : psb q < 256 := q.b3.toNat_lt
theorem num4_lt (q : F8) : num4 q < 4294967296 := by have := q.b4.toNat_lt; have := q.b5.toNat_lt; have := q.b6.toNat_lt; have := q.b7.toNat_lt; unfold num4; omega
theorem un (n : Nat) (h : n < 256) : ((UInt8.ofNat n).toNat : Int) = (n : Int) := by
  have : (UInt8.ofNat n).toNat = n := by simp; omega
  rw [this]
theorem frm_c (a ix sb n : Nat) (h0 : a < 256) (h1 : ix < 65536) (h2 : sb < 256) (h3 : n < 4294967296) : (frm a ix sb n).c = [.int .u8 (a : Int), .int .u8 ((ix : Int) % 256), .int .u8 ((ix : Int) / 256), .int .u8 (sb : Int), .int .u8 ((n : Int) % 256), .int .u8 ((n : Int) / 256 % 256), .int .u8 ((n : Int) / 65536 % 256), .int .u8 ((n : Int) / 16777216)] := by
  unfold F8.c frm
  simp only [un a h0, un (ix % 256) (by omega), un (ix / 256) (by omega), un sb h2, un (n % 256) (by omega), un (n / 256 % 256) (by omega), un (n / 65536 % 256) (by omega), un (n / 16777216) (by omega)]
  rfl
theorem infoA8s : (Try.prog.info? 30).map (·.size) = some 8 := by kernel_rfl
theorem infoSp : (Try.prog.info? 77).map (·.size) = some 2 := by kernel_rfl
/-- A frame in a block of its own. -/
def Qb (q : Nat) (f : F8) (w : World) : Prop := w.heap[q]? = some (.cells f.arr 30 (0, 0))
theorem Qb.new (w : World) (f : F8) : Qb w.heap.size f (w.alloc (.cells f.arr 30)) := heap_alloc_new w _
section
variable {q : Nat} {f : F8} {w x : World}
theorem Qb.lt (h : Qb q f w) : q < w.heap.size := (Array.getElem?_eq_some_iff.1 h).1
theorem Qb.below (h : Qb q f w) (hb : Below w.heap.size w x) : Qb q f x := (hb.block q h.lt).trans h
theorem Qb.c0 (h : Qb q f w) : w.cell? ⟨q, 0, none⟩ = some (.int .u8 (f.b0.toNat : Int)) := Lib.cell_of_heap h 0
theorem Qb.c1 (h : Qb q f w) : w.cell? ⟨q, 1, none⟩ = some (.int .u8 (f.b1.toNat : Int)) := Lib.cell_of_heap h 1
theorem Qb.c2 (h : Qb q f w) : w.cell? ⟨q, 2, none⟩ = some (.int .u8 (f.b2.toNat : Int)) := Lib.cell_of_heap h 2
theorem Qb.c3 (h : Qb q f w) : w.cell? ⟨q, 3, none⟩ = some (.int .u8 (f.b3.toNat : Int)) := Lib.cell_of_heap h 3
theorem Qb.c4 (h : Qb q f w) : w.cell? ⟨q, 4, none⟩ = some (.int .u8 (f.b4.toNat : Int)) := Lib.cell_of_heap h 4
theorem Qb.c5 (h : Qb q f w) : w.cell? ⟨q, 5, none⟩ = some (.int .u8 (f.b5.toNat : Int)) := Lib.cell_of_heap h 5
theorem Qb.c6 (h : Qb q f w) : w.cell? ⟨q, 6, none⟩ = some (.int .u8 (f.b6.toNat : Int)) := Lib.cell_of_heap h 6
theorem Qb.c7 (h : Qb q f w) : w.cell? ⟨q, 7, none⟩ = some (.int .u8 (f.b7.toNat : Int)) := Lib.cell_of_heap h 7
theorem Qb.rng (h : Qb q f w) : w.rangeAt q 0 f.c := fun j u hj => by
  rw [Lib.cell_of_heap h]
  simpa [F8.arr] using hj
theorem Qb.load (h : Qb q f w) : (loadVar 30 ⟨q, 0, none⟩).run Try.prog w = .ok (.agg f.arr) w :=
  run_loadVar_row w q 30 30 f.arr (0, 0) _ h Try.underlying30 rfl (by rw [f.size]; exact infoA8s)
end
section
variable {w : World} {ops : Array Oper} {rest : List Oper} {p : Oper} {a : Act} {Q : Exit → Act → World → Prop} {b : Nat}
/-- A load, told by its run. -/
theorem ldG {ty : TypeId} {ad : Addr} {v : Value} (hr : (loadVar ty ad).run Try.prog w = .ok v w) (hgd : Region.wanted p (yielded ops a.tmps) = true) (x : Operand) (ho : p.op = .load ty x) (hx : a.eval x = .pointer (some ad))
    (hh : wpList Try.prog ops Q rest (a.put p.dst v) w) : wpList Try.prog ops Q (p :: rest) a w := by
  refine BigFrame.wpList_want hgd fun K hK => ?_
  unfold Oper.wp execOp
  simp only [ho, hx, Instr.loadAt, Instr.sureAddr, Sem.run_bind, Sem.run_pure, Result.andThen_ok, hr]
  exact hK _ _ hh
/-- A store of a whole frame into its block. -/
theorem sdF {f g : F8} (h : Qb b f w) (hgd : p.guard = none) (x y : Operand) (ho : p.op = .store 30 x y) (hx : a.eval x = .pointer (some ⟨b, 0, none⟩)) (hy : a.eval y = .agg g.arr)
    (hh : wpList Try.prog ops Q rest (a.put p.dst undef) (w.setRow b g.arr)) : wpList Try.prog ops Q (p :: rest) a w :=
  wpList_store_row hgd 30 x y ho b g.arr hx hy 30 _ h (by rw [g.size]; exact infoA8s) rfl g.one hh
end
theorem Qb.row {q : Nat} {f : F8} {w : World} (h : Qb q f w) (g : F8) : Qb q g (w.setRow q g.arr) := setRow_heap w q f.arr _ 30 _ h
end Go.Proofs.Ytebjofkblfmkmaa
