/- Entries and items in memory. -/
import Derived.Test.YthalhidebkhclaaTy13
import Derived.Test.YthalhidebkhclaaTyLa
import Derived.Deep.MidRow
import Derived.Deep.RegionHeld3
namespace Go.Proofs.Ythalhidebkhclaa
open Go.RowKit Go.Proofs.Ty
set_option linter.unusedVariables false
set_option maxRecDepth 1000000
set_option linter.unusedSimpArgs false

theorem hidOf2 {p : Prop} (h : p) : Hid p := h
def vlC (v : Vl) : List Value := [.int .i64 v.t, .int .u64 v.n, .string v.s]
theorem vlC_arr (v : Vl) : (vlC v).toArray = v.arr := rfl
theorem vlC_len (v : Vl) : (vlC v).length = 3 := rfl
/-- An entry. -/
structure En where
  ix : Nat
  sb : Nat
  ac : Int
  mp : Bool
  li : Bool
  mn : Vl
  mx : Vl
  df : Vl
  hix : ix < 65536
  hsb : sb < 256
  hac : -9223372036854775808 ≤ ac ∧ ac < 9223372036854775808
def enC (e : En) : List Value := [.int .u16 e.ix, .int .u8 e.sb, .int .i64 e.ac, .bool e.mp, .bool e.li, .int .i64 e.mn.t, .int .u64 e.mn.n, .string e.mn.s, .int .i64 e.mx.t, .int .u64 e.mx.n, .string e.mx.s, .int .i64 e.df.t, .int .u64 e.df.n, .string e.df.s]
def En.arr (e : En) : Array Value := (enC e).toArray
theorem enC_len (e : En) : (enC e).length = 14 := rfl
theorem En.one (e : En) : ∀ u ∈ enC e, u.oneCell' = true := by
  intro u hu
  simp [enC] at hu
  rcases hu with rfl | rfl | rfl | rfl | rfl | rfl | rfl | rfl | rfl | rfl | rfl | rfl | rfl | rfl <;> rfl
/-- Where it is. -/
def En.pl (e : En) : Nat := e.ix * 256 + e.sb
theorem En.pl_lt (e : En) : e.pl < 16777216 := by have := e.hix; have := e.hsb; unfold En.pl; omega
theorem En.pl_iff (a b : En) : a.pl = b.pl ↔ a.ix = b.ix ∧ a.sb = b.sb := by have := a.hsb; have := b.hsb; unfold En.pl; omega
/-- The entry with its Default laid plain. -/
def En.plain (e : En) : En := { e with df := e.df.plain }
theorem infoE : (Try.prog.info? 59).map (·.size) = some 14 := by kernel_rfl
theorem infoI : (Try.prog.info? 76).map (·.size) = some 17 := by kernel_rfl
theorem wf_rng {w : World} {b : Nat} {C : List Value} {T : TypeId} {fr : Nat × Nat} (h : w.heap[b]? = some (.cells C.toArray T fr)) (o : Nat) (cs : List Value) (hc : ∀ j u, cs[j]? = some u → C[o + j]? = some u) : w.rangeAt b o cs := by
  intro j u hj
  rw [Lib.cell_of_heap h]
  simpa using hc j u hj
theorem rng_below {w w' : World} {b o : Nat} {cs : List Value} (h : w.rangeAt b o cs) (hb : Below w.heap.size w w') (hl : b < w.heap.size) : w'.rangeAt b o cs := fun j u hj => (hb.cell (p := ⟨b, o + j, none⟩) hl).trans (h j u hj)
section
variable {w : World} {ops : Array Oper} {rest : List Oper} {p : Oper} {a : Act} {Q : Exit → Act → World → Prop} {b o : Nat}
/-- A load of a whole value, of a whole entry. -/
theorem ldV {v : Vl} (h : w.rangeAt b o (vlC v)) (hgd : Region.wanted p (yielded ops a.tmps) = true) (x : Operand) (ho : p.op = .load 42 x) (hx : a.eval x = .pointer (some ⟨b, o, none⟩))
    (hh : wpList Try.prog ops Q rest (a.put p.dst (.agg v.arr)) w) : wpList Try.prog ops Q (p :: rest) a w :=
  BigFrame.wpList_want hgd fun _ hK => wp_load_mid 42 x ho b o hx (vlC v) _ h Try.underlying42 rfl (by rw [infoV]; rfl) (hK _ _ hh)
theorem ldE {e : En} (h : w.rangeAt b o (enC e)) (hgd : Region.wanted p (yielded ops a.tmps) = true) (x : Operand) (ho : p.op = .load 59 x) (hx : a.eval x = .pointer (some ⟨b, o, none⟩))
    (hh : wpList Try.prog ops Q rest (a.put p.dst (.agg e.arr)) w) : wpList Try.prog ops Q (p :: rest) a w :=
  BigFrame.wpList_want hgd fun _ hK => wp_load_mid 59 x ho b o hx (enC e) _ h Try.underlying59 rfl (by rw [infoE]; rfl) (hK _ _ hh)
end
/-- An entry in a block of its own. -/
def Eb (q : Nat) (e : En) (w : World) : Prop := w.heap[q]? = some (.cells e.arr 59 (0, 0))
section
variable {q : Nat} {e : En} {w : World}
theorem Eb.lt (h : Eb q e w) : q < w.heap.size := (Array.getElem?_eq_some_iff.1 h).1
theorem Eb.new (w : World) (e : En) : Eb w.heap.size e (w.alloc (.cells e.arr 59)) := heap_alloc_new w _
theorem Eb.alloc (h : Eb q e w) (o : Obj) : Eb q e (w.alloc o) := (Lib.alloc_old w o q h.lt).trans h
theorem Eb.below {w' : World} (h : Eb q e w) (hb : Below w.heap.size w w') : Eb q e w' := (hb.block q h.lt).trans h
theorem Eb.c (h : Eb q e w) : w.cell? ⟨q, 0, none⟩ = some (.int .u16 e.ix) ∧ w.cell? ⟨q, 1, none⟩ = some (.int .u8 e.sb) ∧ w.cell? ⟨q, 2, none⟩ = some (.int .i64 e.ac) ∧ w.cell? ⟨q, 3, none⟩ = some (.bool e.mp) ∧ w.cell? ⟨q, 4, none⟩ = some (.bool e.li) ∧ w.cell? ⟨q, 11, none⟩ = some (.int .i64 e.df.t) :=
  ⟨Lib.cell_of_heap h 0, Lib.cell_of_heap h 1, Lib.cell_of_heap h 2, Lib.cell_of_heap h 3, Lib.cell_of_heap h 4, Lib.cell_of_heap h 11⟩
theorem Eb.r0 (h : Eb q e w) : w.rangeAt q 0 (enC e) := wf_rng h 0 _ (fun j u hj => by simpa using hj)
theorem Eb.r5 (h : Eb q e w) : w.rangeAt q 5 (vlC e.mn) := wf_rng h 5 _ (fun j u hj => by
  match j, hj with
  | 0, hj => exact hj
  | 1, hj => exact hj
  | 2, hj => exact hj
  | j + 3, hj => simp [vlC] at hj)
theorem Eb.r8 (h : Eb q e w) : w.rangeAt q 8 (vlC e.mx) := wf_rng h 8 _ (fun j u hj => by
  match j, hj with
  | 0, hj => exact hj
  | 1, hj => exact hj
  | 2, hj => exact hj
  | j + 3, hj => simp [vlC] at hj)
theorem Eb.r11 (h : Eb q e w) : w.rangeAt q 11 (vlC e.df) := wf_rng h 11 _ (fun j u hj => by
  match j, hj with
  | 0, hj => exact hj
  | 1, hj => exact hj
  | 2, hj => exact hj
  | j + 3, hj => simp [vlC] at hj)
end
/-- An item: its block, its entry, what it has. -/
structure Im where
  b : Nat
  e : En
  v : Vl
def imC (e : En) (v : Vl) : List Value := enC e ++ vlC v
theorem imC_len (e : En) (v : Vl) : (imC e v).length = 17 := rfl
def ptrI (b : Nat) : Value := .pointer (some ⟨b, 0, none⟩)
def Ib (b : Nat) (e : En) (v : Vl) (w : World) : Prop := w.heap[b]? = some (.cells (imC e v).toArray 76 (0, 0))
section
variable {q : Nat} {e : En} {v : Vl} {w : World}
theorem Ib.lt (h : Ib q e v w) : q < w.heap.size := (Array.getElem?_eq_some_iff.1 h).1
theorem Ib.same {w' : World} (h : Ib q e v w) (hb : w'.heap[q]? = w.heap[q]?) : Ib q e v w' := hb.trans h
theorem Ib.below {w' : World} (h : Ib q e v w) (hb : Below w.heap.size w w') : Ib q e v w' := (hb.block q h.lt).trans h
theorem Ib.c (h : Ib q e v w) : w.cell? ⟨q, 0, none⟩ = some (.int .u16 e.ix) ∧ w.cell? ⟨q, 1, none⟩ = some (.int .u8 e.sb) ∧ w.cell? ⟨q, 2, none⟩ = some (.int .i64 e.ac) ∧ w.cell? ⟨q, 3, none⟩ = some (.bool e.mp) ∧ w.cell? ⟨q, 4, none⟩ = some (.bool e.li) ∧ w.cell? ⟨q, 11, none⟩ = some (.int .i64 e.df.t) :=
  ⟨Lib.cell_of_heap h 0, Lib.cell_of_heap h 1, Lib.cell_of_heap h 2, Lib.cell_of_heap h 3, Lib.cell_of_heap h 4, Lib.cell_of_heap h 11⟩
theorem Ib.r0 (h : Ib q e v w) : w.rangeAt q 0 (enC e) := wf_rng h 0 _ (fun j u hj => by
  have hl := (List.getElem?_eq_some_iff.1 hj).1
  rw [Nat.zero_add, imC, List.getElem?_append_left hl]; exact hj)
theorem Ib.r5 (h : Ib q e v w) : w.rangeAt q 5 (vlC e.mn) := wf_rng h 5 _ (fun j u hj => by
  match j, hj with
  | 0, hj => exact hj
  | 1, hj => exact hj
  | 2, hj => exact hj
  | j + 3, hj => simp [vlC] at hj)
theorem Ib.r8 (h : Ib q e v w) : w.rangeAt q 8 (vlC e.mx) := wf_rng h 8 _ (fun j u hj => by
  match j, hj with
  | 0, hj => exact hj
  | 1, hj => exact hj
  | 2, hj => exact hj
  | j + 3, hj => simp [vlC] at hj)
theorem Ib.r11 (h : Ib q e v w) : w.rangeAt q 11 (vlC e.df) := wf_rng h 11 _ (fun j u hj => by
  match j, hj with
  | 0, hj => exact hj
  | 1, hj => exact hj
  | 2, hj => exact hj
  | j + 3, hj => simp [vlC] at hj)
theorem Ib.r14 (h : Ib q e v w) : w.rangeAt q 14 (vlC v) := wf_rng h 14 _ (fun j u hj => by
  match j, hj with
  | 0, hj => exact hj
  | 1, hj => exact hj
  | 2, hj => exact hj
  | j + 3, hj => simp [vlC] at hj)
theorem Ib.frozen (h : Ib q e v w) (k : Nat) : w.frozen? ⟨q, k, none⟩ = false := Lib.frozen_of_heap h k
theorem Ib.there (h : Ib q e v w) : w.there q 14 3 := by
  intro j hj
  refine ⟨?_, h.frozen _⟩
  have := h.r14.isSome j (by simpa [vlC] using hj)
  exact this
theorem setCells_heap (w : World) (b o : Nat) (vs : List Value) (k : Nat) (h : k ≠ b) : (w.setCells b o vs).heap[k]? = w.heap[k]? := by
  induction vs generalizing o w with
  | nil => rfl
  | cons x r ih => exact (ih (w.setCell ⟨b, o, none⟩ x) (o + 1)).trans (Below.heap_setCell w ⟨b, o, none⟩ x k h)
theorem setCells_size (w : World) (b o : Nat) (vs : List Value) : (w.setCells b o vs).heap.size = w.heap.size := by
  induction vs generalizing o w with
  | nil => rfl
  | cons x r ih => exact (ih (w.setCell ⟨b, o, none⟩ x) (o + 1)).trans (by simp [World.setCell])
theorem Ib.set (h : Ib q e v w) (u : Vl) : Ib q e u (w.setCells q 14 (vlC u)) := by
  have h : w.heap[q]? = some (.cells (imC e v).toArray 76 (0, 0)) := h
  unfold Ib
  show (((w.setCell ⟨q, 14, none⟩ (.int .i64 u.t)).setCell ⟨q, 15, none⟩ (.int .u64 u.n)).setCell ⟨q, 16, none⟩ (.string u.s)).heap[q]? = _
  simp only [World.setCell, Array.getElem?_modify, h]
  simp [imC, enC, vlC]
end
theorem setCells_kept (w : World) (q o : Nat) (c : List Value) : w.grownBy (w.setCells q o c) (some q) := by
  induction c generalizing o w with
  | nil => exact ⟨rfl, rfl, rfl, Nat.le_refl _, fun _ _ _ => rfl⟩
  | cons x r ih =>
    have h1 := ih (w.setCell ⟨q, o, none⟩ x) (o + 1)
    refine ⟨h1.os, h1.tape, h1.output, ?_, fun k hk hne => setCells_heap w q o (x :: r) k (fun e => hne (by rw [e]))⟩
    rw [setCells_size]; exact Nat.le_refl _
end Go.Proofs.Ythalhidebkhclaa
