/- The document's dictionary in memory; its places. -/
import Derived.Test.YthalhidebkhclaaOlb
namespace Go.Proofs.Ythalhidebkhclaa
open Go.RowKit Go.Proofs.Ty Go.Sort Go.Lib
set_option linter.unusedVariables false
set_option maxRecDepth 1000000
set_option linter.unusedSimpArgs false
def DV : Dec Vl := ⟨vlC, 3, by decide, fun _ => rfl, fun v u hu => by simp [vlC] at hu; rcases hu with rfl | rfl | rfl <;> rfl⟩
theorem infoVz : (Try.prog.info? 42).map (fun i => (i.zero, i.size, i.bytes)) = some (some (.agg #[.int .i64 0, .int .u64 0, .string ⟨#[]⟩]), 3, 32) := by kernel_rfl
theorem wp_bs1 {α : Type} (D : Dec α) {w : World} {o : Oper} {a : Act} {K : Act → World → Prop} {Q : Exit → Act → World → Prop} (s : α) (t e : TypeId) (z : Value) (bytes : Nat) (x : Operand) (ho : o.op = .buildSlice t 1 #[(0, x)]) (hx : a.eval x = .agg (D.dec s).toArray)
    (ht : Try.prog.underlying t = some (.slice e)) (hinfo : (Try.prog.info? e).map (fun i => (i.zero, i.size, i.bytes)) = some (some z, D.c, bytes)) (hsmall : D.c ≤ 1000)
    (h : K (a.put o.dst (.slice (some ⟨w.heap.size, 0, none⟩) 1 1)) (w.alloc (.cells (D.dec s).toArray e))) : o.wp Try.prog a w K Q := by
  obtain ⟨i0, hi, hz0, hz1, hz2⟩ := info_parts hinfo
  refine wp_buildSlice t e 1 _ ho (D.dec s).toArray i0 z ht hi hz0 (by rw [hz1]; omega) (by rw [hz1]; have := D.pos; omega) ?_ h
  rw [hz1]
  have hsz : (Value.agg (D.dec s).toArray).cells.size = D.c := by simp [Value.cells, D.len]
  have := Go.Great.fill_whole D.pos [Value.agg (D.dec s).toArray] ((Array.range (1 * D.c)).map (z.cells[· % z.cells.size]!)) (by intro v hv; simp at hv; subst hv; exact hsz) (by simp)
  simpa [hx, Value.cells] using this
theorem r8place_any (e : En) (w : World) : Calls Try.prog 31 #[.agg e.arr] w fun x w' => x = .returned (.int .i64 e.pl) ∧ Below w.heap.size w w' := by
  have h0 := Eb.new w e
  have B0 : Below w.heap.size w (w.alloc (.cells e.arr 59)) := (Below.refl _ _).alloc (Nat.le_refl _) _
  obtain ⟨c0, c1, _⟩ := h0.c
  have HX : Hid (e.pl = e.ix * 256 + e.sb) := rfl
  have h1 := e.hix
  have h2 := e.hsb
  generalize e.pl = P at *
  generalize e.ix = A at *
  generalize e.sb = B at *
  clear h0
  go_enter Try.func31, Try.ntmps31
  go_wp2
  go_ret
  exact ⟨ret_int (by rw [HX.out]; omega), B0⟩
/-- The document's dictionary at E: its entries, its values. -/
structure Rd (E : Nat) (L : List En) (vL : Value) (V : List Vl) (vV : Value) (w : World) : Prop where
  head : w.heap[E]? = some (.cells #[vL, vV] 70 (0, 0))
  rowL : RT 59 14 enC w vL L
  rowV : RT 42 3 vlC w vV V
section
variable {E : Nat} {L : List En} {vL : Value} {V : List Vl} {vV : Value} {w x : World}
theorem Rd.lt (h : Rd E L vL V vV w) : E < w.heap.size := (Array.getElem?_eq_some_iff.1 h.head).1
theorem Rd.c (h : Rd E L vL V vV w) : w.cell? ⟨E, 0, none⟩ = some vL ∧ w.cell? ⟨E, 1, none⟩ = some vV := ⟨by rw [Lib.cell_of_heap h.head]; rfl, by rw [Lib.cell_of_heap h.head]; rfl⟩
theorem Rd.below (h : Rd E L vL V vV w) (hb : Below w.heap.size w x) : Rd E L vL V vV x := ⟨(hb.block E h.lt).trans h.head, h.rowL.below hb, h.rowV.below hb⟩
theorem Rd.frozen (h : Rd E L vL V vV w) (k : Nat) : w.frozen? ⟨E, k, none⟩ = false := Lib.frozen_of_heap h.head _
theorem set_kept (w : World) (E k : Nat) (u : Value) : w.grownBy (w.setCell ⟨E, k, none⟩ u) (some E) := ⟨rfl, rfl, rfl, by simp [World.setCell], fun j hj hne => Below.heap_setCell w ⟨E, k, none⟩ u j (fun e => hne (by rw [show j = E from e]))⟩
theorem Rd.setL (h : Rd E L vL V vV w) {L' : List En} {u : Value} (hr : RT 59 14 enC w u L') : Rd E L' u V vV (w.setCell ⟨E, 0, none⟩ u) := by
  have hg := set_kept w E 0 u
  refine ⟨?_, hr.grown hg (hr.ne h.head (by decide)), h.rowV.grown hg (h.rowV.ne h.head (by decide))⟩
  have hh := h.head
  simp only [World.setCell, Array.getElem?_modify, hh]
  simp
theorem Rd.setV (h : Rd E L vL V vV w) {V' : List Vl} {u : Value} (hr : RT 42 3 vlC w u V') : Rd E L vL V' u (w.setCell ⟨E, 1, none⟩ u) := by
  have hg := set_kept w E 1 u
  refine ⟨?_, h.rowL.grown hg (h.rowL.ne h.head (by decide)), hr.grown hg (hr.ne h.head (by decide))⟩
  have hh := h.head
  simp only [World.setCell, Array.getElem?_modify, hh]
  simp
end
theorem load_ents (x : World) (D k : Nat) (ao : Option Addr) (l c : Nat) (hc : x.cell? ⟨D, k, none⟩ = some (.slice ao l c)) : (loadVar 22 ⟨D, k, none⟩).run Try.prog x = .ok (.slice ao l c) x := by
  simp [go_sem, run_underlying Try.underlying22, hc]
theorem store_ents (x : World) (D k : Nat) (u : Value) (ao : Option Addr) (l c : Nat) (hc : x.cell? ⟨D, k, none⟩ = some u) (hf : x.frozen? ⟨D, k, none⟩ = false) : (storeVar 22 ⟨D, k, none⟩ (.slice ao l c)).run Try.prog x = .ok () (x.setCell ⟨D, k, none⟩ (.slice ao l c)) := by
  simp [go_sem, run_underlying Try.underlying22, hc, hf]
theorem load_vals (x : World) (D k : Nat) (ao : Option Addr) (l c : Nat) (hc : x.cell? ⟨D, k, none⟩ = some (.slice ao l c)) : (loadVar 68 ⟨D, k, none⟩).run Try.prog x = .ok (.slice ao l c) x := by
  simp [go_sem, run_underlying Try.underlying68, hc]
theorem store_vals (x : World) (D k : Nat) (u : Value) (ao : Option Addr) (l c : Nat) (hc : x.cell? ⟨D, k, none⟩ = some u) (hf : x.frozen? ⟨D, k, none⟩ = false) : (storeVar 68 ⟨D, k, none⟩ (.slice ao l c)).run Try.prog x = .ok () (x.setCell ⟨D, k, none⟩ (.slice ao l c)) := by
  simp [go_sem, run_underlying Try.underlying68, hc, hf]
theorem wp_store_cell {o : Oper} {a : Act} {w w' : World} {K : Act → World → Prop} {Q : Exit → Act → World → Prop} (ty : TypeId) (x y : Operand) (ho : o.op = .store ty x y) (b k : Nat) (hx : a.eval x = .pointer (some ⟨b, k, none⟩)) (v : Value) (hy : a.eval y = v)
    (hr : (storeVar ty ⟨b, k, none⟩ v).run Try.prog w = .ok () w') (h : K (a.put o.dst undef) w') : o.wp Try.prog a w K Q := by
  unfold Oper.wp execOp
  simp only [ho, hx, hy, Instr.storeAt, Instr.sureAddr, Sem.run_bind, Sem.run_pure, Result.andThen_ok, hr]
  exact h
/-- The first k of a row, what is behind them. -/
theorem re_take {w : World} {v : Value} {l : List En} (h : RT 59 14 enC w v l) (k : Nat) (hk : k ≤ l.length) : ∃ v1, (∀ W, (Instr.sliceAt 22 v none (some (.int .i64 k)) none).run Try.prog W = .ok v1 W) ∧ ∀ x, Wide 14 enC x v l → Wide 14 enC x v1 (l.take k) := by
  obtain ⟨i0, hi, hz0, hz1, hz2⟩ := info_parts infoEz
  obtain ⟨ao, cap, rfl⟩ := h.wide.shape
  have hcap := h.cap _ _ _ rfl
  have a0 : (0 : Int) ≤ (k : Int) := by omega
  have a1 : (k : Int) ≤ (cap : Int) := by omega
  cases ao with
  | none =>
    obtain ⟨ao', cap', hv, h0, _⟩ := h.wide
    injection hv with e1 _ e3
    obtain ⟨rfl, rfl⟩ := h0 e1.symm
    subst e3
    have : k = 0 := by simpa using hk
    subst this
    refine ⟨.slice none 0 0, fun W => ?_, fun x hx => by simpa using hx⟩
    simp [Instr.sliceAt, run_underlying Try.underlying22, go_sem, sizeOf, typeInfo, hi, hz1, Addr.add]
  | some a =>
    refine ⟨.slice (some a) k cap, fun W => ?_, fun x hx => ?_⟩
    · simp [Instr.sliceAt, run_underlying Try.underlying22, go_sem, sizeOf, typeInfo, hi, hz1, Addr.add, a0, a1]
    · obtain ⟨ao', cap', hv, h0, hc⟩ := hx
      injection hv with e1 _ e3
      subst e1 e3
      refine ⟨_, _, by rw [List.length_take, Nat.min_eq_left hk], (fun h => by cases h), fun j hj => ?_⟩
      rw [List.length_take] at hj
      obtain ⟨b, off, e, hlt, hr⟩ := hc j (by omega)
      refine ⟨b, off, e, hlt, ?_⟩
      rw [List.getElem_take]; exact hr
theorem re_drop {w : World} {v : Value} {l : List En} (h : RT 59 14 enC w v l) (k : Nat) (hk : k ≤ l.length) : ∃ v1, (∀ W, (Instr.sliceAt 22 v (some (.int .i64 k)) none none).run Try.prog W = .ok v1 W) ∧ ∀ x, Wide 14 enC x v l → Wide 14 enC x v1 (l.drop k) := by
  obtain ⟨i0, hi, hz0, hz1, hz2⟩ := info_parts infoEz
  obtain ⟨ao, cap, rfl⟩ := h.wide.shape
  have hcap := h.cap _ _ _ rfl
  have a0 : (0 : Int) ≤ (k : Int) := by omega
  have a1 : (k : Int) ≤ (l.length : Int) := by omega
  have a2 : (l.length : Int) ≤ (cap : Int) := by omega
  cases ao with
  | none =>
    obtain ⟨ao', cap', hv, h0, _⟩ := h.wide
    injection hv with e1 _ e3
    obtain ⟨rfl, rfl⟩ := h0 e1.symm
    subst e3
    have : k = 0 := by simpa using hk
    subst this
    refine ⟨.slice none 0 0, fun W => ?_, fun x hx => by simpa using hx⟩
    simp [Instr.sliceAt, run_underlying Try.underlying22, go_sem, sizeOf, typeInfo, hi, hz1, Addr.add]
  | some a =>
    refine ⟨.slice (some (if cap = k then a else if k * 14 = 0 then a else ⟨a.block, a.off + k * 14, none⟩)) (l.length - k) (cap - k), fun W => ?_, fun x hx => ?_⟩
    · simp [Instr.sliceAt, run_underlying Try.underlying22, go_sem, sizeOf, typeInfo, hi, hz1, Addr.add, a0, a1, a2]
      split <;> rfl
    · obtain ⟨ao', cap', hv, h0, hc⟩ := hx
      injection hv with e1 _ e3
      subst e1 e3
      refine ⟨_, _, by rw [List.length_drop], (fun h => by cases h), fun j hj => ?_⟩
      rw [List.length_drop] at hj
      obtain ⟨b, off, e, hlt, hr⟩ := hc (k + j) (by omega)
      injection e with e
      subst e
      rw [if_neg (by omega)]
      by_cases hk0 : k * 14 = 0
      · rw [if_pos hk0]
        refine ⟨b, off, rfl, hlt, ?_⟩
        have : k = 0 := by omega
        subst this
        simpa using hr
      · rw [if_neg hk0]
        refine ⟨b, off + k * 14, rfl, hlt, ?_⟩
        rw [List.getElem_drop, show off + k * 14 + j * 14 = off + (k + j) * 14 by omega]
        exact hr
end Go.Proofs.Ythalhidebkhclaa
