/- Items made of entries: itemsOf up to its sorting. -/
import Derived.Test.YthalhidebkhclaaO4
import Derived.Test.YthalhidebkhclaaTy4
import Derived.Deep.OwnRows
namespace Go.Proofs.Ythalhidebkhclaa
open Go.RowKit Go.Proofs.Ty
set_option linter.unusedVariables false
set_option maxRecDepth 1000000
set_option linter.unusedSimpArgs false
theorem build_im (e : En) (v : Vl) (x : World) : (Instr.build 76 #[(0, .agg e.arr), (1, .agg v.arr)]).run Try.prog x = .ok (.agg (imC e v).toArray) x := by
  kernel_rfl
theorem infoP : (Try.prog.info? 72).map (fun i => (i.zero, i.size, i.bytes)) = some (some (.pointer none), 1, 8) := by kernel_rfl
def ptrs (its : List Im) : List Value := its.map (fun i : Im => ptrI i.b)
theorem ptrs_len (its : List Im) : (ptrs its).length = its.length := List.length_map _
theorem ptrs_set (its : List Im) (i : Im) (n : Nat) (h : its.length < n) : (ptrs its ++ List.replicate (n - its.length) (Value.pointer none)).set its.length (ptrI i.b) = ptrs (its ++ [i]) ++ List.replicate (n - (its.length + 1)) (Value.pointer none) := by
  rw [List.set_append_right _ _ (by rw [ptrs_len]; exact Nat.le_refl _), ptrs_len, Nat.sub_self, show n - its.length = (n - (its.length + 1)) + 1 by omega, List.replicate_succ, List.set_cons_zero]
  simp [ptrs]
/-- So many items are made. -/
structure Mk (w : World) (R : Nat) (l : List En) (k : Nat) (its : List Im) (x : World) : Prop where
  row : x.heap[R]? = some (.cells (ptrs its ++ List.replicate (l.length - k) (Value.pointer none)).toArray 72 (0, 0))
  len : its.length = k
  ents : its.map Im.e = (l.take k).map En.plain
  vals : ∀ i ∈ its, i.v = i.e.df
  items : ∀ i ∈ its, Ib i.b i.e i.v x
  fresh : ∀ i ∈ its, R < i.b
  apart : (its.map Im.b).Nodup
  base : w.heap.size ≤ R
  below : Below w.heap.size w x
section
variable {w : World} {R : Nat} {l : List En} {k : Nat} {its : List Im} {x y : World}
theorem Mk.lt (h : Mk w R l k its x) : R < x.heap.size := (Array.getElem?_eq_some_iff.1 h.row).1
theorem Mk.next (h : Mk w R l k its x) (hb : Below x.heap.size x y) : Mk w R l k its y :=
  ⟨(hb.block R h.lt).trans h.row, h.len, h.ents, h.vals, fun i hi => (h.items i hi).below hb, h.fresh, h.apart, h.base, h.below.trans (hb.mono h.below.size)⟩
theorem Mk.cell (h : Mk w R l k its x) (hk : k < l.length) : x.cell? ⟨R, k, none⟩ = some (.pointer none) := by
  rw [Lib.cell_of_heap h.row]
  simp only [List.getElem?_toArray]
  rw [List.getElem?_append_right (by rw [ptrs_len, h.len]; exact Nat.le_refl _), ptrs_len, h.len]
  simp [show 0 < l.length - k by omega]
theorem Mk.frozen (h : Mk w R l k its x) (j : Nat) : x.frozen? ⟨R, j, none⟩ = false := Lib.frozen_of_heap h.row j
theorem Mk.step (h : Mk w R l k its x) (hk : k < l.length) : Mk w R l (k + 1) (its ++ [⟨x.heap.size, l[k].plain, l[k].plain.df⟩]) ((x.alloc (.cells (imC l[k].plain l[k].plain.df).toArray 76)).setCell ⟨R, k, none⟩ (ptrI x.heap.size)) := by
  have hlt := h.lt
  have hR : (x.alloc (.cells (imC l[k].plain l[k].plain.df).toArray 76)).heap[R]? = _ := (Lib.alloc_old x _ R hlt).trans h.row
  have hN := heap_alloc_new x (.cells (imC l[k].plain l[k].plain.df).toArray 76)
  have hBl : ∀ i ∈ its, i.b < x.heap.size := fun i hi => (h.items i hi).lt
  refine ⟨?_, by simp [h.len], ?_, ?_, ?_, ?_, ?_, h.base, ?_⟩
  · simp only [World.setCell, Array.getElem?_modify, hR]
    have hl := h.len
    subst hl
    have := ptrs_set its ⟨x.heap.size, l[its.length].plain, l[its.length].plain.df⟩ l.length hk
    simp only [← this]
    simp
  · rw [List.map_append, h.ents, List.take_succ_eq_append_getElem hk, List.map_append]; rfl
  · intro i hi
    rcases List.mem_append.1 hi with hi | hi
    · exact h.vals i hi
    · simp at hi; subst hi; rfl
  · intro i hi
    rcases List.mem_append.1 hi with hi | hi
    · exact ((h.items i hi).same (Lib.alloc_old x _ i.b (hBl i hi))).same (Below.heap_setCell _ ⟨R, k, none⟩ _ i.b (by have := h.fresh i hi; simp; omega))
    · simp at hi; subst hi
      exact (Below.heap_setCell _ ⟨R, k, none⟩ _ x.heap.size (by simp; omega)).trans hN
  · intro i hi
    rcases List.mem_append.1 hi with hi | hi
    · exact h.fresh i hi
    · simp at hi; subst hi; exact hlt
  · rw [List.map_append, List.nodup_append]
    refine ⟨h.apart, by simp, ?_⟩
    intro a ha b hb
    obtain ⟨i, hi, rfl⟩ := List.mem_map.1 ha
    simp at hb
    have := hBl i hi
    omega
  · have b1 : Below w.heap.size w (x.alloc (.cells (imC l[k].plain l[k].plain.df).toArray 76)) := h.below.alloc h.below.size _
    refine b1.grown (row := some R) ⟨rfl, rfl, rfl, by simp [World.setCell], fun j hj hne => Below.heap_setCell _ ⟨R, k, none⟩ _ j (fun e => hne (by rw [show j = R from e]))⟩ b1.size (fun j hj => by cases hj; exact h.base)
end
end Go.Proofs.Ythalhidebkhclaa
