/- Contracts: List; entries held against each other; two dictionaries of the same entries. -/
import Derived.Test.YthalhidebkhclaaP6
namespace Go.Proofs.Ythalhidebkhclaa
open Go.RowKit Go.Proofs.Ty Go.Sort Go.Lib
set_option linter.unusedVariables false
set_option maxRecDepth 1000000
set_option linter.unusedSimpArgs false
def zE : Array Value := #[.int .u16 0, .int .u8 0, .int .i64 0, .bool false, .bool false, .int .i64 0, .int .u64 0, .string ⟨#[]⟩, .int .i64 0, .int .u64 0, .string ⟨#[]⟩, .int .i64 0, .int .u64 0, .string ⟨#[]⟩]
theorem run_make_ents (n : Nat) (hn : n ≤ 1024) (w : World) : (Instr.makeSlice 22 (.int .i64 n) (.int .i64 n)).run Try.prog w = .ok (.slice (some ⟨w.heap.size, 0, none⟩) n n) (w.alloc (.cells (madeCells zE (n * 14)) 59)) := by
  obtain ⟨i0, hi, hz0, hz1, hz2⟩ := info_parts infoEz
  have := run_make (P := Try.prog) w 22 59 i0 _ Try.underlying22 hi hz0 .i64 .i64 n n (by omega) (Int.le_refl _) (by rw [hz2]; omega) (by omega)
  simp only [Int.toNat_natCast, hz1] at this
  exact this
/-- So many entries are laid down. -/
structure Ls (w : World) (g : Nat) (its : List Im) (k : Nat) (x : World) : Prop where
  bel : Below w.heap.size w x
  base : w.heap.size ≤ g
  lt : g < x.heap.size
  ht : x.there g 0 (its.length * 14)
  hn : ∀ m (hm : m < its.length), m < k → x.rangeAt g (m * 14) (enC its[m].e)
theorem Ls.start (w : World) (its : List Im) : Ls w w.heap.size its 0 (w.alloc (.cells (madeCells zE (its.length * 14)) 59)) := by
  refine ⟨(Below.refl _ _).alloc (Nat.le_refl _) _, Nat.le_refl _, by rw [size_alloc]; omega, fun j hj => ?_, fun m _ h => by omega⟩
  have hh := heap_alloc_new w (.cells (madeCells zE (its.length * 14)) 59)
  refine ⟨?_, Lib.frozen_of_heap hh _⟩
  rw [Lib.cell_of_heap hh]
  have : 0 + j < (madeCells zE (its.length * 14)).size := by rw [size_madeCells]; omega
  rw [Array.getElem?_eq_getElem this]; rfl
theorem Ls.step {w : World} {g : Nat} {its : List Im} {k : Nat} {x : World} (h : Ls w g its k x) (hk : k < its.length) : x.there g (k * 14) 14 ∧ Ls w g its (k + 1) (x.setCells g (k * 14) (enC its[k].e)) := by
  have ht : x.there g (k * 14) 14 := fun j hj => by
    have := h.ht (k * 14 + j) (by have : (k + 1) * 14 ≤ its.length * 14 := Nat.mul_le_mul_right _ hk; omega)
    rw [Nat.zero_add] at this
    exact this
  refine ⟨ht, h.bel.grown (setCells_kept x g (k * 14) _) h.bel.size (fun j hj => by cases hj; exact h.base), h.base, by rw [setCells_size]; exact h.lt, World.there_setCells h.ht _ _ _, fun m hm hmk => ?_⟩
  rcases Nat.lt_or_ge m k with h3 | h3
  · exact World.rangeAt_setCells_apart (h.hn m hm h3) g (k * 14) _ (.inr (.inl (by rw [enC_len]; omega)))
  · have : m = k := by omega
    subst this
    exact World.rangeAt_setCells_same x g (m * 14) _ (by rw [enC_len]; exact ht)
theorem Ls.wide {w : World} {g : Nat} {its : List Im} {x : World} (h : Ls w g its its.length x) : Wide 14 enC x (.slice (some ⟨g, 0, none⟩) (its.map Im.e).length its.length) (its.map Im.e) := by
  refine ⟨some ⟨g, 0, none⟩, its.length, rfl, (fun h => by cases h), fun k hk => ⟨g, 0, rfl, h.lt, ?_⟩⟩
  have hk' : k < its.length := by simpa using hk
  rw [List.getElem_map, Nat.zero_add]
  exact h.hn k hk' hk'
theorem sdEm {w : World} {b o : Nat} (ht : w.there b o 14) {ops : Array Oper} {rest : List Oper} {p : Oper} {a : Act} {Q : Exit → Act → World → Prop} (e : En) (hgd : p.guard = none) (x y : Operand) (ho : p.op = .store 59 x y) (hx : a.eval x = .pointer (some ⟨b, o, none⟩)) (hy : a.eval y = .agg e.arr)
    (hh : wpList Try.prog ops Q rest (a.put p.dst undef) (w.setCells b o (enC e))) : wpList Try.prog ops Q (p :: rest) a w :=
  wpList_store_mid hgd 59 x y ho b o e.arr hx hy ht (by show _ = some 14; exact infoE) (all_oneCell_toArray e.one) hh
end Go.Proofs.Ythalhidebkhclaa
