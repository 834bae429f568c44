/- A slice of two frames that the call itself made. -/
import Derived.Test.YtfddoindcmdooaaFst2
import Derived.Great.BuildSlice
namespace Go.Proofs.Ytfddoindcmdooaa
open Go.RowKit Go.Proofs.Bits
set_option linter.unusedVariables false
set_option maxRecDepth 1000000

theorem infoFZ : (Try.prog.info? 45).map (fun i => (i.zero, i.size, i.bytes)) = some (some (.agg Fr.nul.arr), 12, 24) := by kernel_rfl
theorem fill_two (f g : Fr) : Instr.fill (fun i => some (i * 12, 12)) ((Array.range (2 * 12)).map ((Value.agg Fr.nul.arr).cells[· % (Value.agg Fr.nul.arr).cells.size]!)) [(0, .agg f.arr), (1, .agg g.arr)] = some (f.arr ++ g.arr) := by
  obtain ⟨i, x, r, n, d0, d1, d2, d3, d4, d5, d6, d7, e⟩ := arr_full f
  obtain ⟨i', x', r', n', d0', d1', d2', d3', d4', d5', d6', d7', e'⟩ := arr_full g
  rw [e, e']
  kernel_rfl
theorem frames_two (f g : Fr) (w : World) : Frames (w.alloc (.cells (f.arr ++ g.arr) 45)) (.slice (some ⟨w.heap.size, 0, none⟩) 2 2) [f, g] := by
  refine ⟨some ⟨w.heap.size, 0, none⟩, 2, rfl, (fun h => by cases h), fun k hk => ⟨w.heap.size, 0, rfl, by rw [size_alloc]; omega, ?_⟩⟩
  have hh := heap_alloc_new w (.cells (f.arr ++ g.arr) 45)
  have lf : f.cells.length = 12 := by simp [Fr.cells, f.hdata]
  have lg : g.cells.length = 12 := by simp [Fr.cells, g.hdata]
  intro j v hj
  rw [Lib.cell_of_heap hh]
  match k, hk with
  | 0, _ =>
    have h1 : f.cells[j]? = some v := hj
    have hl := (List.getElem?_eq_some_iff.1 h1).1
    rw [Array.getElem?_append_left (by rw [f.arr_size]; omega)]
    simpa [Fr.arr] using h1
  | 1, _ =>
    have h1 : g.cells[j]? = some v := hj
    have hl := (List.getElem?_eq_some_iff.1 h1).1
    rw [Array.getElem?_append_right (by rw [f.arr_size]; omega), f.arr_size]
    have : 0 + 1 * 12 + j - 12 = j := by omega
    rw [this]
    simpa [Fr.arr] using h1
  | k + 2, hk => simp at hk; omega
theorem two_bs {w : World} {ops : Array Oper} {rest : List Oper} {o : Oper} {a : Act} {Q : Exit → Act → World → Prop} (f g : Fr) (hgd : o.guard = none) (x y : Operand) (ho : o.op = .buildSlice 37 2 #[(0, x), (1, y)]) (hx : a.eval x = .agg f.arr) (hy : a.eval y = .agg g.arr)
    (h : wpList Try.prog ops Q rest (a.put o.dst (.slice (some ⟨w.heap.size, 0, none⟩) 2 2)) (w.alloc (.cells (f.arr ++ g.arr) 45))) : wpList Try.prog ops Q (o :: rest) a w := by
  obtain ⟨i0, hi, hz0, hz1, hz2⟩ := info_parts infoFZ
  refine wpList_buildSlice hgd 37 45 2 _ ho (f.arr ++ g.arr) i0 _ Try.underlying37 hi hz0 (by rw [hz1]; decide) (by rw [hz1]; decide) ?_ h
  rw [hz1]
  have := fill_two f g
  simpa [hx, hy] using this
end Go.Proofs.Ytfddoindcmdooaa
