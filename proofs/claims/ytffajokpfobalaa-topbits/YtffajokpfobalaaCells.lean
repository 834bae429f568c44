/- Rows of cells that the call itself made: read, written, turned into a text. -/
import Derived.Test.YtffajokpfobalaaLook
import Derived.Lib.Builder
import Derived.Lib.UnsafeStr
import Derived.Laws.IdiomStrings
import Derived.Deep.OwnRows
namespace Go.Proofs.Ytffajokpfobalaa
open Go.RowKit Go.Proofs.Bits
set_option linter.unusedVariables false
set_option maxRecDepth 1000000

/-- Block g begins with these cells, none of them frozen. -/
def Row (w : World) (g : Nat) (cs : List Value) : Prop :=
  ∃ cur T lo hi, w.heap[g]? = some (.cells cur T (lo, hi)) ∧ cs.length ≤ cur.size ∧ (cs.length ≤ lo ∨ hi = 0) ∧ cur.toList.take cs.length = cs
section
variable {w w' : World} {g : Nat} {cs : List Value}
theorem Row.lt (h : Row w g cs) : g < w.heap.size := by
  obtain ⟨cur, T, lo, hi, hh, _⟩ := h
  exact (Array.getElem?_eq_some_iff.1 hh).1
theorem Row.cell (h : Row w g cs) (k : Nat) (hk : k < cs.length) : w.cell? ⟨g, k, none⟩ = some cs[k] := by
  obtain ⟨cur, T, lo, hi, hh, hl, _, ht⟩ := h
  rw [Lib.cell_of_heap hh]
  have e : cs[k]? = cur.toList[k]? := by rw [← ht, List.getElem?_take, if_pos hk]
  rw [List.getElem?_eq_getElem hk] at e
  rw [e]; simp
theorem Row.free (h : Row w g cs) (k : Nat) (hk : k < cs.length) : w.frozen? ⟨g, k, none⟩ = false := by
  obtain ⟨cur, T, lo, hi, hh, hl, hf, ht⟩ := h
  simp [World.frozen?, hh]
  omega
theorem Row.set (h : Row w g cs) (k : Nat) (v : Value) : Row (w.setCell ⟨g, k, none⟩ v) g (cs.set k v) := by
  obtain ⟨cur, T, lo, hi, hh, hl, hf, ht⟩ := h
  refine ⟨cur.setIfInBounds k v, T, lo, hi, ?_, by simpa using hl, by simpa using hf, ?_⟩
  · simp [World.setCell, Array.getElem?_modify, hh]
  · rw [Array.toList_setIfInBounds, List.length_set, List.take_set, ht]
theorem Row.kept (h : Row w g cs) (hk : w'.heap[g]? = w.heap[g]?) : Row w' g cs := by
  obtain ⟨cur, T, lo, hi, hh, rest⟩ := h
  exact ⟨cur, T, lo, hi, hk.trans hh, rest⟩
theorem Row.below (h : Row w g cs) (hb : Below w.heap.size w w') : Row w' g cs := h.kept (hb.block g h.lt)
end
theorem Row.made (w : World) (z : Value) (n : Nat) (T : TypeId) : Row (w.alloc (.cells (madeCells #[z] n) T)) w.heap.size (List.replicate n z) := by
  refine ⟨madeCells #[z] n, T, 0, 0, ?_, by simp [size_madeCells], .inr rfl, ?_⟩
  · show (w.heap.push _)[w.heap.size]? = _
    simp
  · rw [List.length_replicate, List.take_of_length_le (by simp [size_madeCells])]
    apply List.ext_getElem
    · simp [size_madeCells]
    · intro i h1 h2
      simp [madeCells, Nat.mod_one]
theorem Row.ofText (w : World) (s : ByteArray) (cap : Nat) (T : TypeId) : Row (w.alloc (.cells (bytesRow s cap) T ((bytesRow s cap).size, (bytesRow s cap).size + 1))) w.heap.size (Lib.byteCells s.data.toList) := by
  refine ⟨bytesRow s cap, T, (bytesRow s cap).size, (bytesRow s cap).size + 1, ?_, by simp [bytesRow, Lib.byteCells], .inl (by simp [bytesRow, Lib.byteCells]), ?_⟩
  · show (w.heap.push _)[w.heap.size]? = _
    simp
  · simp [bytesRow, Lib.byteCells]
/-- Such a row of bytes as a text. -/
theorem Row.text {w : World} {g : Nat} {l : List UInt8} (h : Row w g (Lib.byteCells l)) (cap : Nat) : (convert 27 9 (.slice (some ⟨g, 0, none⟩) l.length cap)).run Try.prog w = .ok (.string ⟨l.toArray⟩) w := by
  refine run_convert_bytes_back (P := Try.prog) w 27 9 5 ⟨g, 0, none⟩ cap l Try.underlying27 Try.underlying5 Try.underlying9 ?_
  intro j hj
  have e : (⟨g, 0, none⟩ : Addr).add j = ⟨g, j, none⟩ := by
    unfold Addr.add
    split
    · rename_i h; subst h; rfl
    · simp
  rw [e, h.cell j (by rw [Lib.byteCells_length]; exact hj)]
  simp [Lib.byteCells]
end Go.Proofs.Ytffajokpfobalaa
