/- Rows of cells that the call itself made; bytes that came in. -/
import Derived.Test.YthalhidebkhclaaTy3
namespace Go.Proofs.Ythalhidebkhclaa
open Go.RowKit Go.Proofs.Ty
set_option linter.unusedVariables false
set_option maxRecDepth 1000000

/-- Block g begins with these cells, none of them frozen. -/
def Row (w : World) (g : Nat) (cs : List Value) : Prop :=
  ∃ cur T lo hi, w.heap[g]? = some (.cells cur T (lo, hi)) ∧ cs.length ≤ cur.size ∧ (cs.length ≤ lo ∨ hi = 0) ∧ cur.toList.take cs.length = cs
section
variable {w w' : World} {g : Nat} {cs : List Value}
theorem Row.lt (h : Row w g cs) : g < w.heap.size := by
  obtain ⟨cur, T, lo, hi, hh, _⟩ := h
  exact (Array.getElem?_eq_some_iff.1 hh).1
theorem Row.cell (h : Row w g cs) (k : Nat) (hk : k < cs.length) : w.cell? ⟨g, k, none⟩ = some cs[k] := by
  obtain ⟨cur, T, lo, hi, hh, hl, _, ht⟩ := h
  rw [Lib.cell_of_heap hh]
  have e : cs[k]? = cur.toList[k]? := by rw [← ht, List.getElem?_take, if_pos hk]
  rw [List.getElem?_eq_getElem hk] at e
  rw [e]; simp
theorem Row.free (h : Row w g cs) (k : Nat) (hk : k < cs.length) : w.frozen? ⟨g, k, none⟩ = false := by
  obtain ⟨cur, T, lo, hi, hh, hl, hf, ht⟩ := h
  simp [World.frozen?, hh]
  omega
theorem Row.set (h : Row w g cs) (k : Nat) (v : Value) : Row (w.setCell ⟨g, k, none⟩ v) g (cs.set k v) := by
  obtain ⟨cur, T, lo, hi, hh, hl, hf, ht⟩ := h
  refine ⟨cur.setIfInBounds k v, T, lo, hi, ?_, by simpa using hl, by simpa using hf, ?_⟩
  · simp [World.setCell, Array.getElem?_modify, hh]
  · rw [Array.toList_setIfInBounds, List.length_set, List.take_set, ht]
theorem Row.kept (h : Row w g cs) (hk : w'.heap[g]? = w.heap[g]?) : Row w' g cs := by
  obtain ⟨cur, T, lo, hi, hh, rest⟩ := h
  exact ⟨cur, T, lo, hi, hk.trans hh, rest⟩
theorem Row.below (h : Row w g cs) (hb : Below w.heap.size w w') : Row w' g cs := h.kept (hb.block g h.lt)
end
theorem Row.made (w : World) (z : Value) (n : Nat) (T : TypeId) : Row (w.alloc (.cells (madeCells #[z] n) T)) w.heap.size (List.replicate n z) := by
  refine ⟨madeCells #[z] n, T, 0, 0, ?_, by simp [size_madeCells], .inr rfl, ?_⟩
  · show (w.heap.push _)[w.heap.size]? = _
    simp
  · rw [List.length_replicate, List.take_of_length_le (by simp [size_madeCells])]
    apply List.ext_getElem
    · simp [size_madeCells]
    · intro i h1 h2
      simp [madeCells, Nat.mod_one]
theorem Row.ofText (w : World) (s : ByteArray) (cap : Nat) (T : TypeId) : Row (w.alloc (.cells (bytesRow s cap) T ((bytesRow s cap).size, (bytesRow s cap).size + 1))) w.heap.size (Lib.byteCells s.data.toList) := by
  refine ⟨bytesRow s cap, T, (bytesRow s cap).size, (bytesRow s cap).size + 1, ?_, by simp [bytesRow, Lib.byteCells], .inl (by simp [bytesRow, Lib.byteCells]), ?_⟩
  · show (w.heap.push _)[w.heap.size]? = _
    simp
  · simp [bytesRow, Lib.byteCells]

/-- A slice of bytes that came in: nil, or cells in an old block (where there is none, whatever address). -/
def Bytes (w : World) (v : Value) (l : List UInt8) : Prop :=
  ∃ ao cap, v = .slice ao l.length cap ∧ (ao = none → l = [] ∧ cap = 0) ∧ ∀ k (h : k < l.length), ∃ b off, ao = some ⟨b, off, none⟩ ∧ b < w.heap.size ∧ w.cell? ⟨b, off + k, none⟩ = some (.int .u8 l[k].toNat)
theorem Bytes.below {w w' : World} {v : Value} {l : List UInt8} (h : Bytes w v l) (hb : Below w.heap.size w w') : Bytes w' v l := by
  obtain ⟨ao, cap, hv, h0, hc⟩ := h
  refine ⟨ao, cap, hv, h0, fun k hk => ?_⟩
  obtain ⟨b, off, ha, hlt, hcell⟩ := hc k hk
  exact ⟨b, off, ha, Nat.lt_of_lt_of_le hlt hb.size, (hb.cell (p := ⟨b, off + k, none⟩) hlt).trans hcell⟩
theorem Bytes.of_row {w : World} {g : Nat} {l : List UInt8} (h : Row w g (Lib.byteCells l)) (cap : Nat) : Bytes w (.slice (some ⟨g, 0, none⟩) l.length cap) l :=
  ⟨some ⟨g, 0, none⟩, cap, rfl, (fun h => by cases h), fun k hk => ⟨g, 0, rfl, h.lt, by
    have := h.cell k (by rw [Lib.byteCells_length]; exact hk)
    rw [Nat.zero_add, this]
    simp [Lib.byteCells]⟩⟩
theorem Bytes.nil (w : World) : Bytes w (.slice none 0 0) [] := ⟨none, 0, rfl, fun _ => ⟨rfl, rfl⟩, fun k hk => by simp at hk⟩
theorem add_off (b off j : Nat) : (⟨b, off, none⟩ : Addr).add j = ⟨b, off + j, none⟩ := by
  unfold Addr.add
  split
  · rename_i h; subst h; rfl
  · rfl
/-- Such bytes as a text. -/
theorem Bytes.text {w : World} {v : Value} {l : List UInt8} (h : Bytes w v l) : (convert 24 9 v).run Try.prog w = .ok (.string ⟨l.toArray⟩) w := by
  obtain ⟨ao, cap, rfl, h0, hc⟩ := h
  cases ao with
  | none =>
    obtain ⟨rfl, rfl⟩ := h0 rfl
    simp [convert, run_underlying Try.underlying24, run_underlying Try.underlying5, run_underlying Try.underlying9]
    rfl
  | some ad =>
    refine run_convert_bytes_back (P := Try.prog) w 24 9 5 ad cap l Try.underlying24 Try.underlying5 Try.underlying9 ?_
    intro j hj
    obtain ⟨b, off, ha, _, hcell⟩ := hc j hj
    simp at ha
    subst ha
    rw [add_off, hcell]
theorem info5 : (Try.prog.info? 5).map (fun i => (i.zero, i.size, i.bytes)) = some (some (.int .u8 0), 1, 1) := by kernel_rfl
theorem info_parts {T : TypeId} {z : Option Value} {s b : Nat} (h : (Try.prog.info? T).map (fun i => (i.zero, i.size, i.bytes)) = some (z, s, b)) : ∃ i, Try.prog.info? T = some i ∧ i.zero = z ∧ i.size = s ∧ i.bytes = b := by
  cases hi : Try.prog.info? T with
  | none => rw [hi] at h; cases h
  | some i =>
    rw [hi] at h
    simp only [Option.map_some, Option.some.injEq, Prod.mk.injEq] at h
    exact ⟨i, rfl, h.1, h.2.1, h.2.2⟩
end Go.Proofs.Ythalhidebkhclaa
