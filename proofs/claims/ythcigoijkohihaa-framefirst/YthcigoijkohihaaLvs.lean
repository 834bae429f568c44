/- The contract of leaves: those that do not leave off at a place. -/
import Derived.Test.YthcigoijkohihaaRFst
import Derived.Test.YthcigoijkohihaaWired
import Derived.Test.YthcigoijkohihaaMathV
namespace Go.Proofs.Ythcigoijkohihaa
open Go.RowKit Go.Proofs.Bits
set_option linter.unusedVariables false
set_option maxRecDepth 1000000

theorem infoI : (Try.prog.info? 3).map (fun i => (i.zero, i.size, i.bytes)) = some (some (.int .i64 0), 1, 8) := by kernel_rfl
theorem fieldAll (f : Fr) : f.field.all isBit = true := by
  have h1 : (flagV f.rem).all isBit = true := by cases f.rem <;> rfl
  unfold Fr.field
  split <;> simp only [List.all_append, numL_all, h1, Bool.true_and, Bool.and_true] <;> rfl
theorem field_base {f : Fr} (h : f.ext = false) : f.field.length = 13 ∧ f.field[12]? = some 48 := by
  have e : f.field = numL f.id 11 ++ flagV f.rem ++ [48] := by unfold Fr.field; rw [h]; rfl
  rw [e]
  have l : (numL f.id 11 ++ flagV f.rem).length = 12 := by simp [numL_length, flagV_length]
  refine ⟨by simp [numL_length, flagV_length], ?_⟩
  rw [List.getElem?_append_right (by omega), l]
  rfl
theorem field_ext {f : Fr} (h : f.ext = true) : f.field.length = 32 ∧ f.field[12]? = some 49 := by
  have e : f.field = numL (f.id / 262144) 11 ++ ([49, 49] ++ numL (f.id % 262144) 18 ++ flagV f.rem) := by unfold Fr.field; rw [h]; simp
  rw [e]
  refine ⟨by simp [numL_length, flagV_length], ?_⟩
  rw [List.getElem?_append_right (by rw [numL_length]; omega), numL_length]
  rfl
theorem field_free (f g : Fr) : ¬ (f.field <+: g.field ∧ f.field.length < g.field.length) := by
  rintro ⟨h, hl⟩
  cases hf : f.ext
  · cases hg : g.ext
    · rw [(field_base hf).1, (field_base hg).1] at hl; omega
    · have h1 := (field_base hf).2
      have h2 := (field_ext hg).2
      obtain ⟨t, ht⟩ := h
      rw [← ht, List.getElem?_append_left (by rw [(field_base hf).1]; omega), h1] at h2
      simp at h2
  · cases hg : g.ext
    · rw [(field_ext hf).1, (field_base hg).1] at hl; omega
    · rw [(field_ext hf).1, (field_ext hg).1] at hl; omega
theorem field_same (f g : Fr) (h : ∀ q, q < 32 → pad f.field q = pad g.field q) : f.field = g.field := by
  have key : f.field.length = g.field.length → f.field = g.field := by
    intro hl
    apply List.ext_getElem hl
    intro i h1 h2
    have := h i (by have := field_len f; omega)
    rw [pad_at h1, pad_at h2] at this
    exact this
  have h12 := h 12 (by omega)
  unfold pad at h12
  rw [List.getD, List.getD] at h12
  cases hf : f.ext
  · cases hg : g.ext
    · exact key (by rw [(field_base hf).1, (field_base hg).1])
    · rw [(field_base hf).2, (field_ext hg).2] at h12
      simp at h12
  · cases hg : g.ext
    · rw [(field_ext hf).2, (field_base hg).2] at h12
      simp at h12
    · exact key (by rw [(field_ext hf).1, (field_ext hg).1])
theorem flds_at {fs : List Fr} {j : Nat} (h : j < fs.length) : (flds fs).getD j [] = fs[j].field := by
  rw [getD_at (by rw [flds_length]; exact h)]
  simp [flds]
theorem flds_least (fs : List Fr) (h0 : 0 < fs.length) : Least (flds fs) (best (flds fs) fs.length) := by
  have hb := best_lt (flds fs) fs.length h0
  refine ⟨by rw [flds_length]; exact hb, ?_, ?_, ?_⟩
  · intro l hl
    obtain ⟨f, _, rfl⟩ := List.mem_map.1 hl
    exact fieldAll f
  · intro j hj
    rw [flds_length] at hj
    exact best_least (flds fs) fs.length j hj
  · intro i j hi hj
    rw [flds_length] at hi hj
    rw [flds_at hi, flds_at hj]
    exact field_free _ _
theorem left_end (fs : List Fr) (h0 : 0 < fs.length) (hn : (flds fs).Nodup) : leftK (flds fs) ((flds fs).getD (best (flds fs) fs.length) []) 32 = [best (flds fs) fs.length] := by
  have hL := flds_least fs h0
  refine single_of (leftK_nodup _ _ _) (hL.mem 32) fun j hj => ?_
  have hlt := leftK_lt hj
  have hbl := hL.lt
  unfold leftK at hj
  rw [List.mem_filter] at hj
  have hg := goes_iff.1 hj.2
  have h1 : j < fs.length := by rw [flds_length] at hlt; exact hlt
  have h2 : best (flds fs) fs.length < fs.length := by rw [flds_length] at hbl; exact hbl
  refine nodup_at hn hlt hbl ?_
  rw [flds_at h1, flds_at h2] at hg ⊢
  exact field_same _ _ hg

/-- What is sent at a place, as a value; what the wire has. -/
def bitB (T : List (List UInt8)) (j p : Nat) : ByteArray := ⟨#[pad (T.getD j []) p]⟩
def natV (j : Nat) : Value := .int .i64 j
theorem bitB_mid {T : List (List UInt8)} {j p : Nat} (h : p < (T.getD j []).length) : (txB T j).extract p (p + 1) = bitB T j p := by
  unfold txB bitB
  rw [pad_at h]
  apply ByteArray.ext
  rw [ByteArray.data_extract]
  apply Array.toList_inj.1
  simp only [Array.toList_extract, List.extract]
  rw [show p + 1 - p = 1 by omega, List.take_one, List.head?_drop, List.getElem?_eq_getElem h]
  rfl
theorem bitB_end {T : List (List UInt8)} {j p : Nat} (h : ¬ p < (T.getD j []).length) : bitB T j p = ⟨#[49]⟩ := by
  unfold bitB
  rw [pad_end (by omega)]
def ones (T : List (List UInt8)) (js : List Nat) (p : Nat) : List ByteArray := js.map fun j => bitB T j p
theorem txt_ones (T : List (List UInt8)) (js : List Nat) (p : Nat) : txt (ones T js p) = sends T js p := by
  unfold txt ones sends
  rw [List.map_map]
  rfl
theorem wired_ones (T : List (List UInt8)) (js : List Nat) (p : Nat) (hT : ∀ j ∈ js, (T.getD j []).all isBit = true) (h0 : 0 < js.length) :
    wiredV (sends T js p) = [lvl (has (sends T js p) 0)] := by
  have he : errs (sends T js p) = 0 := by
    rw [errs_zero]
    intro l hl
    obtain ⟨j, hj, rfl⟩ := List.mem_map.1 hl
    rcases pad_bit (hT j hj) p with e | e <;> rw [e] <;> rfl
  have hl : longest (sends T js p) = 1 := by
    have h1 : longest (sends T js p) ≤ 1 := longest_bound _ _ (fun l hl => by obtain ⟨j, hj, rfl⟩ := List.mem_map.1 hl; simp)
    have h2 : 1 ≤ longest (sends T js p) := by
      have := longest_le (sends T js p) [pad (T.getD js[0] []) p] (List.mem_map.2 ⟨js[0], List.getElem_mem h0, rfl⟩)
      simpa using this
    omega
  unfold wiredV wired
  rw [if_pos he, hl]
  rfl
theorem ones_one (T : List (List UInt8)) (js : List Nat) (p : Nat) : ∀ u ∈ (ones T js p).map Value.string, u.oneCell' = true := by
  intro u hu
  obtain ⟨s, _, rfl⟩ := List.mem_map.1 hu
  rfl
theorem slots_new (w : World) (u : Value) (T : TypeId) : Slots (w.alloc (.cells #[u] T)) (.slice (some ⟨w.heap.size, 0, none⟩) 1 1) [u] := by
  refine ⟨some ⟨w.heap.size, 0, none⟩, 1, rfl, (fun h => by cases h), fun k hk => ⟨w.heap.size, 0, rfl, by rw [size_alloc]; omega, ?_⟩⟩
  rw [Lib.cell_of_heap (heap_alloc_new w _)]
  match k, hk with
  | 0, _ => rfl
  | k + 1, hk => simp at hk
end Go.Proofs.Ythcigoijkohihaa
