/- Contracts: May, Entry, Reset. -/
import Derived.Test.YthalhidebkhclaaP6
import Derived.Test.YthalhidebkhclaaQ0
namespace Go.Proofs.Ythalhidebkhclaa
open Go.RowKit Go.Proofs.Ty Go.Sort Go.Lib
set_option linter.unusedVariables false
set_option maxRecDepth 1000000
set_option linter.unusedSimpArgs false
set_option maxHeartbeats 4000000 in
theorem May_any {D R : Nat} {its : List Im} {w : World} (h : Dct D R its w) (ix sb : Nat) (h1 : ix < 65536) (h2 : sb < 256) (vb : Value) (l : List UInt8) (hB : Bytes w vb l) :
    Calls Try.prog 20 #[.pointer (some ⟨D, 0, none⟩), .int .u16 ix, .int .u8 sb, vb] w fun e w' => e = .returned (.int .u32 (wc its ix sb l)) ∧ Below w.heap.size w w' := by
  have hG := weigh_any h ix sb h1 h2 vb l hB
  obtain ⟨ao, cap, rfl⟩ := bytes_shape hB
  clear h hB
  unfold Wg at hG
  generalize wc its ix sb l = C at *
  go_enter Try.func20, Try.ntmps20
  go_wp2_with fail
  refine hG.mono ?_
  rintro e w1 ⟨p, v, rfl, b1, hz⟩
  clear hz hG
  obtain ⟨q, hq⟩ : ∃ q, w1.heap.size = q := ⟨_, rfl⟩
  have g0 : Va q Vl.nul (w1.alloc (.cells #[.int .i64 0, .int .u64 0, .string ⟨#[]⟩] 42)) := hq ▸ Va.new w1 Vl.nul
  have BA := b1.alloc b1.size (.cells #[.int .i64 0, .int .u64 0, .string ⟨#[]⟩] 42)
  have B2 := below_row BA (by have := b1.size; omega) BA.size (q := q) v.arr
  clear BA b1
  go_wp2_with (first | (refine g0.sd v rfl _ _ rfl rfl rfl ?_))
  go_ret
  exact ⟨rfl, B2⟩
/-- What Entry tells of an entry that is there. -/
theorem ent_results {Q : Nat} {e : En} {c : Bool} {w : World} (h : Eb Q e w) (tmps : Array Value) (h6 : tmps[6]?.getD undef = .pointer (some ⟨Q, 0, none⟩)) (h7 : tmps[7]?.getD undef = .bool c) :
    (results Try.f54 tmps).run Try.prog w = .ok (.tuple #[.agg e.arr, .bool c]) w := by
  have l0 : (loadVar 59 ⟨Q, 0, none⟩).run Try.prog w = .ok (.agg e.arr) w := run_ldE h.r0
  simp [Go.results, Try.results54, h6, h7, asAddr, l0]
set_option maxHeartbeats 4000000 in
theorem Entry_some {D R : Nat} {its : List Im} {w : World} (h : Dct D R its w) (ix sb : Nat) (h1 : ix < 65536) (h2 : sb < 256) {i : Im} (hf : fnd its ix sb = some i) :
    Calls Try.prog 54 #[.pointer (some ⟨D, 0, none⟩), .int .u16 ix, .int .u8 sb] w fun e w' => e = .returned (.tuple #[.agg i.e.arr, .bool true]) ∧ Below w.heap.size w w' := by
  obtain ⟨q, hq⟩ : ∃ q, w.heap.size = q := ⟨_, rfl⟩
  have hh : (w.alloc (.cells #[.int .u16 0, .int .u8 0, .int .i64 0, .bool false, .bool false, .int .i64 0, .int .u64 0, .string ⟨#[]⟩, .int .i64 0, .int .u64 0, .string ⟨#[]⟩, .int .i64 0, .int .u64 0, .string ⟨#[]⟩] 59)).heap[q]? = some (.cells #[.int .u16 0, .int .u8 0, .int .i64 0, .bool false, .bool false, .int .i64 0, .int .u64 0, .string ⟨#[]⟩, .int .i64 0, .int .u64 0, .string ⟨#[]⟩, .int .i64 0, .int .u64 0, .string ⟨#[]⟩] 59 (0, 0)) := by rw [← hq]; exact heap_alloc_new _ _
  have bA : Below w.heap.size w (w.alloc (.cells #[.int .u16 0, .int .u8 0, .int .i64 0, .bool false, .bool false, .int .i64 0, .int .u64 0, .string ⟨#[]⟩, .int .i64 0, .int .u64 0, .string ⟨#[]⟩, .int .i64 0, .int .u64 0, .string ⟨#[]⟩] 59)) := (Below.refl _ _).alloc (Nat.le_refl _) _
  have h0 := h.below bA
  have hF := find_some h0 ix sb h1 h2 hf
  have hI := h0.items i (fnd_mem hf)
  have s0 := bA.size
  unfold ptrI at hF
  clear h h0 hf
  go_enter Try.func54, Try.ntmps54
  go_upto_region 1 with fail
  generalize (w.alloc (.cells #[.int .u16 0, .int .u8 0, .int .i64 0, .bool false, .bool false, .int .i64 0, .int .u64 0, .string ⟨#[]⟩, .int .i64 0, .int .u64 0, .string ⟨#[]⟩, .int .i64 0, .int .u64 0, .string ⟨#[]⟩] 59)) = W at *
  try simp only [hq]
  go_wp2_with fail
  refine hF.mono ?_
  rintro e w1 ⟨rfl, b1⟩
  have hh1 : w1.heap[q]? = some (.cells #[.int .u16 0, .int .u8 0, .int .i64 0, .bool false, .bool false, .int .i64 0, .int .u64 0, .string ⟨#[]⟩, .int .i64 0, .int .u64 0, .string ⟨#[]⟩, .int .i64 0, .int .u64 0, .string ⟨#[]⟩] 59 (0, 0)) := (b1.block q (Array.getElem?_eq_some_iff.1 hh).1).trans hh
  have r0 := (hI.below b1).r0
  have B1 := bA.trans (b1.mono s0)
  have hE := Eb.row hh1 i.e
  have B2 := below_row B1 (by omega) B1.size (q := q) i.e.arr
  clear hF bA b1 B1 hI hh
  go_wp2_with (first | (refine ldE r0 rfl _ rfl rfl ?_) | (refine sdE hh1 rfl i.e rfl _ _ rfl rfl rfl ?_))
  exact bodyPost_ret (ent_results hE _ rfl rfl) rfl ⟨rfl, by first | exact B2 | (rw [← hq] at B2 ⊢; exact B2)⟩
/-- The first k items with other values. -/
def layT (g : Im → Vl) (its : List Im) (k : Nat) : List Im := its.mapIdx (fun j x => if j < k then ⟨x.b, x.e, g x⟩ else x)
section
variable {g : Im → Vl} {its : List Im}
theorem layT_len (k : Nat) : (layT g its k).length = its.length := by simp [layT]
theorem layT_zero : layT g its 0 = its := by
  apply List.ext_getElem
  · simp [layT]
  · intro j h1 h2; simp [layT]
theorem layT_full : layT g its its.length = its.map (fun x => ⟨x.b, x.e, g x⟩) := by
  apply List.ext_getElem
  · simp [layT]
  · intro j h1 h2
    simp only [layT, List.getElem_mapIdx, List.getElem_map]
    rw [if_pos (by simpa [layT] using h1)]
theorem layT_b (k : Nat) : (layT g its k).map Im.b = its.map Im.b := by
  apply List.ext_getElem
  · simp [layT]
  · intro j h1 h2
    simp only [layT, List.getElem_mapIdx, List.getElem_map]
    split <;> rfl
theorem layT_get {k : Nat} (hk : k < its.length) (h : k < (layT g its k).length) : (layT g its k)[k] = its[k] := by
  simp [layT]
theorem layT_step (hd : (its.map Im.b).Nodup) {k : Nat} (hk : k < its.length) : setV (layT g its k) its[k].b (g its[k]) = layT g its (k + 1) := by
  apply List.ext_getElem
  · rw [setV_len, layT_len, layT_len]
  · intro j h1 h2
    have hj : j < its.length := by rw [layT_len] at h2; exact h2
    rw [setV_get _ _ _ j (by rw [layT_len]; exact hj)]
    simp only [layT, List.getElem_mapIdx]
    by_cases e : j = k
    · subst e
      rw [if_neg (Nat.lt_irrefl _), if_pos rfl, if_pos (Nat.lt_succ_self _)]
    · have hne : its[j].b ≠ its[k].b := fun h => by
        have h3 := List.pairwise_iff_getElem.1 hd
        rcases Nat.lt_or_gt_of_ne e with h4 | h4
        · exact h3 j k (by simpa using hj) (by simpa using hk) h4 (by simp only [List.getElem_map]; exact h)
        · exact h3 k j (by simpa using hk) (by simpa using hj) h4 (by simp only [List.getElem_map]; exact h.symm)
      by_cases h5 : j < k
      · rw [if_pos h5, if_pos (show j < k + 1 by omega), if_neg hne]
      · rw [if_neg h5, if_neg (show ¬ j < k + 1 by omega), if_neg hne]
theorem layT_same {k : Nat} (hk : k < its.length) (h : g its[k] = its[k].v) : layT g its (k + 1) = layT g its k := by
  apply List.ext_getElem
  · rw [layT_len, layT_len]
  · intro j h1 h2
    simp only [layT, List.getElem_mapIdx]
    by_cases e : j = k
    · subst e
      rw [if_neg (Nat.lt_irrefl _), if_pos (Nat.lt_succ_self _), h]
    · by_cases h5 : j < k
      · rw [if_pos h5, if_pos (show j < k + 1 by omega)]
      · rw [if_neg h5, if_neg (show ¬ j < k + 1 by omega)]
end
end Go.Proofs.Ythalhidebkhclaa
