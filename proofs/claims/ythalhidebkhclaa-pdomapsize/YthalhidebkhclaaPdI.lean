/- Mappings that can be, plainly. -/
import Derived.Test.YthalhidebkhclaaPdH
namespace Go.Proofs.Ythalhidebkhclaa
open Go.RowKit Go.Shelf Go.Proofs.Ty
set_option linter.unusedVariables false
set_option maxRecDepth 1000000
set_option linter.unusedSimpArgs false
theorem ck_all {its : List Im} {inn : Bool} {L : List Sl} (h : ckC its inn L = 0) (k : Nat) (hk : k < L.length) : refC its (L.getD k Sl.nul) inn = 0 ∧ en L (k + 1) ≤ 64 := by
  have h1 : ck1 its inn L k = 0 := by
    unfold ckC at h
    cases hf : ((List.range L.length).map (ck1 its inn L)).find? (fun c => decide (c ≠ 0)) with
    | none =>
      have := List.find?_eq_none.1 hf (ck1 its inn L k) (List.mem_map.2 ⟨k, by simpa using hk, rfl⟩)
      simpa using this
    | some c =>
      have := List.find?_some hf
      rw [hf] at h
      simp at h this
      exact absurd h this
  unfold ck1 at h1
  by_cases h2 : refC its (L.getD k Sl.nul) inn = 0
  · rw [if_neg (by simpa using h2)] at h1
    refine ⟨h2, ?_⟩
    by_cases h3 : 64 < en L (k + 1)
    · rw [if_pos h3] at h1
      cases h1
    · omega
  · rw [if_pos h2] at h1
    exact absurd h1 h2
/-- What is known of a slot that can be. -/
theorem ref_zero {its : List Im} {s : Sl} {inn : Bool} (h : refC its s inn = 0) : ∃ im, fnd its s.ix s.sb = some im ∧ im.e.mp = true ∧ s.bt = (siz im.e.df.t : Int) * 8 ∧ opn im.e.ac inn = true := by
  unfold refC at h
  cases hf : fnd its s.ix s.sb with
  | none =>
    rw [hf] at h
    simp only at h
    unfold wc at h
    rw [hf] at h
    exact absurd h (noc_ne _ _)
  | some im =>
    rw [hf] at h
    simp only at h
    refine ⟨im, rfl, ?_⟩
    split at h
    · cases h
    · rename_i hn
      simp at hn
      refine ⟨?_, ?_, ?_⟩
      all_goals first | exact hn.1 | exact hn.2.1 | exact hn.2.2
/-- Whole bytes. -/
def off (L : List Sl) (k : Nat) : Nat := (en L k).toNat / 8
theorem en_off {its : List Im} {inn : Bool} {L : List Sl} (h : ckC its inn L = 0) : ∀ k, k ≤ L.length → en L k = 8 * (off L k : Int) ∧ off L k ≤ 8 ∧ (∀ j, k = j + 1 → en L k = en L j + (L.getD j Sl.nul).bt ∧ off L j ≤ off L k) := by
  intro k
  induction k with
  | zero => intro _; exact ⟨by simp [en, off], by simp [en, off], fun j e => by cases e⟩
  | succ k ih =>
    intro hk
    obtain ⟨h1, h2, _⟩ := ih (by omega)
    obtain ⟨h3, h4⟩ := ck_all h k (by omega)
    obtain ⟨im, _, _, hb, _⟩ := ref_zero h3
    have hs : siz im.e.df.t ≤ 8 := by unfold siz; split <;> (try omega); split <;> (try omega); split <;> (try omega); split <;> omega
    have he : en L (k + 1) = en L k + (L.getD k Sl.nul).bt := by
      show wrap64 _ = _
      rw [hb, h1]
      simp only [wrap64]
      omega
    rw [hb, h1] at he
    have ho : off L (k + 1) = off L k + siz im.e.df.t := by
      have e1 : off L (k + 1) = (en L (k + 1)).toNat / 8 := rfl
      rw [e1, he]
      omega
    refine ⟨by rw [he, ho]; omega, by rw [he] at h4; omega, fun j e => ?_⟩
    obtain rfl : k = j := by omega
    exact ⟨by rw [he, hb, h1], by omega⟩
/-- The entries that may be mapped are numbers. -/
def Mn (its : List Im) : Prop := ∀ im ∈ its, im.e.mp = true → 0 < siz im.e.df.t
theorem off_more {its : List Im} {inn : Bool} {L : List Sl} (hm : Mn its) (h : ckC its inn L = 0) : ∀ k, k ≤ L.length → k ≤ off L k := by
  intro k
  induction k with
  | zero => intro _; exact Nat.zero_le _
  | succ k ih =>
    intro hk
    have h0 := ih (by omega)
    obtain ⟨h1, _, _⟩ := en_off h k (by omega)
    obtain ⟨h2, _, h3⟩ := en_off h (k + 1) hk
    obtain ⟨h4, _⟩ := h3 k rfl
    obtain ⟨im, hf, hmp, hb, _⟩ := ref_zero (ck_all h k (by omega)).1
    have := hm im (fnd_mem hf) hmp
    rw [hb] at h4
    omega
theorem few {its : List Im} {inn : Bool} {L : List Sl} (hm : Mn its) (h : ckC its inn L = 0) : L.length ≤ 8 := Nat.le_trans (off_more hm h _ (Nat.le_refl _)) (en_off h _ (Nat.le_refl _)).2.1
theorem siz_le (t : Int) : siz t ≤ 8 := by unfold siz; split <;> (try omega); split <;> (try omega); split <;> (try omega); split <;> omega
theorem sz_off {its : List Im} {inn : Bool} {L : List Sl} (hm : Mn its) (h : ckC its inn L = 0) : szC L = off L L.length := by
  have h8 := few hm h
  unfold szC
  rw [if_neg (by omega), if_pos]
  · obtain ⟨h1, _, _⟩ := en_off h L.length (Nat.le_refl _)
    rw [h1]
    omega
  · intro k hk
    obtain ⟨im, _, _, hb, _⟩ := ref_zero (ck_all h k (by simpa using hk)).1
    have := siz_le im.e.df.t
    unfold gdS
    rw [hb]
    omega
/-- What pieces asks. -/
theorem off_ask {its : List Im} {inn : Bool} {L : List Sl} (h : ckC its inn L = 0) (k : Nat) (hk : k < L.length) : en L (k + 1) = 8 * (off L (k + 1) : Int) ∧ en L (k + 1) - (L.getD k Sl.nul).bt = 8 * (off L k : Int) ∧ off L k ≤ off L (k + 1) ∧ off L (k + 1) ≤ 8 := by
  obtain ⟨h1, _, _⟩ := en_off h k (by omega)
  obtain ⟨h2, h8, h3⟩ := en_off h (k + 1) hk
  obtain ⟨h4, h5⟩ := h3 k rfl
  exact ⟨h2, by omega, h5, h8⟩
theorem off_mono {its : List Im} {inn : Bool} {L : List Sl} (h : ckC its inn L = 0) : ∀ d k, k + d ≤ L.length → off L k ≤ off L (k + d)
  | 0, k, _ => Nat.le_refl _
  | d + 1, k, hk => Nat.le_trans (off_mono h d k (by omega)) ((off_ask h (k + d) (by omega)).2.2.1)
end Go.Proofs.Ythalhidebkhclaa
