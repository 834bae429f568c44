/- Entries at first fit; mappings cut in two: plain facts. -/
import Derived.Test.YthalhidebkhclaaPdS
import Derived.Test.YthalhidebkhclaaP4
import Derived.Test.YthalhidebkhclaaTyEd
namespace Go.Proofs.Ythalhidebkhclaa
open Go.RowKit Go.Shelf Go.Proofs.Ty
set_option linter.unusedVariables false
set_option maxRecDepth 1000000
set_option linter.unusedSimpArgs false
theorem can_plain {e : En} (h : e.can = 0) : e.plain.can = 0 := by
  have h0 := h
  obtain ⟨h1, h2⟩ := can_zero h
  have hc : e.plain.df.chk = 0 := by show e.df.plain.chk = 0; rw [chk_plain]; exact h1
  unfold En.can at h0 ⊢
  rw [if_neg (by simpa using h1)] at h0
  rw [if_neg (by simpa using hc)]
  split at h0
  · cases h0
  · rename_i ha
    rw [if_neg (show ¬ (e.plain.ac < 0 ∨ 3 < e.plain.ac) from ha)]
    split at h0
    · cases h0
    · rename_i hl
      split at h0
      · cases h0
      · rename_i hm
        have k1 : ¬ (e.plain.li = true ∧ ¬ (0 < siz e.plain.df.t ∧ e.plain.btw = true)) := fun hx => by
          have hl2 : e.li = true := hx.1
          obtain ⟨hz, hb⟩ := h2 hl2
          refine hx.2 ⟨?_, ?_⟩
          · show 0 < siz e.df.plain.t
            rw [(num_plain hz).1]; exact hz
          · unfold En.btw at hb ⊢
            show (decide (ordE e.df.plain e.mn = 0) && (decide (ordE e.df.plain e.mx = 0) && (decide (0 ≤ ordN e.df.plain e.mn) && decide (ordN e.df.plain e.mx ≤ 0)))) = true
            rw [num_ordE hz, num_ordE hz, num_ordN hz, num_ordN hz]
            exact hb
        have k2 : ¬ (e.plain.mp = true ∧ ¬ 0 < siz e.plain.df.t) := fun hx => by
          have hz : 0 < siz e.df.t := Decidable.not_not.1 (fun h4 => hm ⟨hx.1, h4⟩)
          refine hx.2 ?_
          show 0 < siz e.df.plain.t
          rw [(num_plain hz).1]; exact hz
        rw [if_neg k1, if_neg k2]
theorem fit_bg {w x : World} {X D R E : Nat} {its : List Im} {l : List En} {vL vV : Value} (h : Bg w X D R E its l vL vV x) (hc : chkL l = 0) : ∀ i ∈ its, Fit i := by
  intro i hi
  have hp : i.e ∈ l.map En.plain := h.perm.mem_iff.1 (List.mem_map.2 ⟨i, hi, rfl⟩)
  obtain ⟨e, he, hie⟩ := List.mem_map.1 hp
  have hcan := chkG_all (chkL_ok hc).2.2 e he
  have hv := h.vals i hi
  have hcp := can_plain hcan
  rw [hie] at hcp
  exact ⟨by rw [hv], by rw [hv]; exact (can_zero hcp).1, hcp⟩
section
variable {its : List Im} {inn : Bool} {L : List Sl}
theorem ck_of (h : ∀ k, k < L.length → refC its (L.getD k Sl.nul) inn = 0 ∧ en L (k + 1) ≤ 64) : ckC its inn L = 0 := by
  refine ckC_none _ _ _ fun k hk => ?_
  obtain ⟨h1, h2⟩ := h k (by simpa using hk)
  unfold ck1
  rw [if_neg (by simpa using h1), if_neg (by omega)]
theorem en_take (L : List Sl) (k : Nat) : ∀ j, j ≤ k → en (L.take k) j = en L j
  | 0, _ => rfl
  | j + 1, h => by
    have hd : (L.take k).getD j Sl.nul = L.getD j Sl.nul := by
      simp only [List.getD_eq_getElem?_getD]
      rw [List.getElem?_take_of_lt (by omega)]
    show wrap64 _ = wrap64 _
    rw [en_take L k j (by omega), hd]
theorem getD_drop (L : List Sl) (k j : Nat) : (L.drop k).getD j Sl.nul = L.getD (k + j) Sl.nul := by
  simp only [List.getD_eq_getElem?_getD, List.getElem?_drop]
theorem getD_take (L : List Sl) (k j : Nat) (h : j < k) : (L.take k).getD j Sl.nul = L.getD j Sl.nul := by
  simp only [List.getD_eq_getElem?_getD]
  rw [List.getElem?_take_of_lt h]
theorem en_drop (h : ckC its inn L = 0) (k : Nat) (hk : k ≤ L.length) : ∀ j, k + j ≤ L.length → en (L.drop k) j = en L (k + j) - en L k
  | 0, _ => by simp [en]
  | j + 1, hj => by
    have e1 := en_drop h k hk j (by omega)
    have e2 := ((en_off h (k + (j + 1)) hj).2.2 (k + j) (by omega)).1
    have e3 := (en_off h (k + (j + 1)) hj).1
    have e4 := (en_off h (k + (j + 1)) hj).2.1
    have e5 := (en_off h k hk).1
    have e6 := (en_off h k hk).2.1
    have e7 := (en_off h (k + j) (by omega)).1
    have e8 := (en_off h (k + j) (by omega)).2.1
    show wrap64 _ = _
    rw [e1, getD_drop]
    have e9 : en L (k + j) - en L k + (L.getD (k + j) Sl.nul).bt = en L (k + (j + 1)) - en L k := by rw [e2]; omega
    rw [e9]
    simp only [wrap64]
    omega
theorem ck_take (h : ckC its inn L = 0) (k : Nat) : ckC its inn (L.take k) = 0 := by
  refine ck_of fun j hj => ?_
  rw [List.length_take] at hj
  rw [getD_take L k j (by omega), en_take L k (j + 1) (by omega)]
  exact ck_all h j (by omega)
theorem ck_drop (h : ckC its inn L = 0) (k : Nat) (hk : k ≤ L.length) : ckC its inn (L.drop k) = 0 := by
  refine ck_of fun j hj => ?_
  rw [List.length_drop] at hj
  rw [getD_drop, en_drop h k hk (j + 1) (by omega)]
  have h1 := ck_all h (k + j) (by omega)
  have e5 := (en_off h k hk).1
  exact ⟨h1.1, by have := h1.2; rw [show k + (j + 1) = k + j + 1 by omega]; omega⟩
theorem cat_take (L : List Sl) (k : Nat) : ∀ j, j ≤ k → catK its (L.take k) j = catK its L j
  | 0, _ => rfl
  | j + 1, h => by
    show catK its (L.take k) j ++ encL its (L.take k) j = catK its L j ++ encL its L j
    rw [cat_take L k j (by omega)]
    unfold encL
    rw [getD_take L k j (by omega)]
theorem cat_drop (L : List Sl) (k : Nat) : ∀ j, catK its L (k + j) = catK its L k ++ catK its (L.drop k) j
  | 0 => by simp [catK]
  | j + 1 => by
    show catK its L (k + j) ++ encL its L (k + j) = catK its L k ++ (catK its (L.drop k) j ++ encL its (L.drop k) j)
    rw [cat_drop L k j, List.append_assoc]
    unfold encL
    rw [getD_drop]
theorem cat_two (L : List Sl) (k : Nat) (hk : k ≤ L.length) : catK its L L.length = catK its (L.take k) (L.take k).length ++ catK its (L.drop k) (L.drop k).length := by
  have e := cat_drop (its := its) L k (L.length - k)
  rw [show k + (L.length - k) = L.length by omega] at e
  rw [e, List.length_take, List.length_drop, show min k L.length = k by omega, cat_take L k k (Nat.le_refl _)]
end
end Go.Proofs.Ythalhidebkhclaa
