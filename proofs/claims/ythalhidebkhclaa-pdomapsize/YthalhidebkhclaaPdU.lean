/- What is told of one dictionary, and written to another one of the same entries: plain facts. -/
import Derived.Test.YthalhidebkhclaaPdT
import Derived.Test.YthalhidebkhclaaQ0
import Derived.Test.YthalhidebkhclaaP6
namespace Go.Proofs.Ythalhidebkhclaa
open Go.RowKit Go.Shelf Go.Proofs.Ty
set_option linter.unusedVariables false
set_option maxRecDepth 1000000
set_option linter.unusedSimpArgs false
section
variable {X Y its : List Im} {inn : Bool} {L : List Sl}
theorem noc_e (h : X.map Im.e = Y.map Im.e) (ix : Nat) : noc X ix = noc Y ix := by
  unfold noc
  have e : ∀ Z : List Im, Z.any (fun i => i.e.ix == ix) = (Z.map Im.e).any (fun e => e.ix == ix) := fun Z => by rw [List.any_map]; rfl
  rw [e X, e Y, h]
theorem wc_e (h : X.map Im.e = Y.map Im.e) (ix sb : Nat) (l : List UInt8) : wc X ix sb l = wc Y ix sb l := by
  have hf := fnd_e h ix sb
  unfold wc
  cases hx : fnd X ix sb with
  | none =>
    rw [hx] at hf
    cases hy : fnd Y ix sb with
    | none => exact noc_e h ix
    | some y => rw [hy] at hf; cases hf
  | some x =>
    rw [hx] at hf
    cases hy : fnd Y ix sb with
    | none => rw [hy] at hf; cases hf
    | some y =>
      rw [hy] at hf
      simp at hf
      show wcode x l = wcode y l
      unfold wcode
      rw [hf]
theorem ref_e (h : X.map Im.e = Y.map Im.e) (s : Sl) : refC X s inn = refC Y s inn := by
  have hf := fnd_e h s.ix s.sb
  unfold refC
  cases hx : fnd X s.ix s.sb with
  | none =>
    rw [hx] at hf
    cases hy : fnd Y s.ix s.sb with
    | none => exact wc_e h _ _ _
    | some y => rw [hy] at hf; cases hf
  | some x =>
    rw [hx] at hf
    cases hy : fnd Y s.ix s.sb with
    | none => rw [hy] at hf; cases hf
    | some y =>
      rw [hy] at hf
      simp at hf
      simp only [hf]
theorem ck_e (h : X.map Im.e = Y.map Im.e) : ckC X inn L = ckC Y inn L := by
  unfold ckC
  have : ck1 X inn L = ck1 Y inn L := by
    funext k
    unfold ck1
    rw [ref_e h]
  rw [this]
theorem wrt_e (ix sb : Nat) (l : List UInt8) : (wrt its ix sb l).map Im.e = its.map Im.e := by
  unfold wrt
  split
  · split
    · rfl
    · exact setV_e _ _ _
  · rfl
theorem wrN_e (L : List Sl) (l : List UInt8) : ∀ k, (wrN its L l k).map Im.e = its.map Im.e
  | 0 => rfl
  | k + 1 => (wrt_e _ _ _).trans (wrN_e L l k)
theorem ok_wrN (hd : (its.map Im.b).Nodup) (h : ∀ i ∈ its, Ok i) (L : List Sl) (l : List UInt8) : ∀ k, ∀ i ∈ wrN its L l k, Ok i
  | 0 => h
  | k + 1 => ok_wrt (by rw [wrN_b]; exact hd) (ok_wrN hd h L l k) _ _ _
theorem gd_wrN (hd : (its.map Im.b).Nodup) (h : ∀ i ∈ its, Gd i) (L : List Sl) (l : List UInt8) : ∀ k, ∀ i ∈ wrN its L l k, Gd i
  | 0 => h
  | k + 1 => gd_wrt (by rw [wrN_b]; exact hd) (gd_wrN hd h L l k) _ _ _
/-- The piece of slot k. -/
theorem pc_cat (hv : Vn its) (h : ckC its inn L = 0) (k : Nat) (hk : k < L.length) : pcL L (catK its L L.length) k = encL its L k := by
  have e1 := catK_len hv h k (by omega)
  have e2 := encL_len hv h k hk
  have e3 := cat_drop (its := its) L (k + 1) (L.length - (k + 1))
  rw [show k + 1 + (L.length - (k + 1)) = L.length by omega] at e3
  unfold pcL
  rw [e3]
  show ((catK its L k ++ encL its L k ++ _).drop _).take _ = _
  rw [← e2, List.append_assoc, ← e1, List.drop_left, List.take_left' rfl]
theorem bey_gd {i : Im} (h : Gd i) : bey i.e i.v = 0 := by
  unfold bey
  by_cases hl : i.e.li = false
  · rw [if_pos hl]
  · rw [if_neg hl]
    have hl2 : i.e.li = true := by simpa using hl
    obtain ⟨h1, h2⟩ := h.val hl2
    unfold wiC at h2
    rw [if_neg (by rw [h1]; simp)] at h2
    exact h2
theorem wc_back (he : X.map Im.e = Y.map Im.e) (hok : ∀ i ∈ X, Ok i) (hgd : ∀ i ∈ X, Gd i) (hT : ckC Y true L = 0) (k : Nat) (hk : k < L.length) :
    ∃ i y, fnd X (L.getD k Sl.nul).ix (L.getD k Sl.nul).sb = some i ∧ fnd Y (L.getD k Sl.nul).ix (L.getD k Sl.nul).sb = some y ∧ i.e = y.e ∧ encL X L k = i.v.enc ∧ decW y.e.df.t i.v.enc = i.v ∧ wc Y (L.getD k Sl.nul).ix (L.getD k Sl.nul).sb (encL X L k) = 0 := by
  obtain ⟨y, hy, hmp, hbt, hop⟩ := ref_zero (ck_all hT k hk).1
  have hf := fnd_e he (L.getD k Sl.nul).ix (L.getD k Sl.nul).sb
  rw [hy] at hf
  cases hx : fnd X (L.getD k Sl.nul).ix (L.getD k Sl.nul).sb with
  | none => rw [hx] at hf; cases hf
  | some i =>
    rw [hx] at hf
    simp at hf
    have hi := fnd_mem hx
    have he2 : encL X L k = i.v.enc := by unfold encL getV; rw [hx]
    have hv := (hok i hi).val
    refine ⟨i, y, rfl, hy, hf, he2, by rw [← hf]; exact hv.2, ?_⟩
    unfold wc
    rw [hy, he2]
    show wcode y i.v.enc = 0
    unfold wcode
    rw [← hf] at hop ⊢
    have ha : ¬ (i.e.ac ≠ 1 ∧ i.e.ac ≠ 2) := by
      unfold opn at hop
      rw [if_pos rfl] at hop
      simp at hop
      omega
    rw [if_neg ha, if_pos hv.1, hv.2]
    exact bey_gd (hgd i hi)
theorem back_step (he : X.map Im.e = Y.map Im.e) (hok : ∀ i ∈ X, Ok i) (hgd : ∀ i ∈ X, Gd i) (hvn : Vn X) (hd : (Y.map Im.b).Nodup) (hT : ckC Y true L = 0) : ∀ k, k ≤ L.length →
    ∀ j, j < k → getV (wrN Y L (catK X L L.length) k) (L.getD j Sl.nul).ix (L.getD j Sl.nul).sb = getV X (L.getD j Sl.nul).ix (L.getD j Sl.nul).sb
  | 0, _, j, hj => by omega
  | k + 1, hk, j, hj => by
    have hTX : ckC X true L = 0 := by rw [ck_e he]; exact hT
    have hpc := pc_cat hvn hTX k hk
    have heY := wrN_e (its := Y) L (catK X L L.length) k
    have hbY := wrN_b Y L (catK X L L.length) k
    have hTk : ckC (wrN Y L (catK X L L.length) k) true L = 0 := by rw [ck_e heY]; exact hT
    obtain ⟨i, y, hi, hy, hie, henc, hdw, hwc⟩ := wc_back (he.trans heY.symm) hok hgd hTk k hk
    have ih := back_step he hok hgd hvn hd hT k (by omega)
    have hw : wrN Y L (catK X L L.length) (k + 1) = setV (wrN Y L (catK X L L.length) k) y.b i.v := by
      show wrt (wrN Y L (catK X L L.length) k) _ _ (pcL L (catK X L L.length) k) = _
      rw [hpc]
      unfold wrt
      rw [if_pos hwc, hy]
      show setV _ y.b (decW y.e.df.t (encL X L k)) = _
      rw [henc, hdw]
    rw [hw]
    generalize wrN Y L (catK X L L.length) k = Yk at *
    have hdk : (Yk.map Im.b).Nodup := by rw [hbY]; exact hd
    by_cases hjk : j = k
    · subst hjk
      unfold getV
      rw [fnd_setV, hy, hi]
      simp
    · have ihj := ih j (by omega)
      cases hz : fnd Yk (L.getD j Sl.nul).ix (L.getD j Sl.nul).sb with
      | none =>
        unfold getV at ihj ⊢
        rw [fnd_setV, hz]
        rw [hz] at ihj
        simpa using ihj
      | some z =>
        unfold getV at ihj ⊢
        rw [fnd_setV, hz]
        rw [hz] at ihj
        by_cases hb : z.b = y.b
        · have hzy := mem_b hdk (fnd_mem hz) (fnd_mem hy) hb
          subst hzy
          obtain ⟨p1, p2⟩ := fnd_place hz
          obtain ⟨p3, p4⟩ := fnd_place hy
          rw [← p1, ← p2, p3, p4, hi]
          simp
        · simp only [Option.map_some, if_neg hb]
          exact ihj
theorem back_all (he : X.map Im.e = Y.map Im.e) (hok : ∀ i ∈ X, Ok i) (hgd : ∀ i ∈ X, Gd i) (hvn : Vn X) (hd : (Y.map Im.b).Nodup) (hT : ckC Y true L = 0) :
    (∀ k, k < L.length → wc Y (L.getD k Sl.nul).ix (L.getD k Sl.nul).sb (pcL L (catK X L L.length) k) = 0) ∧ catK (wrN Y L (catK X L L.length) L.length) L L.length = catK X L L.length := by
  have hTX : ckC X true L = 0 := by rw [ck_e he]; exact hT
  refine ⟨fun k hk => ?_, ?_⟩
  · rw [pc_cat hvn hTX k hk]
    obtain ⟨_, _, _, _, _, _, _, h⟩ := wc_back he hok hgd hT k hk
    exact h
  · have hs := back_step he hok hgd hvn hd hT L.length (Nat.le_refl _)
    generalize wrN Y L (catK X L L.length) L.length = Z at *
    have : ∀ k, k ≤ L.length → catK Z L k = catK X L k := by
      intro k
      induction k with
      | zero => intro _; rfl
      | succ k ih =>
        intro hk
        show catK Z L k ++ encL Z L k = catK X L k ++ encL X L k
        rw [ih (by omega)]
        unfold encL
        rw [hs k (by omega)]
    exact this _ (Nat.le_refl _)
end
end Go.Proofs.Ythalhidebkhclaa
