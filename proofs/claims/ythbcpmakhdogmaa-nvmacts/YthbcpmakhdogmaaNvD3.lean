/- Contracts: the document's Kept, Erase, Save. -/
import Derived.Test.YthbcpmakhdogmaaNvD2
namespace Go.Proofs.Ythbcpmakhdogmaa
open Go.RowKit Go.Shelf Go.Proofs.Ty Go.Proofs.Nv Go.Proofs.Bits
set_option linter.unusedVariables false
set_option maxRecDepth 1000000
set_option linter.unusedSimpArgs false
section
variable {C P : Nat} {c : Ch} {w : World}
set_option maxHeartbeats 4000000 in
theorem ZKept_any (h : Dm C P c w) : Calls Try.prog 32 #[.pointer (some ⟨C, 0, none⟩)] w fun e w' => ∃ v, e = .returned (.tuple #[v, .int .i64 c.kept.1, .int .i64 c.latest]) ∧ Bytes w' v c.kept.2 ∧ Below w.heap.size w w' := by
  have h0 := ZHolds_any h 0 0 (by omega) (by omega)
  have H1 : Hid (∀ x, Below w.heap.size w x → _) := fun x (hx : Below w.heap.size w x) => ZHolds_any (h.below hx) 1 c.many (Nat.le_refl _) (by omega)
  have l0 : (c.holds 0).1 < 65536 := hs_fst _ _
  have l1 : (c.holds c.many).1 < 65536 := hs_fst _ _
  have HK : Hid (c.kept = if c.latest = 1 then c.holds c.many else c.holds 0) := rfl
  have HL : Hid (c.latest = if (c.holds 0).1 = 0 ∨ (c.holds c.many).1 = nxt (c.holds 0).1 then 1 else 0) := rfl
  have hn := r9Next_any (c.holds 0).1 l0
  have hnp := nxt_pos (c.holds 0).1
  generalize c.holds 0 = R0 at *
  generalize c.holds c.many = R1 at *
  generalize c.kept = K at *
  generalize c.latest = L at *
  obtain ⟨k0, b0⟩ := R0
  obtain ⟨k1, b1⟩ := R1
  simp only at h0 H1 l0 l1 HK HL hn hnp
  generalize nxt k0 = nk at *
  have arms0 : True := trivial
  by_cases hk0 : k0 = 0
  · have hl : L = 1 := by rw [HL.out, if_pos (.inl hk0)]
    have HK1 : Hid (K = (k1, b1)) := by show K = _; rw [HK.out, if_pos hl]
    subst hk0
    subst hl
    go_enter Try.func32, Try.ntmps32
    go_wp2_with (first | (go_at_call 43; refine h0.mono ?_; clear h0; rintro e w1 ⟨v1, rfl, hv1, hb1⟩; have h1 := H1.out w1 hb1; clear H1) | (go_at_call 43; refine h1.mono ?_; clear h1; rintro e w2 ⟨v2, rfl, hv2, hb2⟩; have HV1 := hidOf (hv1.below hb2); have HV2 := hidOf hv2; have HB2 := hidOf (hb1.trans (hb2.mono hb1.size)); clear hv1 hv2 hb1 hb2) | (go_at_call 41; refine (hn _).mono ?_; rintro e x1 ⟨rfl, hx1⟩; rw [hx1]; clear hx1 x1))
    exact bodyPost_ret (v := .tuple #[v2, .int .i64 (k1 : Int), .int .i64 1]) (by simp [results, Try.results32]) rfl ⟨_, by rw [HK1.out]; rfl, by rw [HK1.out]; exact HV2.out, HB2.out⟩
  · have d0 : decide ((0 : Int) < (k0 : Int)) = true := by simp; omega
    by_cases hk1 : k1 = nk
    · have hl : L = 1 := by rw [HL.out, if_pos (.inr hk1)]
      have HK1 : Hid (K = (k1, b1)) := by show K = _; rw [HK.out, if_pos hl]
      subst hl
      have d1 : ((k1 : Int) == 0) = false := by simp; omega
      subst hk1
      go_enter Try.func32, Try.ntmps32
      go_wp2_with (first | (go_at_call 43; refine h0.mono ?_; clear h0; rintro e w1 ⟨v1, rfl, hv1, hb1⟩; have h1 := H1.out w1 hb1; clear H1) | (go_at_call 43; refine h1.mono ?_; clear h1; rintro e w2 ⟨v2, rfl, hv2, hb2⟩; have HV1 := hidOf (hv1.below hb2); have HV2 := hidOf hv2; have HB2 := hidOf (hb1.trans (hb2.mono hb1.size)); clear hv1 hv2 hb1 hb2) | (go_at_call 41; refine (hn _).mono ?_; rintro e x1 ⟨rfl, hx1⟩; rw [hx1]; clear hx1 x1))
      exact bodyPost_ret (v := .tuple #[v2, .int .i64 (k1 : Int), .int .i64 1]) (by simp [results, Try.results32]) rfl ⟨_, by rw [HK1.out]; rfl, by rw [HK1.out]; exact HV2.out, HB2.out⟩
    · have hl : L = 0 := by rw [HL.out, if_neg (by omega)]
      have HK1 : Hid (K = (k0, b0)) := by show K = _; rw [HK.out, if_neg (by omega)]
      subst hl
      have d3 : ((k1 : Int) != (nk : Int)) = true := by simp; omega
      by_cases hz : k1 = 0
      · subst hz
        go_enter Try.func32, Try.ntmps32
        go_wp2_with (first | (go_at_call 43; refine h0.mono ?_; clear h0; rintro e w1 ⟨v1, rfl, hv1, hb1⟩; have h1 := H1.out w1 hb1; clear H1) | (go_at_call 43; refine h1.mono ?_; clear h1; rintro e w2 ⟨v2, rfl, hv2, hb2⟩; have HV1 := hidOf (hv1.below hb2); have HV2 := hidOf hv2; have HB2 := hidOf (hb1.trans (hb2.mono hb1.size)); clear hv1 hv2 hb1 hb2) | (go_at_call 41; refine (hn _).mono ?_; rintro e x1 ⟨rfl, hx1⟩; rw [hx1]; clear hx1 x1))
        exact bodyPost_ret (v := .tuple #[v1, .int .i64 (k0 : Int), .int .i64 0]) (by simp [results, Try.results32]) rfl ⟨_, by rw [HK1.out]; rfl, by rw [HK1.out]; exact HV1.out, HB2.out⟩
      · have d1 : ((k1 : Int) == 0) = false := by simp; omega
        go_enter Try.func32, Try.ntmps32
        go_wp2_with (first | (go_at_call 43; refine h0.mono ?_; clear h0; rintro e w1 ⟨v1, rfl, hv1, hb1⟩; have h1 := H1.out w1 hb1; clear H1) | (go_at_call 43; refine h1.mono ?_; clear h1; rintro e w2 ⟨v2, rfl, hv2, hb2⟩; have HV1 := hidOf (hv1.below hb2); have HV2 := hidOf hv2; have HB2 := hidOf (hb1.trans (hb2.mono hb1.size)); clear hv1 hv2 hb1 hb2) | (go_at_call 41; refine (hn _).mono ?_; rintro e x1 ⟨rfl, hx1⟩; rw [hx1]; clear hx1 x1))
        exact bodyPost_ret (v := .tuple #[v1, .int .i64 (k0 : Int), .int .i64 0]) (by simp [results, Try.results32]) rfl ⟨_, by rw [HK1.out]; rfl, by rw [HK1.out]; exact HV1.out, HB2.out⟩
set_option maxHeartbeats 2000000 in
theorem ZErase_any (h : Dm C P c w) : Calls Try.prog 33 #[.pointer (some ⟨C, 0, none⟩)] w fun e w' => e = .returned (.int .i64 c.erase.2) ∧ Dm C P c.erase.1 w' ∧ Two C P w w' := by
  have hz : pgV zero8 = .agg #[.int .u8 0, .int .u8 0, .int .u8 0, .int .u8 0, .int .u8 0, .int .u8 0, .int .u8 0, .int .u8 0] := rfl
  have hw0 := ZWrite_any h 0 zero8 zero8_len
  have HM : Hid ((c.wr 0 zero8).1.many = c.many) := by show _ = _; unfold Ch.many; rw [Ch.wr_n]
  have HN : Hid ((c.wr 0 zero8).1.n = c.n) := Ch.wr_n _ _ _
  have HE : Hid (c.erase = if c.dead then (c, 6) else if (c.wr 0 zero8).2 = false then ((c.wr 0 zero8).1, 6) else (((c.wr 0 zero8).1.wr c.many zero8).1, if ((c.wr 0 zero8).1.wr c.many zero8).2 then 0 else 6)) := rfl
  have HD : Hid (c.dead = true → c.wr 0 zero8 = (c, false)) := fun hd => wr_no (.inr hd)
  obtain ⟨⟨d, o⟩, hdo⟩ : ∃ x, c.wr 0 zero8 = x := ⟨_, rfl⟩
  rw [hdo] at hw0 HE HM HN HD
  simp only at hw0 HE HM HN
  obtain ⟨⟨d2, o2⟩, hdo2⟩ : ∃ x, d.wr c.many zero8 = x := ⟨_, rfl⟩
  rw [hdo2] at HE
  simp only at HE
  rw [hz] at hw0
  have HP : Hid (∀ x, Dm C P d x → x.cell? ⟨C, 0, none⟩ = some (.slice (some ⟨P, 0, none⟩) c.n c.n) ∧ Calls Try.prog 29 #[.pointer (some ⟨C, 0, none⟩), .int .i64 c.many, .agg #[.int .u8 0, .int .u8 0, .int .u8 0, .int .u8 0, .int .u8 0, .int .u8 0, .int .u8 0, .int .u8 0]] x fun e w' => e = .returned (.bool o2) ∧ Dm C P d2 w' ∧ Two C P x w') := fun x hx => by
    have h2 := ZWrite_any hx c.many zero8 zero8_len
    rw [hdo2, hz] at h2
    have h3 := hx.c0
    rw [HN.out] at h3
    exact ⟨h3, h2⟩
  have hmd : ((c.n : Int) / 2) = (c.many : Int) := by unfold Ch.many; omega
  have hm16 : c.many ≤ 16384 := by have := h.ok.hi; unfold Ch.many; omega
  have hn15 : c.n ≤ 32768 := h.ok.hi
  generalize c.erase = E at *
  generalize c.many = mn at *
  generalize c.n = cn at *
  clear hdo hdo2 hz HM HN h
  cases o with
  | false =>
    have HE1 : Hid (E = (d, 6)) := by
      show E = _
      rw [HE.out]
      split
      · rename_i hd
        have := HD.out hd
        injection this with e1 _
        rw [e1]
      · rfl
    go_enter Try.func33, Try.ntmps33
    go_wp2_with (first | (go_at_call 29; refine hw0.mono ?_; clear hw0; rintro e w2 ⟨rfl, h2, t2⟩; have HC2 := hidOf h2; have HT2 := hidOf t2; clear h2 t2))
    go_ret
    exact ⟨ret_int (by rw [HE1.out]; rfl), by rw [HE1.out]; exact HC2.out, HT2.out⟩
  | true =>
    have HE1 : Hid (E = (d2, if o2 then 0 else 6)) := by
      show E = _
      rw [HE.out]
      split
      · rename_i hd
        have := HD.out hd
        injection this with _ e2
        cases e2
      · rfl
    clear HE
    cases o2
    all_goals
      go_enter Try.func33, Try.ntmps33
      go_wp2_with (first | (go_at_call 29; refine hw0.mono ?_; clear hw0; rintro e w2 ⟨rfl, h2, t2⟩; have HT2 := hidOf t2; obtain ⟨c0, hw1⟩ := HP.out w2 h2; clear h2 t2) | (go_at_call 29; refine hw1.mono ?_; clear hw1; rintro e w3 ⟨rfl, h3, t3⟩; have HC3 := hidOf h3; have HT3 := hidOf t3; clear h3 t3))
      go_ret
      exact ⟨ret_int (by rw [HE1.out]; rfl), by rw [HE1.out]; exact HC3.out, HT2.out.trans HT3.out⟩
end
end Go.Proofs.Ythbcpmakhdogmaa
