/- Contracts: Save. -/
import Derived.Test.YthbcpmakhdogmaaNvB
namespace Go.Proofs.Ythbcpmakhdogmaa
open Go.RowKit Go.Shelf Go.Proofs.Ty Go.Proofs.Nv Go.Proofs.Bits
set_option linter.unusedVariables false
set_option maxRecDepth 1000000
set_option linter.unusedSimpArgs false
section
variable {C P : Nat} {c : Ch} {w : World}
theorem Save_nil (v : Value) (w : World) : Calls Try.prog 12 #[.pointer none, v] w fun e w' => e = .returned (.int .i64 1) ∧ w' = w := by
  go_enter Try.func12, Try.ntmps12
  go_wp2
  go_ret
  exact ⟨rfl, rfl⟩
theorem Ap.below {v : Value} (h : Ap C P v) : Ap C P v := h
set_option maxHeartbeats 16000000 in
theorem Save_any (h : Cm C P c w) (v : Value) (b : List UInt8) (hb : b.length ≤ 140737488355328) (hB : Bytes w v b) (hap : Ap C P v) (hcp : ∀ ao n k, v = .slice ao n k → n ≤ k) :
    Calls Try.prog 12 #[.pointer (some ⟨C, 0, none⟩), v] w fun e w' => e = .returned (.int .i64 (c.save b).2) ∧ Cm C P (c.save b).1 w' ∧ Two C P w w' := by
  have hroom := Room_any h
  have hdead := Dead_any h
  have hrm : c.room ≤ 131072 := by have := h.ok.hi; unfold Ch.room; omega
  have HS : Hid (c.save b = if c.room < b.length then (c, 2) else if c.dead then (c, 6) else if (c.wr c.into zero8).2 = false then ((c.wr c.into zero8).1, 6) else if ((c.wr c.into zero8).1.wrK (c.into + 1) b (nch b)).2 = false then (((c.wr c.into zero8).1.wrK (c.into + 1) b (nch b)).1, 6) else ((((c.wr c.into zero8).1.wrK (c.into + 1) b (nch b)).1.wr c.into (head (nxt c.kept.1) b)).1, if (((c.wr c.into zero8).1.wrK (c.into + 1) b (nch b)).1.wr c.into (head (nxt c.kept.1) b)).2 then 0 else 6)) := rfl
  have hmany : c.many ≤ 16384 := by have := h.ok.hi; unfold Ch.many; omega
  have hinto : c.into ≤ 16384 := by unfold Ch.into; split <;> omega
  have HIN : Hid (c.into = if lat (c.holds 0).1 (c.holds c.many).1 = 1 then 0 else c.many) := rfl
  have HKE : Hid (c.kept = if lat (c.holds 0).1 (c.holds c.many).1 = 1 then c.holds c.many else c.holds 0) := rfl
  have hkl := c.kept_lt
  have hh := halvesOf_any h
  have l0 : (c.holds 0).1 < 65536 := hs_fst _ _
  have l1 : (c.holds c.many).1 < 65536 := hs_fst _ _
  obtain ⟨⟨d1, o1⟩, hR1⟩ : ∃ x, c.wr c.into zero8 = x := ⟨_, rfl⟩
  rw [hR1] at HS
  simp only at HS
  obtain ⟨⟨d2, o2⟩, hR2⟩ : ∃ x, d1.wrK (c.into + 1) b (nch b) = x := ⟨_, rfl⟩
  rw [hR2] at HS
  simp only at HS
  obtain ⟨⟨d3, o3⟩, hR3⟩ : ∃ x, d2.wr c.into (head (nxt c.kept.1) b) = x := ⟨_, rfl⟩
  rw [hR3] at HS
  simp only at HS
  obtain ⟨ao, cap, rfl⟩ := bytes_shapeN hB
  have HC1 : Hid (∀ x, Cm C P c x → Calls Try.prog 24 #[.pointer (some ⟨C, 0, none⟩), .int .i64 c.into] x fun e w' => e = .returned (.bool o1) ∧ Cm C P d1 w' ∧ Two C P x w') := fun x hx => by
    have := clearHead_any hx c.into
    rw [hR1] at this
    exact this
  have HC2 : Hid (b.length ≤ 1000000 → ∀ x, Cm C P d1 x → Bytes x (.slice ao b.length cap) b → Calls Try.prog 25 #[.pointer (some ⟨C, 0, none⟩), .int .i64 ((c.into : Int) + 1), .slice ao b.length cap] x fun e w' => e = .returned (.bool o2) ∧ Cm C P d2 w' ∧ Two C P x w') := fun hl x hx hbx => by
    have := writeBytes_any hx (c.into + 1) (by omega) _ b hl hbx hap hcp
    rw [hR2] at this
    exact this
  have HC3 : Hid (∀ x, Cm C P d2 x → Calls Try.prog 26 #[.pointer (some ⟨C, 0, none⟩), .int .i64 c.into, pgV (head (nxt c.kept.1) b)] x fun e w' => e = .returned (.bool o3) ∧ Cm C P d3 w' ∧ Two C P x w') := fun x hx => by
    have := Write_any hx (c.into : Int) (head (nxt c.kept.1) b) (head_len _ _)
    rw [hR3] at this
    exact this
  have HH : Hid (b.length ≤ 1000000 → ∀ x, Bytes x (.slice ao b.length cap) b → Calls Try.prog 27 #[.int .u16 (nxt c.kept.1), .slice ao b.length cap] x fun e w' => e = .returned (pgV (head (nxt c.kept.1) b)) ∧ Below x.heap.size x w') := fun hl x hbx => headOf_any _ (nxt_lt hkl) _ b x hl hbx
  have hnx := next_any c.kept.1 hkl
  have HBW : Hid (∀ x, Below w.heap.size w x → Bytes x (.slice ao b.length cap) b) := fun x hx => hB.below hx
  have HBT : Hid (∀ x y, Bytes x (.slice ao b.length cap) b → Two C P x y → Bytes y (.slice ao b.length cap) b) := fun x y hx t => hx.two hap t
  have HCM := hidOf h
  have hClt := h.lt
  have hPlt := h.ltP
  clear hR1 hR2 hR3 hB hap hcp h
  generalize head (nxt c.kept.1) b = hd at *
  generalize nxt c.kept.1 = nk at *
  have HPG : Hid (∀ l, pgV l = .agg (byC l).toArray) := fun _ => rfl
  generalize c.save b = SV at *
  by_cases hlong : c.room < b.length
  · have HS1 : Hid (SV = (c, 2)) := by show SV = _; rw [HS.out, if_pos hlong]
    obtain ⟨nb, hnb⟩ : ∃ n, b.length = n := ⟨_, rfl⟩
    rw [hnb] at hb hlong
    have hd1 : decide ((c.room : Int) < (nb : Int)) = true := by simp; omega
    simp only [hnb]
    clear hnb
    go_enter Try.func12, Try.ntmps12
    go_wp2_with (go_at_call 11; refine hroom.mono ?_; rintro e x1 ⟨rfl, hx1⟩; rw [hx1]; clear hx1 x1)
    go_ret
    exact ⟨ret_int (by rw [HS1.out]; rfl), by rw [HS1.out]; exact HCM.out, Two.refl _ _ _⟩
  · have hbl : b.length ≤ 1000000 := by omega
    have HCC2 := hidOf (HC2.out hbl)
    have HHH := hidOf (HH.out hbl)
    clear HC2 HH
    have HSS : Hid (SV = if c.dead then (c, 6) else if o1 = false then (d1, 6) else if o2 = false then (d2, 6) else (d3, if o3 then 0 else 6)) := by show SV = _; rw [HS.out, if_neg hlong]
    clear HS
    obtain ⟨nb, hnb⟩ : ∃ n, b.length = n := ⟨_, rfl⟩
    have HNB := hidOf hnb
    rw [hnb] at hb hlong hbl HCC2 HHH HBW HBT ⊢
    have hd1 : decide ((c.room : Int) < (nb : Int)) = false := by simp; omega
    clear hnb
    cases hdd : c.dead with
    | true =>
      rw [hdd] at hdead HSS
      have HS1 : Hid (SV = (c, 6)) := HSS.out
      go_enter Try.func12, Try.ntmps12
      go_wp2_with (first | (go_at_call 11; refine hroom.mono ?_; rintro e x1 ⟨rfl, hx1⟩; rw [hx1]; clear hx1 x1) | (go_at_call 18; refine hdead.mono ?_; rintro e x1 ⟨rfl, hx1⟩; rw [hx1]; clear hx1 x1))
      go_ret
      exact ⟨ret_int (by rw [HS1.out]; rfl), by rw [HS1.out]; exact HCM.out, Two.refl _ _ _⟩
    | false =>
      rw [hdd] at hdead HSS
      have HS1 : Hid (SV = if o1 = false then (d1, 6) else if o2 = false then (d2, 6) else (d3, if o3 then 0 else 6)) := HSS.out
      clear HSS
      obtain ⟨k0, hk0⟩ : ∃ x, (c.holds 0).1 = x := ⟨_, rfl⟩
      obtain ⟨k1, hk1⟩ : ∃ x, (c.holds c.many).1 = x := ⟨_, rfl⟩
      rw [hk0] at hh l0 HIN HKE
      rw [hk1] at hh l1 HIN HKE
      have hlat : lat k0 k1 = 0 ∨ lat k0 k1 = 1 := by unfold lat; split <;> simp
      have HW : Hid (∀ (x : World) (v u : Value), Below w.heap.size w x → v.oneCell' = true → u.oneCell' = true → ∃ y q, x.alloc (.cells #[.int .i64 0, .int .u16 0, .slice none 0 0, .int .i64 0, .int .u16 0, .slice none 0 0] 57) = y ∧ x.heap.size = q ∧ y.heap[q]? = some (.cells #[.int .i64 0, .int .u16 0, .slice none 0 0, .int .i64 0, .int .u16 0, .slice none 0 0] 57 (0, 0)) ∧ ∃ z, y.setRow q (hvA 0 k0 v c.many k1 u) = z ∧ z.heap[q]? = some (.cells (hvA 0 k0 v c.many k1 u) 57 (0, 0)) ∧ Hid (Below w.heap.size w z) ∧ C ≠ q ∧ P ≠ q ∧ Calls Try.prog 21 #[.agg (hvA 0 k0 v c.many k1 u)] z (fun e w' => e = .returned (.int .i64 (lat k0 k1)) ∧ Below z.heap.size z w')) := by
        intro x v u hx hv hu
        have hq := heap_alloc_new x (.cells #[.int .i64 0, .int .u16 0, .slice none 0 0, .int .i64 0, .int .u16 0, .slice none 0 0] 57 (0, 0))
        have b1 := hx.alloc hx.size (.cells #[.int .i64 0, .int .u16 0, .slice none 0 0, .int .i64 0, .int .u16 0, .slice none 0 0] 57)
        have hsz := hx.size
        exact ⟨_, _, rfl, rfl, hq, _, rfl, Go.Proofs.Ythbcpmakhdogmaa.setRow_heap _ _ _ _ _ _ hq, below_row b1 hx.size b1.size _, by omega, by omega, latest_any 0 k0 c.many k1 v u _ l0 l1⟩
      have HWN := written_any
      rcases hlat with hl | hl
      · have HIN1 : Hid (c.into = c.many) := by show _ = _; rw [HIN.out, if_neg (by omega)]
        have HKE1 : Hid (c.kept.1 = k0) := by show _ = _; rw [HKE.out, if_neg (by omega), hk0]
        rw [hl] at HW
        rw [HIN1.out] at HC1 HCC2 HC3
        rw [HKE1.out] at hnx
        clear HIN HKE hl HIN1 HKE1 hk0 hk1 hkl hinto
        have HQK : Hid (∀ (x : World) (q : Nat) (v u : Value), x.heap[q]? = some (.cells (hvA 0 k0 v c.many k1 u) 57 (0, 0)) → x.cell? ⟨q, 3, none⟩ = some (.int .i64 (c.many : Nat)) ∧ x.cell? ⟨q, 1, none⟩ = some (.int .u16 k0)) := fun x q v u hx => ⟨Lib.cell_of_heap hx 3, Lib.cell_of_heap hx 1⟩
        cases o1 with
        | false =>
          have HS2 : Hid (SV = (d1, 6)) := HS1.out
          go_enter Try.func12, Try.ntmps12
          go_wp2_with (first | (go_at_call 11; refine hroom.mono ?_; rintro e x1 ⟨rfl, hx1⟩; rw [hx1]; clear hx1 x1) | (go_at_call 18; refine hdead.mono ?_; rintro e x1 ⟨rfl, hx1⟩; rw [hx1]; clear hx1 x1) | (go_at_call 20; refine hh.mono ?_; clear hh; rintro e w1 ⟨v, u, rfl, hv, hu, hb1, _, _⟩; have hov := oneSlice hv; have hou := oneSlice hu; obtain ⟨y1, q1, hy1, hq1s, hq1, z1, hz1, hqz1, HBz1, hCq, hPq, hlt⟩ := HW.out w1 v u hb1 hov hou; clear HW hb1 hv hu) | (refine wpList_store_row rfl 57 _ _ rfl q1 (hvA 0 k0 v c.many k1 u) rfl rfl 57 _ hq1 infoHv rfl (hvA_one _ _ _ _ _ _ hov hou) ?_; rw [hz1]; clear hz1 hy1 hq1) | (refine wpList_load_row rfl 57 _ rfl q1 rfl 57 (hvA 0 k0 v c.many k1 u) (0, 0) _ hqz1 Try.underlying57 rfl infoHv ?_) | (go_at_call 21; refine hlt.mono ?_; clear hlt; rintro e w2 ⟨rfl, hb2⟩; have hq2 := (hb2.block q1 (Array.getElem?_eq_some_iff.1 hqz1).1).trans hqz1; have HB2 := hidOf (HBz1.out.trans (hb2.mono HBz1.out.size)); have hc1 := HC1.out w2 (HCM.out.below HB2.out); have HY2 := hidOf (HBW.out w2 HB2.out); obtain ⟨cf, ck⟩ := HQK.out w2 q1 v u hq2; clear hb2 HBz1 hqz1) | (go_at_call 24; refine hc1.mono ?_; clear hc1; rintro e w3 ⟨rfl, h3, t3⟩; have HC3x := hidOf h3; have HT3 := hidOf ((Two.of_below HB2.out C P).trans t3); have hq3 := (t3.block q1 (Array.getElem?_eq_some_iff.1 hq2).1 hCq.symm hPq.symm).trans hq2; have HY3 := hidOf (HBT.out w2 w3 HY2.out t3); have hc2 := HCC2.out w3 h3 HY3.out; clear h3 t3 cf ck) | (go_at_call 23; refine (HWN _ _).mono ?_; rintro e x1 ⟨rfl, hx1⟩; rw [hx1]; clear hx1 x1))
          go_ret
          exact ⟨ret_int (by rw [HS2.out]; rfl), by rw [HS2.out]; exact HC3x.out, HT3.out⟩
        | true =>
          cases o2 with
          | false =>
            have HS2 : Hid (SV = (d2, 6)) := HS1.out
            go_enter Try.func12, Try.ntmps12
            go_wp2_with (first | (go_at_call 11; refine hroom.mono ?_; rintro e x1 ⟨rfl, hx1⟩; rw [hx1]; clear hx1 x1) | (go_at_call 18; refine hdead.mono ?_; rintro e x1 ⟨rfl, hx1⟩; rw [hx1]; clear hx1 x1) | (go_at_call 20; refine hh.mono ?_; clear hh; rintro e w1 ⟨v, u, rfl, hv, hu, hb1, _, _⟩; have hov := oneSlice hv; have hou := oneSlice hu; obtain ⟨y1, q1, hy1, hq1s, hq1, z1, hz1, hqz1, HBz1, hCq, hPq, hlt⟩ := HW.out w1 v u hb1 hov hou; clear HW hb1 hv hu) | (refine wpList_store_row rfl 57 _ _ rfl q1 (hvA 0 k0 v c.many k1 u) rfl rfl 57 _ hq1 infoHv rfl (hvA_one _ _ _ _ _ _ hov hou) ?_; rw [hz1]; clear hz1 hy1 hq1) | (refine wpList_load_row rfl 57 _ rfl q1 rfl 57 (hvA 0 k0 v c.many k1 u) (0, 0) _ hqz1 Try.underlying57 rfl infoHv ?_) | (go_at_call 21; refine hlt.mono ?_; clear hlt; rintro e w2 ⟨rfl, hb2⟩; have hq2 := (hb2.block q1 (Array.getElem?_eq_some_iff.1 hqz1).1).trans hqz1; have HB2 := hidOf (HBz1.out.trans (hb2.mono HBz1.out.size)); have hc1 := HC1.out w2 (HCM.out.below HB2.out); have HY2 := hidOf (HBW.out w2 HB2.out); obtain ⟨cf, ck⟩ := HQK.out w2 q1 v u hq2; clear hb2 HBz1 hqz1) | (go_at_call 24; refine hc1.mono ?_; clear hc1; rintro e w3 ⟨rfl, h3, t3⟩; have HC3x := hidOf h3; have HT3 := hidOf ((Two.of_below HB2.out C P).trans t3); have hq3 := (t3.block q1 (Array.getElem?_eq_some_iff.1 hq2).1 hCq.symm hPq.symm).trans hq2; have HY3 := hidOf (HBT.out w2 w3 HY2.out t3); have hc2 := HCC2.out w3 h3 HY3.out; clear h3 t3 cf ck) | (go_at_call 25; refine hc2.mono ?_; clear hc2; rintro e w4 ⟨rfl, h4, t4⟩; have HC4 := hidOf h4; have HT4 := hidOf (HT3.out.trans t4); have hq4 := (t4.block q1 (Array.getElem?_eq_some_iff.1 hq3).1 hCq.symm hPq.symm).trans hq3; have HY4 := hidOf (HBT.out w3 w4 HY3.out t4); have hhd := HHH.out w4 HY4.out; obtain ⟨cf, ck⟩ := HQK.out w4 q1 v u hq4; clear h4 t4 hq3) | (go_at_call 23; refine (HWN _ _).mono ?_; rintro e x1 ⟨rfl, hx1⟩; rw [hx1]; clear hx1 x1))
            go_ret
            exact ⟨ret_int (by rw [HS2.out]; rfl), by rw [HS2.out]; exact HC4.out, HT4.out⟩
          | true =>
            have HS2 : Hid (SV = (d3, if o3 then 0 else 6)) := HS1.out
            clear HS1
            cases o3
            all_goals
              go_enter Try.func12, Try.ntmps12
              go_wp2_with (first | (go_at_call 11; refine hroom.mono ?_; rintro e x1 ⟨rfl, hx1⟩; rw [hx1]; clear hx1 x1) | (go_at_call 18; refine hdead.mono ?_; rintro e x1 ⟨rfl, hx1⟩; rw [hx1]; clear hx1 x1) | (go_at_call 20; refine hh.mono ?_; clear hh; rintro e w1 ⟨v, u, rfl, hv, hu, hb1, _, _⟩; have hov := oneSlice hv; have hou := oneSlice hu; obtain ⟨y1, q1, hy1, hq1s, hq1, z1, hz1, hqz1, HBz1, hCq, hPq, hlt⟩ := HW.out w1 v u hb1 hov hou; clear HW hb1 hv hu) | (refine wpList_store_row rfl 57 _ _ rfl q1 (hvA 0 k0 v c.many k1 u) rfl rfl 57 _ hq1 infoHv rfl (hvA_one _ _ _ _ _ _ hov hou) ?_; rw [hz1]; clear hz1 hy1 hq1) | (refine wpList_load_row rfl 57 _ rfl q1 rfl 57 (hvA 0 k0 v c.many k1 u) (0, 0) _ hqz1 Try.underlying57 rfl infoHv ?_) | (go_at_call 21; refine hlt.mono ?_; clear hlt; rintro e w2 ⟨rfl, hb2⟩; have hq2 := (hb2.block q1 (Array.getElem?_eq_some_iff.1 hqz1).1).trans hqz1; have HB2 := hidOf (HBz1.out.trans (hb2.mono HBz1.out.size)); have hc1 := HC1.out w2 (HCM.out.below HB2.out); have HY2 := hidOf (HBW.out w2 HB2.out); obtain ⟨cf, ck⟩ := HQK.out w2 q1 v u hq2; clear hb2 HBz1 hqz1) | (go_at_call 24; refine hc1.mono ?_; clear hc1; rintro e w3 ⟨rfl, h3, t3⟩; have HC3x := hidOf h3; have HT3 := hidOf ((Two.of_below HB2.out C P).trans t3); have hq3 := (t3.block q1 (Array.getElem?_eq_some_iff.1 hq2).1 hCq.symm hPq.symm).trans hq2; have HY3 := hidOf (HBT.out w2 w3 HY2.out t3); have hc2 := HCC2.out w3 h3 HY3.out; clear h3 t3 cf ck) | (go_at_call 25; refine hc2.mono ?_; clear hc2; rintro e w4 ⟨rfl, h4, t4⟩; have HC4 := hidOf h4; have HT4 := hidOf (HT3.out.trans t4); have hq4 := (t4.block q1 (Array.getElem?_eq_some_iff.1 hq3).1 hCq.symm hPq.symm).trans hq3; have HY4 := hidOf (HBT.out w3 w4 HY3.out t4); have hhd := HHH.out w4 HY4.out; obtain ⟨cf, ck⟩ := HQK.out w4 q1 v u hq4; clear h4 t4 hq3) | (go_at_call 28; refine (hnx _).mono ?_; rintro e x1 ⟨rfl, hx1⟩; rw [hx1]; clear hx1 x1) | (go_at_call 27; refine hhd.mono ?_; clear hhd; rintro e w5 ⟨rfl, hb5⟩; have hc3 := HC3.out w5 (HC4.out.below hb5); have HT5 := hidOf (HT4.out.trans (Two.of_below hb5 C P)); clear hb5) | (go_at_call 26; refine hc3.mono ?_; clear hc3; rintro e w6 ⟨rfl, h6, t6⟩; have HC6 := hidOf h6; have HT6 := hidOf (HT5.out.trans t6); clear h6 t6) | (go_at_call 23; refine (HWN _ _).mono ?_; rintro e x1 ⟨rfl, hx1⟩; rw [hx1]; clear hx1 x1))
              go_ret
              exact ⟨ret_int (by rw [HS2.out]; rfl), by rw [HS2.out]; exact HC6.out, HT6.out⟩
      · have HIN1 : Hid (c.into = 0) := by show _ = _; rw [HIN.out, if_pos hl]
        have HKE1 : Hid (c.kept.1 = k1) := by show _ = _; rw [HKE.out, if_pos hl, hk1]
        rw [hl] at HW
        rw [HIN1.out] at HC1 HCC2 HC3
        rw [HKE1.out] at hnx
        clear HIN HKE hl HIN1 HKE1 hk0 hk1 hkl hinto
        have HQK : Hid (∀ (x : World) (q : Nat) (v u : Value), x.heap[q]? = some (.cells (hvA 0 k0 v c.many k1 u) 57 (0, 0)) → x.cell? ⟨q, 0, none⟩ = some (.int .i64 (0 : Nat)) ∧ x.cell? ⟨q, 4, none⟩ = some (.int .u16 k1)) := fun x q v u hx => ⟨Lib.cell_of_heap hx 0, Lib.cell_of_heap hx 4⟩
        cases o1 with
        | false =>
          have HS2 : Hid (SV = (d1, 6)) := HS1.out
          go_enter Try.func12, Try.ntmps12
          go_wp2_with (first | (go_at_call 11; refine hroom.mono ?_; rintro e x1 ⟨rfl, hx1⟩; rw [hx1]; clear hx1 x1) | (go_at_call 18; refine hdead.mono ?_; rintro e x1 ⟨rfl, hx1⟩; rw [hx1]; clear hx1 x1) | (go_at_call 20; refine hh.mono ?_; clear hh; rintro e w1 ⟨v, u, rfl, hv, hu, hb1, _, _⟩; have hov := oneSlice hv; have hou := oneSlice hu; obtain ⟨y1, q1, hy1, hq1s, hq1, z1, hz1, hqz1, HBz1, hCq, hPq, hlt⟩ := HW.out w1 v u hb1 hov hou; clear HW hb1 hv hu) | (refine wpList_store_row rfl 57 _ _ rfl q1 (hvA 0 k0 v c.many k1 u) rfl rfl 57 _ hq1 infoHv rfl (hvA_one _ _ _ _ _ _ hov hou) ?_; rw [hz1]; clear hz1 hy1 hq1) | (refine wpList_load_row rfl 57 _ rfl q1 rfl 57 (hvA 0 k0 v c.many k1 u) (0, 0) _ hqz1 Try.underlying57 rfl infoHv ?_) | (go_at_call 21; refine hlt.mono ?_; clear hlt; rintro e w2 ⟨rfl, hb2⟩; have hq2 := (hb2.block q1 (Array.getElem?_eq_some_iff.1 hqz1).1).trans hqz1; have HB2 := hidOf (HBz1.out.trans (hb2.mono HBz1.out.size)); have hc1 := HC1.out w2 (HCM.out.below HB2.out); have HY2 := hidOf (HBW.out w2 HB2.out); obtain ⟨cf, ck⟩ := HQK.out w2 q1 v u hq2; clear hb2 HBz1 hqz1) | (go_at_call 24; refine hc1.mono ?_; clear hc1; rintro e w3 ⟨rfl, h3, t3⟩; have HC3x := hidOf h3; have HT3 := hidOf ((Two.of_below HB2.out C P).trans t3); have hq3 := (t3.block q1 (Array.getElem?_eq_some_iff.1 hq2).1 hCq.symm hPq.symm).trans hq2; have HY3 := hidOf (HBT.out w2 w3 HY2.out t3); have hc2 := HCC2.out w3 h3 HY3.out; clear h3 t3 cf ck) | (go_at_call 23; refine (HWN _ _).mono ?_; rintro e x1 ⟨rfl, hx1⟩; rw [hx1]; clear hx1 x1))
          go_ret
          exact ⟨ret_int (by rw [HS2.out]; rfl), by rw [HS2.out]; exact HC3x.out, HT3.out⟩
        | true =>
          cases o2 with
          | false =>
            have HS2 : Hid (SV = (d2, 6)) := HS1.out
            go_enter Try.func12, Try.ntmps12
            go_wp2_with (first | (go_at_call 11; refine hroom.mono ?_; rintro e x1 ⟨rfl, hx1⟩; rw [hx1]; clear hx1 x1) | (go_at_call 18; refine hdead.mono ?_; rintro e x1 ⟨rfl, hx1⟩; rw [hx1]; clear hx1 x1) | (go_at_call 20; refine hh.mono ?_; clear hh; rintro e w1 ⟨v, u, rfl, hv, hu, hb1, _, _⟩; have hov := oneSlice hv; have hou := oneSlice hu; obtain ⟨y1, q1, hy1, hq1s, hq1, z1, hz1, hqz1, HBz1, hCq, hPq, hlt⟩ := HW.out w1 v u hb1 hov hou; clear HW hb1 hv hu) | (refine wpList_store_row rfl 57 _ _ rfl q1 (hvA 0 k0 v c.many k1 u) rfl rfl 57 _ hq1 infoHv rfl (hvA_one _ _ _ _ _ _ hov hou) ?_; rw [hz1]; clear hz1 hy1 hq1) | (refine wpList_load_row rfl 57 _ rfl q1 rfl 57 (hvA 0 k0 v c.many k1 u) (0, 0) _ hqz1 Try.underlying57 rfl infoHv ?_) | (go_at_call 21; refine hlt.mono ?_; clear hlt; rintro e w2 ⟨rfl, hb2⟩; have hq2 := (hb2.block q1 (Array.getElem?_eq_some_iff.1 hqz1).1).trans hqz1; have HB2 := hidOf (HBz1.out.trans (hb2.mono HBz1.out.size)); have hc1 := HC1.out w2 (HCM.out.below HB2.out); have HY2 := hidOf (HBW.out w2 HB2.out); obtain ⟨cf, ck⟩ := HQK.out w2 q1 v u hq2; clear hb2 HBz1 hqz1) | (go_at_call 24; refine hc1.mono ?_; clear hc1; rintro e w3 ⟨rfl, h3, t3⟩; have HC3x := hidOf h3; have HT3 := hidOf ((Two.of_below HB2.out C P).trans t3); have hq3 := (t3.block q1 (Array.getElem?_eq_some_iff.1 hq2).1 hCq.symm hPq.symm).trans hq2; have HY3 := hidOf (HBT.out w2 w3 HY2.out t3); have hc2 := HCC2.out w3 h3 HY3.out; clear h3 t3 cf ck) | (go_at_call 25; refine hc2.mono ?_; clear hc2; rintro e w4 ⟨rfl, h4, t4⟩; have HC4 := hidOf h4; have HT4 := hidOf (HT3.out.trans t4); have hq4 := (t4.block q1 (Array.getElem?_eq_some_iff.1 hq3).1 hCq.symm hPq.symm).trans hq3; have HY4 := hidOf (HBT.out w3 w4 HY3.out t4); have hhd := HHH.out w4 HY4.out; obtain ⟨cf, ck⟩ := HQK.out w4 q1 v u hq4; clear h4 t4 hq3) | (go_at_call 23; refine (HWN _ _).mono ?_; rintro e x1 ⟨rfl, hx1⟩; rw [hx1]; clear hx1 x1))
            go_ret
            exact ⟨ret_int (by rw [HS2.out]; rfl), by rw [HS2.out]; exact HC4.out, HT4.out⟩
          | true =>
            have HS2 : Hid (SV = (d3, if o3 then 0 else 6)) := HS1.out
            clear HS1
            cases o3
            all_goals
              go_enter Try.func12, Try.ntmps12
              go_wp2_with (first | (go_at_call 11; refine hroom.mono ?_; rintro e x1 ⟨rfl, hx1⟩; rw [hx1]; clear hx1 x1) | (go_at_call 18; refine hdead.mono ?_; rintro e x1 ⟨rfl, hx1⟩; rw [hx1]; clear hx1 x1) | (go_at_call 20; refine hh.mono ?_; clear hh; rintro e w1 ⟨v, u, rfl, hv, hu, hb1, _, _⟩; have hov := oneSlice hv; have hou := oneSlice hu; obtain ⟨y1, q1, hy1, hq1s, hq1, z1, hz1, hqz1, HBz1, hCq, hPq, hlt⟩ := HW.out w1 v u hb1 hov hou; clear HW hb1 hv hu) | (refine wpList_store_row rfl 57 _ _ rfl q1 (hvA 0 k0 v c.many k1 u) rfl rfl 57 _ hq1 infoHv rfl (hvA_one _ _ _ _ _ _ hov hou) ?_; rw [hz1]; clear hz1 hy1 hq1) | (refine wpList_load_row rfl 57 _ rfl q1 rfl 57 (hvA 0 k0 v c.many k1 u) (0, 0) _ hqz1 Try.underlying57 rfl infoHv ?_) | (go_at_call 21; refine hlt.mono ?_; clear hlt; rintro e w2 ⟨rfl, hb2⟩; have hq2 := (hb2.block q1 (Array.getElem?_eq_some_iff.1 hqz1).1).trans hqz1; have HB2 := hidOf (HBz1.out.trans (hb2.mono HBz1.out.size)); have hc1 := HC1.out w2 (HCM.out.below HB2.out); have HY2 := hidOf (HBW.out w2 HB2.out); obtain ⟨cf, ck⟩ := HQK.out w2 q1 v u hq2; clear hb2 HBz1 hqz1) | (go_at_call 24; refine hc1.mono ?_; clear hc1; rintro e w3 ⟨rfl, h3, t3⟩; have HC3x := hidOf h3; have HT3 := hidOf ((Two.of_below HB2.out C P).trans t3); have hq3 := (t3.block q1 (Array.getElem?_eq_some_iff.1 hq2).1 hCq.symm hPq.symm).trans hq2; have HY3 := hidOf (HBT.out w2 w3 HY2.out t3); have hc2 := HCC2.out w3 h3 HY3.out; clear h3 t3 cf ck) | (go_at_call 25; refine hc2.mono ?_; clear hc2; rintro e w4 ⟨rfl, h4, t4⟩; have HC4 := hidOf h4; have HT4 := hidOf (HT3.out.trans t4); have hq4 := (t4.block q1 (Array.getElem?_eq_some_iff.1 hq3).1 hCq.symm hPq.symm).trans hq3; have HY4 := hidOf (HBT.out w3 w4 HY3.out t4); have hhd := HHH.out w4 HY4.out; obtain ⟨cf, ck⟩ := HQK.out w4 q1 v u hq4; clear h4 t4 hq3) | (go_at_call 28; refine (hnx _).mono ?_; rintro e x1 ⟨rfl, hx1⟩; rw [hx1]; clear hx1 x1) | (go_at_call 27; refine hhd.mono ?_; clear hhd; rintro e w5 ⟨rfl, hb5⟩; have hc3 := HC3.out w5 (HC4.out.below hb5); have HT5 := hidOf (HT4.out.trans (Two.of_below hb5 C P)); clear hb5) | (go_at_call 26; refine hc3.mono ?_; clear hc3; rintro e w6 ⟨rfl, h6, t6⟩; have HC6 := hidOf h6; have HT6 := hidOf (HT5.out.trans t6); clear h6 t6) | (go_at_call 23; refine (HWN _ _).mono ?_; rintro e x1 ⟨rfl, hx1⟩; rw [hx1]; clear hx1 x1))
              go_ret
              exact ⟨ret_int (by rw [HS2.out]; rfl), by rw [HS2.out]; exact HC6.out, HT6.out⟩
end
end Go.Proofs.Ythbcpmakhdogmaa
