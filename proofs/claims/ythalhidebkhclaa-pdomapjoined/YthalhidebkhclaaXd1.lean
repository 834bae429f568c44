/- The law PdomapJoined returns true for every slice of entries, every slice of slots and every number of eight bits, and leaves both slices as they were. -/
import Derived.Test.YthalhidebkhclaaXc1
namespace Go.Proofs.Ythalhidebkhclaa
open Go.RowKit Go.Shelf Go.Proofs.Ty
set_option linter.unusedVariables false
set_option maxRecDepth 1000000
set_option linter.unusedSimpArgs false
set_option maxHeartbeats 8000000 in
theorem pjoi_walk (v : Value) (l : List En) (vs : Value) (L : List Sl) (a : Nat) (w : World) (hW : Wide 14 enC w v l) (hn : l.length ≤ 1172812402927) (hWs : Wide 3 slC w vs L) (hC : ∀ ao n cap, vs = .slice ao n cap → n ≤ cap) (hL : L.length ≤ 8796093022000) (ha : a < 256) :
    Calls Try.prog 5 #[v, vs, .int .u8 a] w fun e w' => e = .returned (.bool true) ∧ Below w.heap.size w w' := by
  have hB := Begins_any v l w hW hn
  obtain ⟨aS, cS, hvs⟩ := hWs.shape
  subst hvs
  have hkl : a % (L.length + 1) < L.length + 1 := Nat.mod_lt _ (by omega)
  obtain ⟨p1, hp1, hq1⟩ := st_take hWs hC (a % (L.length + 1)) (by omega)
  obtain ⟨p2, hp2, hq2⟩ := st_drop hWs hC (a % (L.length + 1)) (by omega)
  have HQ1 := hidOf2 hq1
  have HQ2 := hidOf2 hq2
  have HWS := hidOf2 hWs
  have hme : (a : Int).tmod ((L.length + 1 : Nat) : Int) = ((a % (L.length + 1) : Nat) : Int) := rfl
  have hmf : ((L.length : Int) + 1) = ((L.length + 1 : Nat) : Int) := by omega
  have hmz : ((L.length + 1 : Nat) : Int) ≠ 0 := by omega
  have hmb : L.length + 1 < 9000000000000 := by omega
  have HKL := hidOf2 (show a % (L.length + 1) ≤ L.length by omega)
  generalize a % (L.length + 1) = k at *
  generalize L.length + 1 = n1 at *
  clear hW hWs hq1 hq2
  go_enter Try.func5, Try.ntmps5
  go_wp2_with fail
  refine hB.mono ?_
  rintro e w2 ⟨B2, hbad, hgood⟩
  clear hB
  by_cases hc : chkL l = 0
  · obtain ⟨X, D, R, E, its, vL, vV, rfl, N2⟩ := hgood hc
    have HF := hidOf2 (fit_bg N2 hc)
    have HX2 := hidOf2 N2.pair
    have HD2 := hidOf2 N2.dct
    have HB2 := hidOf2 B2
    have HWy := hidOf2 (fun (y : World) (hy : Below w2.heap.size w2 y) => (show Wide 3 slC y (.slice aS L.length cS) L from HWS.out.same (Nat.le_trans B2.size hy.size) (fun b _ hl => (hy.block b (Nat.lt_of_lt_of_le hl B2.size)).trans (B2.block b hl))))
    have HOwn := hidOf2 (fun (y : World) (hy : Below w2.heap.size w2 y) => own13_any (w := y) (.slice aS L.length cS) L (HWy.out y hy) hL)
    have HOw1 := hidOf2 (fun (y : World) (hy : Below w2.heap.size w2 y) => own13_any (w := y) p1 (L.take k) (HQ1.out y (HWy.out y hy)) (by rw [List.length_take]; omega))
    have HOw2 := hidOf2 (fun (y : World) (hy : Below w2.heap.size w2 y) => own13_any (w := y) p2 (L.drop k) (HQ2.out y (HWy.out y hy)) (by rw [List.length_drop]; omega))
    have HCX := hidOf2 (fun (y : World) (hy : Below w2.heap.size w2 y) => (show y.cell? ⟨X, 0, none⟩ = some (.pointer (some ⟨D, 0, none⟩)) from Lib.cell_of_heap ((hy.block X (Array.getElem?_eq_some_iff.1 HX2.out).1).trans HX2.out) 0))
    have HL := hidOf2 (fun (y : World) (hy : Below w2.heap.size w2 y) (e : Ending) (z : World) (h : e = .returned (.bool true) ∧ Below y.heap.size y z) => (show e = .returned (.bool true) ∧ Below w.heap.size w z from ⟨h.1, (HB2.out.trans (hy.mono HB2.out.size)).trans (h.2.mono (Nat.le_trans HB2.out.size hy.size))⟩))
    have c2 := HCX.out _ (below_self w2)
    clear hbad hgood N2 B2
    by_cases hk : ckC its false L = 0
    · have hk1 := ck_take hk k
      have hk2 := ck_drop hk k HKL.out
      have HPk := hidOf2 (fun (y : World) (hy : Below w2.heap.size w2 y) (x : Value) (hx : Wide 3 slC y x L) => pdPack_ok (HD2.out.below hy) x L hx hL hk (fit_mn HF.out) (fit_vn HF.out))
      have HPk1 := hidOf2 (fun (y : World) (hy : Below w2.heap.size w2 y) (x : Value) (hx : Wide 3 slC y x (L.take k)) => pdPack_ok (HD2.out.below hy) x (L.take k) hx (by rw [List.length_take]; omega) hk1 (fit_mn HF.out) (fit_vn HF.out))
      have HPk2 := hidOf2 (fun (y : World) (hy : Below w2.heap.size w2 y) (x : Value) (hx : Wide 3 slC y x (L.drop k)) => pdPack_ok (HD2.out.below hy) x (L.drop k) hx (by rw [List.length_drop]; omega) hk2 (fit_mn HF.out) (fit_vn HF.out))
      have eP := pk_all (fit_vn HF.out) hk
      have eP1 := pk_all (fit_vn HF.out) hk1
      have eP2 := pk_all (fit_vn HF.out) hk2
      have HCT := hidOf2 ((eP.trans (cat_two L k HKL.out)).trans (congr (congrArg HAppend.hAppend eP1.symm) eP2.symm))
      have HL0 := hidOf2 (pkB_len (fit_vn HF.out) hk L.length (Nat.le_refl _))
      have HL1 := hidOf2 (pkB_len (fit_vn HF.out) hk1 (L.take k).length (Nat.le_refl _))
      have HL2 := hidOf2 (pkB_len (fit_vn HF.out) hk2 (L.drop k).length (Nat.le_refl _))
      have HS0 := hidOf2 (sz_off (fit_mn HF.out) hk)
      have HS1 := hidOf2 (sz_off (fit_mn HF.out) hk1)
      have HS2 := hidOf2 (sz_off (fit_mn HF.out) hk2)
      have HE1 := hidOf2 (en_off hk1 _ (Nat.le_refl _)).2.1
      have HE2 := hidOf2 (en_off hk2 _ (Nat.le_refl _)).2.1
      clear eP eP1 eP2
      go_upto_region 4 with fail
      go_region_with (first | (go_at_call 9; refine (HOwn.out _ (by exact below_self w2)).mono ?_; rintro e w3 ⟨x3, rfl, hW3, b3, _⟩; have b3' : Below w2.heap.size w2 w3 := ⟨b3.os, b3.tape, b3.output, b3.size, b3.block⟩; have c3 := HCX.out w3 b3') | (go_at_call 10; refine (HPk.out w3 b3' x3 hW3).mono ?_; rintro e w4 ⟨g, rfl, b4, _, K4⟩))
      all_goals
        have b4' := b3'.trans (b4.mono b3'.size)
        have c4 := HCX.out _ (b4'.trans ((below_self w4).mono b4'.size))
        have HK4 := hidOf2 K4
        clear hW3 b3 b4 c3 b3' K4
        go_upto_region 8 with fail
        go_region_with (first | (go_at_call 9; refine (HOw1.out _ (by exact b4'.trans ((below_self w4).mono b4'.size))).mono ?_; rintro e w5 ⟨x5, rfl, hW5, b5, _⟩; have b5' : Below w2.heap.size w2 w5 := b4'.trans ((⟨b5.os, b5.tape, b5.output, b5.size, b5.block⟩ : Below w4.heap.size w4 w5).mono b4'.size); have k5 : Below w4.heap.size w4 w5 := ⟨b5.os, b5.tape, b5.output, b5.size, b5.block⟩; have c5 := HCX.out w5 b5') | (go_at_call 10; refine (HPk1.out w5 b5' x5 hW5).mono ?_; rintro e w6 ⟨g1, rfl, b6, _, K6⟩))
        all_goals
          have b6' := b5'.trans (b6.mono b5'.size)
          have k6 := k5.trans (b6.mono k5.size)
          have c6 := HCX.out _ (b6'.trans ((below_self w6).mono b6'.size))
          have HK6 := hidOf2 (And.intro K6 k6)
          clear hW5 b5 b6 c5 b5' K6 k5 k6 c4 b4'
          go_upto_region 9 with fail
          go_region_with (first | (go_at_call 9; refine (HOw2.out _ (by exact b6'.trans ((below_self w6).mono b6'.size))).mono ?_; rintro e w7 ⟨x7, rfl, hW7, b7, _⟩; have b7' : Below w2.heap.size w2 w7 := b6'.trans ((⟨b7.os, b7.tape, b7.output, b7.size, b7.block⟩ : Below w6.heap.size w6 w7).mono b6'.size); have k7 : Below w6.heap.size w6 w7 := ⟨b7.os, b7.tape, b7.output, b7.size, b7.block⟩; have c7 := HCX.out w7 b7') | (go_at_call 10; refine (HPk2.out w7 b7' x7 hW7).mono ?_; rintro e w8 ⟨g2, rfl, b8, _, K8⟩))
          all_goals
            have b8' := b7'.trans (b8.mono b7'.size)
            have k8 := k7.trans (b8.mono k7.size)
            have k48 := HK6.out.2.trans (k8.mono HK6.out.2.size)
            have T0 := (Bk.bytes (cap := szC L) ((k48.block g (Array.getElem?_eq_some_iff.1 HK4.out).1).trans HK4.out : Bk g (pkB its L L.length) w8) (szC L) (HL0.out.trans HS0.out.symm)).text
            have T1 := (Bk.bytes (cap := szC (L.take k)) ((k8.block g1 (Array.getElem?_eq_some_iff.1 HK6.out.1).1).trans HK6.out.1 : Bk g1 (pkB its (L.take k) (L.take k).length) w8) (szC (L.take k)) (HL1.out.trans HS1.out.symm)).text
            have T2 := (Bk.bytes (cap := szC (L.drop k)) (K8 : Bk g2 (pkB its (L.drop k) (L.drop k).length) w8) (szC (L.drop k)) (HL2.out.trans HS2.out.symm)).text
            rw [HCT.out] at T0
            have hll : (pkB its (L.take k) (L.take k).length).length + (pkB its (L.drop k) (L.drop k).length).length ≤ 4611686018427387904 := by rw [HL1.out, HL2.out]; have := HE1.out; have := HE2.out; omega
            generalize pkB its (L.take k) (L.take k).length = A1 at *
            generalize pkB its (L.drop k) (L.drop k).length = A2 at *
            have hLv := lives13_any w8
            have HL6 := HL.out w8 b8'
            clear hW7 b7 b8 c7 b7' K8 k7 k8 k48 c6 b6' HK6 HK4 HCT
            go_wp2_with (first | (refine convT _ _ _ rfl rfl rfl T0 ?_) | (refine convT _ _ _ rfl rfl rfl T1 ?_) | (refine convT _ _ _ rfl rfl rfl T2 ?_) | (refine catT _ _ A1 A2 hll rfl rfl rfl rfl ?_))
            refine hLv.mono ?_
            rintro e w9 ⟨rfl, b9⟩
            go_wp2
            go_ret
            exact HL6 _ _ ⟨rfl, b9⟩
    · have HPk := hidOf2 (fun (y : World) (hy : Below w2.heap.size w2 y) (x : Value) (hx : Wide 3 slC y x L) => pdPack_bad (HD2.out.below hy) x L hx hL hk)
      go_upto_region 4 with fail
      go_region_with (first | (go_at_call 9; refine (HOwn.out _ (by exact below_self w2)).mono ?_; rintro e w3 ⟨x3, rfl, hW3, b3, _⟩; have b3' : Below w2.heap.size w2 w3 := ⟨b3.os, b3.tape, b3.output, b3.size, b3.block⟩; have c3 := HCX.out w3 b3') | (go_at_call 10; refine (HPk.out w3 b3' x3 hW3).mono ?_; rintro e w4 ⟨rfl, b4⟩))
      all_goals
        have b4' := b3'.trans (b4.mono b3'.size)
        have hLv := lives13_any w4
        have HL6 := HL.out w4 b4'
        clear hW3 b3 b4 c3
        go_wp2_with fail
        refine hLv.mono ?_
        rintro e w7 ⟨rfl, b7⟩
        go_wp2
        go_ret
        exact HL6 _ _ ⟨rfl, b7⟩
  · obtain rfl := hbad hc
    have HLv := lives13_any w2
    clear hbad hgood
    go_wp2_with (go_at_call 7; refine HLv.mono ?_; rintro e w8 ⟨rfl, B8⟩)
    go_ret
    exact ⟨rfl, B2.trans (B8.mono B2.size)⟩
theorem pjoi_int (v : Value) (l : List En) (vs : Value) (L : List Sl) (z : Int) (w : World) (hW : Wide 14 enC w v l) (hn : l.length ≤ 1172812402927) (hWs : Wide 3 slC w vs L) (hC : ∀ ao n cap, vs = .slice ao n cap → n ≤ cap) (hL : L.length ≤ 8796093022000) (hz : ∃ a : Nat, z = (a : Int) ∧ a < 256) :
    Calls Try.prog 5 #[v, vs, .int .u8 z] w fun e w' => e = .returned (.bool true) ∧ Below w.heap.size w w' := by
  obtain ⟨a, rfl, ha⟩ := hz
  exact pjoi_walk v l vs L a w hW hn hWs hC hL ha
end Go.Proofs.Ythalhidebkhclaa
namespace Go.Proofs.Ythalhidebkhclaa
open Go.ChangeShapes Go.WideShapes Go.ChangeAt Go.RowKit Go.Proofs.Ty
open Go.ChangeMaps (open_string shut_string)
set_option linter.unusedVariables false
set_option maxRecDepth 1000000

set_option maxRecDepth 100000 in
theorem pdomapJoined_lifted (os : Os) (started : os.Started) (H : Type) (enc : TypeId × Value → H) :
    ReturnsInHanded {} Try.checked os 5 .any (Rows.pdomapJoinedSpec.pre6 enc Try.prog Try.f5 Rows.pdomapJoinedRow.domain false) (Rows.pdomapJoinedSpec.post enc Try.prog Try.f5 false true false false) := by
  refine returnsInHanded_of_change_sized (C := Try.checked) own started (by kernel_rfl) Try.func5
    (ChangeSpec.witness6 (enc := enc) (C := Try.checked) false ⟨#[], #[.slice none 0 0, .slice none 0 0, .int .u8 0], []⟩ 8 (by kernel_rfl) (by kernel_rfl) (by kernel_rfl) (by kernel_rfl)) ?_
  intro W base args ds gs before hval0 hW hcnd hsz _
  have hval : ∀ (j : Nat) t v, Try.f5.params[j]? = some t → args[j]? = some v → Value.okWide Try.prog W .any base t v := hval0
  have hW' := hW
  obtain ⟨p, q, hA0, hV, rfl, hfz, hnd⟩ := hW
  have hA : DataW.TrodAll enc Try.prog W 0 (fun _ => true) true Try.f5.params.toList args.toList ds p := hA0
  rw [Try.params5] at hA hval hsz
  obtain ⟨v0, vs0, d0, ds0, p0, q0, hargs, rfl, rfl, h0, r0⟩ := trodAll_cons hA
  obtain ⟨v1, vs1, d1, ds1, p1, q1, rfl, rfl, rfl, h1, r1⟩ := trodAll_cons r0
  obtain ⟨v2, vs2, d2, ds2, p2, q2, rfl, rfl, rfl, h2, r2⟩ := trodAll_cons r1
  obtain ⟨rfl, rfl, rfl⟩ := trodAll_nil r2
  obtain rfl : args = #[v0, v1, v2] := by cases args; simp_all
  obtain ⟨rfl, rfl⟩ := trodVars_none hV
  have lt0 : ∀ x ∈ p0, x.block < W.heap.size := by obtain ⟨m, hm⟩ := h0; exact DataW.trod_lt m _ _ _ hm
  obtain ⟨l0, w0, e0⟩ := open_entries (hval 0 22 v0 rfl rfl) h0 lt0
  have z0 := size_entries (j := 0) hsz rfl rfl e0
  have lt1 : ∀ x ∈ p1, x.block < W.heap.size := by obtain ⟨m, hm⟩ := h1; exact DataW.trod_lt m _ _ _ hm
  obtain ⟨l1, w1, e1⟩ := open_slots (hval 1 23 v1 rfl rfl) h1 lt1
  have z1 := size_slots (j := 1) hsz rfl rfl e1
  obtain ⟨a2, rfl, rfl, rfl, w2⟩ := open_int Try.underlying5 (hval 2 5 v2 rfl rfl) h2
  clear hA0 hval0
  refine (pjoi_int v0 l0 v1 l1 a2 W w0 z0 w1.1 w1.2 z1 (u8_of w2)).mono fun e W' ⟨he, bel⟩ => ?_
  subst he
  exact ⟨_, rfl, _, _, _, [], _, [], hW', trodAll_mk1 (shut_bool Try.underlying4 _), (trodAll_cons_mk (Below.trod laidOut (by kernel_rfl) (of_decide_eq_true (by kernel_rfl)) h0 bel lt0) (trodAll_cons_mk (Below.trod laidOut (by kernel_rfl) (of_decide_eq_true (by kernel_rfl)) h1 bel lt1) (trodAll_cons_mk (shut_int Try.underlying5 w2) trodAll_mk0))), rfl, bel.frame _, fun h => by cases h⟩

theorem pdomapJoined_holds : Rows.PdomapJoinedSaid :=
  OpenClaim.holds_of_wide 5 Try.f5 rfl rfl rfl rfl rfl rfl rfl ⟨rfl, rfl, rfl, rfl, rfl⟩ rfl rfl rfl rfl rfl (by kernel_rfl) Try.func5 (by kernel_rfl)
    (of_decide_eq_true (by kernel_rfl)) (by unfold Func.isWrapper; first | (rw [if_pos (by decide +kernel)]; kernel_rfl) | (rw [if_neg (by decide +kernel)]; exact ⟨rfl, rfl⟩))
    (fun os started H enc _ => pdomapJoined_lifted os started H enc)
end Go.Proofs.Ythalhidebkhclaa
