/- The law PdomapSize returns true for every slice of entries and every slice of slots, and leaves both as they were. -/
import Derived.Test.YthalhidebkhclaaXb2
import Derived.Deep.RegionWith
namespace Go.Proofs.Ythalhidebkhclaa
open Go.RowKit Go.Shelf Go.Proofs.Ty
set_option linter.unusedVariables false
set_option maxRecDepth 1000000
set_option linter.unusedSimpArgs false
theorem below_self (w : World) : Below w.heap.size w w.drew := ⟨rfl, rfl, rfl, Nat.le_refl _, fun _ _ => rfl⟩
set_option maxHeartbeats 8000000 in
theorem psiz_walk (v : Value) (l : List En) (vs : Value) (L : List Sl) (w : World) (hW : Wide 14 enC w v l) (hn : l.length ≤ 1172812402927) (hWs : Wide 3 slC w vs L) (hL : L.length ≤ 8796093022000) :
    Calls Try.prog 4 #[v, vs] w fun e w' => e = .returned (.bool true) ∧ Below w.heap.size w w' := by
  have hB := Begins_any v l w hW hn
  obtain ⟨aS, cS, hvs⟩ := hWs.shape
  subst hvs
  have HWS := hidOf2 hWs
  clear hW hWs
  go_enter Try.func4, Try.ntmps4
  go_wp2_with fail
  refine hB.mono ?_
  rintro e w2 ⟨B2, hbad, hgood⟩
  clear hB
  by_cases hc : chkL l = 0
  · obtain ⟨X, D, R, E, its, vL, vV, rfl, N2⟩ := hgood hc
    have HF := hidOf2 (fit_bg N2 hc)
    have HX2 := hidOf2 N2.pair
    have HD2 := hidOf2 N2.dct
    have HB2 := hidOf2 B2
    have HOwn := hidOf2 (fun (y : World) (hy : Below w2.heap.size w2 y) => own13_any (w := y) (.slice aS L.length cS) L (HWS.out.same (Nat.le_trans B2.size hy.size) (fun b _ hl => (hy.block b (Nat.lt_of_lt_of_le hl B2.size)).trans (B2.block b hl))) hL)
    have HCX := hidOf2 (fun (y : World) (hy : Below w2.heap.size w2 y) => (show y.cell? ⟨X, 0, none⟩ = some (.pointer (some ⟨D, 0, none⟩)) from Lib.cell_of_heap ((hy.block X (Array.getElem?_eq_some_iff.1 HX2.out).1).trans HX2.out) 0))
    have HL := hidOf2 (fun (y : World) (hy : Below w2.heap.size w2 y) (e : Ending) (z : World) (h : e = .returned (.bool true) ∧ Below y.heap.size y z) => (show e = .returned (.bool true) ∧ Below w.heap.size w z from ⟨h.1, (HB2.out.trans (hy.mono HB2.out.size)).trans (h.2.mono (Nat.le_trans HB2.out.size hy.size))⟩))
    have c2 := HCX.out _ (below_self w2)
    clear hbad hgood N2 B2
    by_cases hk : ckC its false L = 0
    · have HPk := hidOf2 (fun (y : World) (hy : Below w2.heap.size w2 y) (x : Value) (hx : Wide 3 slC y x L) => pdPack_ok (HD2.out.below hy) x L hx hL hk (fit_mn HF.out) (fit_vn HF.out))
      have HSz := hidOf2 (fun (y : World) (x : Value) (hx : Wide 3 slC y x L) => pdSize_any (w := y) x L hx hL)
      have hs8 : szC L ≤ 8 := by rw [sz_off (fit_mn HF.out) hk]; exact (en_off hk _ (Nat.le_refl _)).2.1
      generalize szC L = sz at *
      go_upto_region 4 with fail
      go_region_with (first | (go_at_call 9; refine (HOwn.out _ (by exact below_self w2)).mono ?_; rintro e w3 ⟨x3, rfl, hW3, b3, _⟩; have b3' : Below w2.heap.size w2 w3 := ⟨b3.os, b3.tape, b3.output, b3.size, b3.block⟩; have c3 := HCX.out w3 b3') | (go_at_call 10; refine (HPk.out w3 b3' x3 hW3).mono ?_; rintro e w4 ⟨g, rfl, b4, _, K4⟩))
      all_goals
        have b4' := b3'.trans (b4.mono b3'.size)
        have hOw := HOwn.out w4 b4'
        clear hW3 K4 b3 b4 c3
        go_wp2_with fail
        refine hOw.mono ?_
        rintro e w5 ⟨x5, rfl, hW5, b5, _⟩
        have b5' := b4'.trans (b5.mono b4'.size)
        have hSz := HSz.out w5 x5 hW5
        clear hOw hW5 b5
        go_wp2_with fail
        refine hSz.mono ?_
        rintro e w6 ⟨rfl, b6⟩
        have b6' := b5'.trans (b6.mono b5'.size)
        have hLv := lives13_any w6
        have HL6 := HL.out w6 b6'
        have d1 : decide ((sz : Int) ≤ 8) = true := by simp; omega
        clear hSz b6
        go_wp2_with fail
        refine hLv.mono ?_
        rintro e w7 ⟨rfl, b7⟩
        go_wp2
        go_ret
        exact HL6 _ _ ⟨rfl, b7⟩
    · have HPk := hidOf2 (fun (y : World) (hy : Below w2.heap.size w2 y) (x : Value) (hx : Wide 3 slC y x L) => pdPack_bad (HD2.out.below hy) x L hx hL hk)
      go_upto_region 4 with fail
      go_region_with (first | (go_at_call 9; refine (HOwn.out _ (by exact below_self w2)).mono ?_; rintro e w3 ⟨x3, rfl, hW3, b3, _⟩; have b3' : Below w2.heap.size w2 w3 := ⟨b3.os, b3.tape, b3.output, b3.size, b3.block⟩; have c3 := HCX.out w3 b3') | (go_at_call 10; refine (HPk.out w3 b3' x3 hW3).mono ?_; rintro e w4 ⟨rfl, b4⟩))
      all_goals
        have b4' := b3'.trans (b4.mono b3'.size)
        have hLv := lives13_any w4
        have HL6 := HL.out w4 b4'
        clear hW3 b3 b4 c3
        go_wp2_with fail
        refine hLv.mono ?_
        rintro e w7 ⟨rfl, b7⟩
        go_wp2
        go_ret
        exact HL6 _ _ ⟨rfl, b7⟩
  · obtain rfl := hbad hc
    have HLv := lives13_any w2
    clear hbad hgood
    go_wp2_with (go_at_call 7; refine HLv.mono ?_; rintro e w8 ⟨rfl, B8⟩)
    go_ret
    exact ⟨rfl, B2.trans (B8.mono B2.size)⟩
end Go.Proofs.Ythalhidebkhclaa
namespace Go.Proofs.Ythalhidebkhclaa
open Go.ChangeShapes Go.WideShapes Go.ChangeAt Go.RowKit Go.Proofs.Ty
open Go.ChangeMaps (open_string shut_string)
set_option linter.unusedVariables false
set_option maxRecDepth 1000000

set_option maxRecDepth 100000 in
theorem pdomapSize_lifted (os : Os) (started : os.Started) (H : Type) (enc : TypeId × Value → H) :
    ReturnsInHanded {} Try.checked os 4 .any (Rows.pdomapSizeSpec.pre6 enc Try.prog Try.f4 Rows.pdomapSizeRow.domain false) (Rows.pdomapSizeSpec.post enc Try.prog Try.f4 false true false false) := by
  refine returnsInHanded_of_change_sized (C := Try.checked) own started (by kernel_rfl) Try.func4
    (ChangeSpec.witness6 (enc := enc) (C := Try.checked) false ⟨#[], #[.slice none 0 0, .slice none 0 0], []⟩ 8 (by kernel_rfl) (by kernel_rfl) (by kernel_rfl) (by kernel_rfl)) ?_
  intro W base args ds gs before hval0 hW hcnd hsz _
  have hval : ∀ (j : Nat) t v, Try.f4.params[j]? = some t → args[j]? = some v → Value.okWide Try.prog W .any base t v := hval0
  have hW' := hW
  obtain ⟨p, q, hA0, hV, rfl, hfz, hnd⟩ := hW
  have hA : DataW.TrodAll enc Try.prog W 0 (fun _ => true) true Try.f4.params.toList args.toList ds p := hA0
  rw [Try.params4] at hA hval hsz
  obtain ⟨v0, vs0, d0, ds0, p0, q0, hargs, rfl, rfl, h0, r0⟩ := trodAll_cons hA
  obtain ⟨v1, vs1, d1, ds1, p1, q1, rfl, rfl, rfl, h1, r1⟩ := trodAll_cons r0
  obtain ⟨rfl, rfl, rfl⟩ := trodAll_nil r1
  obtain rfl : args = #[v0, v1] := by cases args; simp_all
  obtain ⟨rfl, rfl⟩ := trodVars_none hV
  have lt0 : ∀ x ∈ p0, x.block < W.heap.size := by obtain ⟨m, hm⟩ := h0; exact DataW.trod_lt m _ _ _ hm
  obtain ⟨l0, w0, e0⟩ := open_entries (hval 0 22 v0 rfl rfl) h0 lt0
  have z0 := size_entries (j := 0) hsz rfl rfl e0
  have lt1 : ∀ x ∈ p1, x.block < W.heap.size := by obtain ⟨m, hm⟩ := h1; exact DataW.trod_lt m _ _ _ hm
  obtain ⟨l1, w1, e1⟩ := open_slots (hval 1 23 v1 rfl rfl) h1 lt1
  have z1 := size_slots (j := 1) hsz rfl rfl e1
  clear hA0 hval0
  refine (psiz_walk v0 l0 v1 l1 W w0 z0 w1.1 z1).mono fun e W' ⟨he, bel⟩ => ?_
  subst he
  exact ⟨_, rfl, _, _, _, [], _, [], hW', trodAll_mk1 (shut_bool Try.underlying4 _), (trodAll_cons_mk (Below.trod laidOut (by kernel_rfl) (of_decide_eq_true (by kernel_rfl)) h0 bel lt0) (trodAll_cons_mk (Below.trod laidOut (by kernel_rfl) (of_decide_eq_true (by kernel_rfl)) h1 bel lt1) trodAll_mk0)), rfl, bel.frame _, fun h => by cases h⟩

theorem pdomapSize_holds : Rows.PdomapSizeSaid :=
  OpenClaim.holds_of_wide 4 Try.f4 rfl rfl rfl rfl rfl rfl rfl ⟨rfl, rfl, rfl, rfl, rfl⟩ rfl rfl rfl rfl rfl (by kernel_rfl) Try.func4 (by kernel_rfl)
    (of_decide_eq_true (by kernel_rfl)) (by unfold Func.isWrapper; first | (rw [if_pos (by decide +kernel)]; kernel_rfl) | (rw [if_neg (by decide +kernel)]; exact ⟨rfl, rfl⟩))
    (fun os started H enc _ => pdomapSize_lifted os started H enc)
end Go.Proofs.Ythalhidebkhclaa
