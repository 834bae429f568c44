/- The law NvmCuts returns true whatever comes in. -/
import Derived.Test.YthbcpmakhdogmaaLawNAgain
namespace Go.Proofs.Ythbcpmakhdogmaa
open Go.RowKit Go.Shelf Go.Proofs.Ty Go.Proofs.Nv Go.Proofs.Bits
set_option linter.unusedVariables false
set_option maxRecDepth 1000000
set_option linter.unusedSimpArgs false
theorem Lw.rebase {w W W' : World} {C P : Nat} {d : Ch} (h : Lw W C P d W') (b : Below w.heap.size w W) : Lw w C P d W' := ⟨h.chip, b.trans (h.old.mono b.size), Nat.le_trans b.size h.c1, Nat.le_trans b.size h.p1⟩
/-- A Save that is cut behind so many Writes. -/
theorem cut_save {d : Ch} {l b : List UInt8} (h : Gk d l) (hb : b.length ≤ d.room) (k : Nat) (hk : k < 1000) : (((d.cut k).save b).2 = if 2 + nch b ≤ k then 0 else 6) ∧ ((d.cut k).save b).1.power.kept.1 ≠ 0 ∧ ((d.cut k).save b).1.power.kept.2 = (if 2 + nch b ≤ k then b else l) := by
  have hcl : (d.cut k).left = (k : Int) := by show (if (k : Int) < -1 then -1 else (k : Int)) = _; rw [if_neg (by omega)]
  obtain ⟨g1, g2⟩ := save_spec (Ch.cut_ok h.ok (a := (k : Int)) (by omega)) b hb h.live
  rw [kept_power]
  by_cases hw : 2 + nch b ≤ k
  · obtain ⟨a1, a2, a3, a4⟩ := g1 (.inr (by rw [hcl]; omega))
    rw [if_pos hw, if_pos hw, a3]
    exact ⟨a1, by have := nxt_pos (d.cut k).kept.1; simp only; omega, rfl⟩
  · obtain ⟨a1, a2, a3⟩ := g2 (by rw [hcl]; omega)
    rw [if_neg hw, if_neg hw, a3, kept_cut]
    exact ⟨a1, h.some, h.kept⟩
set_option maxHeartbeats 16000000 in
theorem ncuts_walk (vo vn : Value) (lo ln : List UInt8) (w : World) (hBo : Bytes w vo lo) (hBn : Bytes w vn ln) :
    Calls Try.prog 7 #[vo, vn] w fun e w' => e = .returned (.bool true) ∧ Below w.heap.size w w' := by
  have HLV := lives9_any
  have HBlo := hidOf hBo
  have HBln := hidOf hBn
  obtain ⟨ao, co, rfl⟩ := bytes_shapeN hBo
  obtain ⟨an, cn, rfl⟩ := bytes_shapeN hBn
  obtain ⟨no, hno⟩ : ∃ n, lo.length = n := ⟨_, rfl⟩
  obtain ⟨nn, hnn⟩ : ∃ n, ln.length = n := ⟨_, rfl⟩
  have HNO := hidOf hno
  have HNN := hidOf hnn
  clear hBo hBn
  by_cases hlong : 60 < no ∨ 60 < nn
  · rw [hno, hnn]
    clear hno hnn
    by_cases h1 : 60 < no
    · have hd1 : decide ((60 : Int) < (no : Int)) = true := by simp; omega
      go_enter Try.func7, Try.ntmps7
      go_wp2_with (go_at_call 14; refine (HLV _).mono ?_; rintro e w7 ⟨rfl, hb7⟩)
      go_ret
      exact ⟨rfl, hb7⟩
    · have hd1 : decide ((60 : Int) < (no : Int)) = false := by simp; omega
      have hd2 : decide ((60 : Int) < (nn : Int)) = true := by simp; omega
      go_enter Try.func7, Try.ntmps7
      go_wp2_with (go_at_call 14; refine (HLV _).mono ?_; rintro e w7 ⟨rfl, hb7⟩)
      go_ret
      exact ⟨rfl, hb7⟩
  · have HLlo : Hid (lo.length ≤ 140737488355328) := by show _ ≤ _; omega
    have HLln : Hid (ln.length ≤ 140737488355328) := by show _ ≤ _; omega
    have hd1 : decide ((60 : Int) < (no : Int)) = false := by simp; omega
    have hd2 : decide ((60 : Int) < (nn : Int)) = false := by simp; omega
    have hnn60 : nn ≤ 60 := by omega
    have HN0 := hidOf (New_ok 20 (by omega) (by omega))
    have hok := Ch.new_ok (n := 20) (by omega) (by omega)
    have hrm : (Ch.new 20).room = 72 := rfl
    have hd0 : (Ch.new 20).dead = false := rfl
    have hl0 : (Ch.new 20).left = -1 := rfl
    generalize Ch.new 20 = d0 at *
    obtain ⟨hg, _⟩ := save_spec hok lo (by omega) hd0
    obtain ⟨a1, a2, a3, a4⟩ := hg (.inl (by rw [hl0]; decide))
    have HG1 : Hid (Gk (d0.save lo).1 lo) := ⟨Ch.save_ok hok lo, a2, (a4 (by rw [hl0]; decide)).trans hl0, by rw [a3], by rw [a3]; have := nxt_pos d0.kept.1; simp only; omega, by rw [save_room]; omega⟩
    have HR1 : Hid ((d0.save lo).1.room = 72) := (save_room _ _).trans hrm
    have HS0 : Hid (∀ C P x, Lw w C P d0 x → ∃ WA qA, x.alloc (.cells #[] 5) = WA ∧ x.heap.size = qA ∧ WA.ownsRow qA 5 1 (.slice (some ⟨qA, 0, none⟩) 0 0) ([] : List UInt8).length (Lib.byteCells []) ∧ Bytes WA (.slice ao lo.length co) lo ∧ qA ≤ WA.heap.size ∧ Hid (∀ v1 w2, w2.ownsRow qA 5 1 v1 ([] ++ lo).length (Lib.byteCells ([] ++ lo)) → WA.grownBy w2 (Value.slice (some ⟨qA, 0, none⟩) 0 0).ownBlock → Calls Try.prog 12 #[.pointer (some ⟨C, 0, none⟩), v1] w2 fun e w' => e = .returned (.int .i64 0) ∧ Lw w C P (d0.save lo).1 w')) := fun C P x hx => by
      obtain ⟨WA, qA, h1, h2, h3, h4, h5, h6⟩ := hx.app (HBlo.out.below hx.old) HLlo.out
      refine ⟨WA, qA, h1, h2, h3, h4, h5, fun v1 w2 ho hg => ?_⟩
      have := h6.out v1 w2 ho hg
      rw [a1] at this
      exact this
    clear hg a1 a2 a3 a4 hok hd0 hl0 hrm
    generalize (d0.save lo).1 = d1 at *
    have HTo : Hid (∀ x, Below w.heap.size w x → (convert 30 9 (.slice ao lo.length co)).run Try.prog x = .ok (.string ⟨lo.toArray⟩) x) := fun x hx => (HBlo.out.below hx).text
    have HTn : Hid (∀ x, Below w.heap.size w x → (convert 30 9 (.slice an ln.length cn)).run Try.prog x = .ok (.string ⟨ln.toArray⟩) x) := fun x hx => (HBln.out.below hx).text
    obtain ⟨To, hTo⟩ : ∃ T : ByteArray, (⟨lo.toArray⟩ : ByteArray) = T := ⟨_, rfl⟩
    obtain ⟨Tn, hTn⟩ : ∃ T : ByteArray, (⟨ln.toArray⟩ : ByteArray) = T := ⟨_, rfl⟩
    rw [hTo] at HTo
    rw [hTn] at HTn
    have HTO := hidOf hTo
    have HTN := hidOf hTn
    rw [hno] at HS0 HTo ⊢
    rw [hnn] at HTn ⊢
    clear hTo hTn hlong
    clear hno hnn
    go_enter Try.func7, Try.ntmps7
    go_wp2
    go_loopw [5] (fun i wr => ∃ (k : Nat), k ≤ 12 ∧ i = .int .i64 k ∧ Hid (Below w.heap.size w wr)) (fun i _ => 12 - (intOf i).toNat)
    case atStart => exact ⟨0, Nat.zero_le _, rfl, Below.refl _ _⟩
    case round =>
      obtain ⟨k, hk, rfl, HW⟩ := hrel
      by_cases hkt : k < 12
      · have hN := HN0.out wr
        have bwr := HW.out
        obtain ⟨z1, z2, z3⟩ := cut_save HG1.out (b := ln) (by rw [HR1.out, HNN.out]; omega) k (by omega)
        have HCT : Hid (∀ C P x, Lw w C P d1 x → Calls Try.prog 17 #[.pointer (some ⟨C, 0, none⟩), .int .i64 (k : Int)] x fun e w' => (∃ v, e = .returned v) ∧ Lw w C P (d1.cut k) w') := fun C P x hx => cut_lw hx k (by omega) (by omega)
        have HNC : Hid (nch ln = (nn + 7) / 8) := by show _ = _; unfold nch; rw [HNN.out]
        have HLDx : Hid (∀ C P x, Lw w C P ((d1.cut k).save ln).1.power x → Calls Try.prog 10 #[.pointer (some ⟨C, 0, none⟩)] x fun e w' => ∃ v, e = .returned (.tuple #[v, .bool true]) ∧ Bytes w' v (if 2 + nch ln ≤ k then ln else lo) ∧ Lw w C P ((d1.cut k).save ln).1.power w') := fun C P x hx => by
          have := load_lw hx
          rw [z3, show (((d1.cut k).save ln).1.power.kept.1 != 0) = true by simpa using z2] at this
          exact this.mono fun e w' ⟨v, he, hv, hw, _⟩ => ⟨v, he, hv, hw⟩
        by_cases hwh : 2 + nch ln ≤ k
        · have hwh : 2 + nch ln ≤ k := hwh
          rw [if_pos hwh] at z1
          have HS2 : Hid (∀ C P x, Lw w C P (d1.cut k) x → ∃ WA qA, x.alloc (.cells #[] 5) = WA ∧ x.heap.size = qA ∧ WA.ownsRow qA 5 1 (.slice (some ⟨qA, 0, none⟩) 0 0) ([] : List UInt8).length (Lib.byteCells []) ∧ Bytes WA (.slice an ln.length cn) ln ∧ qA ≤ WA.heap.size ∧ Hid (∀ v1 w2, w2.ownsRow qA 5 1 v1 ([] ++ ln).length (Lib.byteCells ([] ++ ln)) → WA.grownBy w2 (Value.slice (some ⟨qA, 0, none⟩) 0 0).ownBlock → Calls Try.prog 12 #[.pointer (some ⟨C, 0, none⟩), v1] w2 fun e w' => e = .returned (.int .i64 0) ∧ Lw w C P ((d1.cut k).save ln).1 w')) := fun C P x hx => by
            obtain ⟨WA, qA, h1, h2, h3, h4, h5, h6⟩ := hx.app (HBln.out.below hx.old) HLln.out
            refine ⟨WA, qA, h1, h2, h3, h4, h5, fun v1 w2 ho hg => ?_⟩
            have := h6.out v1 w2 ho hg
            rw [z1] at this
            exact this
          simp only [if_pos hwh] at HLDx
          have HLD := HLDx
          clear HLDx z1 z2 z3
          generalize ((d1.cut k).save ln).1 = d2 at *
          have hwn : 2 + (nn + 7) / 8 ≤ k := by rw [← HNC.out]; exact hwh
          have hdw : decide (2 + ((nn : Int) + 7) / 8 ≤ (k : Int)) = true := by simp; omega
          rw [HNN.out] at HS2
          clear hwh
          go_wp2_with (first | (go_at_call 8; refine hN.mono ?_; clear hN; rintro e w1 ⟨C, P, rfl, h1⟩; obtain ⟨WA, qA, hWA, hqA, hoA, hbA, hsA, HSV⟩ := HS0.out C P w1 (h1.rebase bwr)) | (at_builtin; refine append_bytes rfl _ _ rfl qA _ [] rfl hoA _ lo rfl hbA (by have := HLlo.out; simp; omega) hsA ?_; intro v1 w2 ho hgr; have hsv := HSV.out v1 w2 ho hgr; clear HSV ho hgr hoA hbA hsA h1) | (go_at_call 12; refine hsv.mono ?_; clear hsv; rintro e w3 ⟨rfl, h3⟩; have hct := HCT.out C P w3 h3; clear h3) | (go_at_call 17; refine hct.mono ?_; clear hct; rintro e w4 ⟨⟨v4, rfl⟩, h4⟩; obtain ⟨WB, qB, hWB, hqB, hoB, hbB, hsB, HSW⟩ := HS2.out C P w4 h4; clear h4) | (at_builtin; refine append_bytes rfl _ _ rfl qB _ [] rfl hoB _ ln rfl hbB (by have := HLln.out; simp; omega) hsB ?_; intro v2 w5 ho hgr; have hsw := HSW.out v2 w5 ho hgr; clear HSW ho hgr hoB hbB hsB) | (go_at_call 12; refine hsw.mono ?_; clear hsw; rintro e w6 ⟨rfl, h6⟩; have hpw := power_lw h6; clear h6) | (go_at_call 19; refine hpw.mono ?_; clear hpw; rintro e w7 ⟨⟨v7, rfl⟩, h7⟩; have hld := HLD.out C P w7 h7; clear h7) | (go_at_call 10; refine hld.mono ?_; clear hld; rintro e w8 ⟨v8, rfl, hv8, h8⟩; have htx := hv8.text; have htn := HTn.out w8 h8.old; have hto := HTo.out w8 h8.old; have HO8 := hidOf h8.old; obtain ⟨av, cv, hav⟩ := bytes_shapeN hv8; subst hav; rw [HTN.out] at htx; clear hv8 h8))
          go_roundw
          case rel => exact ⟨k + 1, by omega, by go_num, HO8⟩
          case measure => simp [intOf]; omega
        · have hwh : ¬ 2 + nch ln ≤ k := hwh
          rw [if_neg hwh] at z1
          have HS2 : Hid (∀ C P x, Lw w C P (d1.cut k) x → ∃ WA qA, x.alloc (.cells #[] 5) = WA ∧ x.heap.size = qA ∧ WA.ownsRow qA 5 1 (.slice (some ⟨qA, 0, none⟩) 0 0) ([] : List UInt8).length (Lib.byteCells []) ∧ Bytes WA (.slice an ln.length cn) ln ∧ qA ≤ WA.heap.size ∧ Hid (∀ v1 w2, w2.ownsRow qA 5 1 v1 ([] ++ ln).length (Lib.byteCells ([] ++ ln)) → WA.grownBy w2 (Value.slice (some ⟨qA, 0, none⟩) 0 0).ownBlock → Calls Try.prog 12 #[.pointer (some ⟨C, 0, none⟩), v1] w2 fun e w' => e = .returned (.int .i64 6) ∧ Lw w C P ((d1.cut k).save ln).1 w')) := fun C P x hx => by
            obtain ⟨WA, qA, h1, h2, h3, h4, h5, h6⟩ := hx.app (HBln.out.below hx.old) HLln.out
            refine ⟨WA, qA, h1, h2, h3, h4, h5, fun v1 w2 ho hg => ?_⟩
            have := h6.out v1 w2 ho hg
            rw [z1] at this
            exact this
          simp only [if_neg hwh] at HLDx
          have HLD := HLDx
          clear HLDx z1 z2 z3
          generalize ((d1.cut k).save ln).1 = d2 at *
          have hwn : ¬ 2 + (nn + 7) / 8 ≤ k := by rw [← HNC.out]; exact hwh
          have hdw : decide (2 + ((nn : Int) + 7) / 8 ≤ (k : Int)) = false := by simp; omega
          rw [HNN.out] at HS2
          clear hwh
          go_wp2_with (first | (go_at_call 8; refine hN.mono ?_; clear hN; rintro e w1 ⟨C, P, rfl, h1⟩; obtain ⟨WA, qA, hWA, hqA, hoA, hbA, hsA, HSV⟩ := HS0.out C P w1 (h1.rebase bwr)) | (at_builtin; refine append_bytes rfl _ _ rfl qA _ [] rfl hoA _ lo rfl hbA (by have := HLlo.out; simp; omega) hsA ?_; intro v1 w2 ho hgr; have hsv := HSV.out v1 w2 ho hgr; clear HSV ho hgr hoA hbA hsA h1) | (go_at_call 12; refine hsv.mono ?_; clear hsv; rintro e w3 ⟨rfl, h3⟩; have hct := HCT.out C P w3 h3; clear h3) | (go_at_call 17; refine hct.mono ?_; clear hct; rintro e w4 ⟨⟨v4, rfl⟩, h4⟩; obtain ⟨WB, qB, hWB, hqB, hoB, hbB, hsB, HSW⟩ := HS2.out C P w4 h4; clear h4) | (at_builtin; refine append_bytes rfl _ _ rfl qB _ [] rfl hoB _ ln rfl hbB (by have := HLln.out; simp; omega) hsB ?_; intro v2 w5 ho hgr; have hsw := HSW.out v2 w5 ho hgr; clear HSW ho hgr hoB hbB hsB) | (go_at_call 12; refine hsw.mono ?_; clear hsw; rintro e w6 ⟨rfl, h6⟩; have hpw := power_lw h6; clear h6) | (go_at_call 19; refine hpw.mono ?_; clear hpw; rintro e w7 ⟨⟨v7, rfl⟩, h7⟩; have hld := HLD.out C P w7 h7; clear h7) | (go_at_call 10; refine hld.mono ?_; clear hld; rintro e w8 ⟨v8, rfl, hv8, h8⟩; have htx := hv8.text; have htn := HTn.out w8 h8.old; have hto := HTo.out w8 h8.old; have HO8 := hidOf h8.old; obtain ⟨av, cv, hav⟩ := bytes_shapeN hv8; subst hav; rw [HTO.out] at htx; clear hv8 h8))
          go_roundw
          case rel => exact ⟨k + 1, by omega, by go_num, HO8⟩
          case measure => simp [intOf]; omega
      · go_wp2_with (go_at_call 14; refine (HLV _).mono ?_; rintro e w7 ⟨rfl, hb7⟩; have HO6 := hidOf (HW.out.trans (hb7.mono HW.out.size)); clear hb7)
        go_ret
        exact ⟨rfl, HO6.out⟩
end Go.Proofs.Ythbcpmakhdogmaa
