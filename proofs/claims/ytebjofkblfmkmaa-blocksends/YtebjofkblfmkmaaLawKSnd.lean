/- BlockSends: a sender tells the document's frames, whatever it is answered. -/
import Derived.Test.YtebjofkblfmkmaaBkJ1
import Derived.Test.YtebjofkblfmkmaaBkL1
import Derived.Test.YtebjofkblfmkmaaBkOr
import Derived.Deep.DeepCutAuto
namespace Go.Proofs.Ytebjofkblfmkmaa
open Go.RowKit Go.Proofs.Ty Go.Proofs.Bits
set_option linter.unusedVariables false
set_option maxRecDepth 1000000
set_option linter.unusedSimpArgs false
def f29 : F8 := ⟨162, 0, 9, 0, 0, 0, 0, 0⟩
theorem f29_arr : f29.arr = #[.int .u8 162, .int .u8 0, .int .u8 9, .int .u8 0, .int .u8 0, .int .u8 0, .int .u8 0, .int .u8 0] := rfl
theorem enSF : ∀ args x, (callFunc 8 args).run Try.prog x = .ok (.enter 8 args) x := fun _ _ => by rfl
theorem enDF : ∀ args x, (callFunc 12 args).run Try.prog x = .ok (.enter 12 args) x := fun _ _ => by rfl
theorem enSame : ∀ args x, (callFunc 11 args).run Try.prog x = .ok (.enter 11 args) x := fun _ _ => by rfl
theorem exec_notT {a : Act} {o : Oper} {x : Operand} {t : TypeId} (ho : o.op = .unOp .not 4 x) (hx : a.eval x = .bool true) (w : World) : (execOp a.eval o).run Try.prog w = .ok (.value (.bool false)) w := by
  unfold execOp
  simp only [ho, hx]
  simp [go_sem, run_underlying Try.underlying4]
set_option maxHeartbeats 16000000 in
theorem ksnd_walk (v : Value) (l : List UInt8) (w : World) (hB : Bytes w v l) (hl : l.length ≤ 140737488351232) (z : Int) (hz : -9223372036854775808 ≤ z ∧ z < 9223372036854775808) (va : Value) (la : List F8) (hWa : Wide 8 F8.c w va la) (hcap : ∀ ao n cap, va = .slice ao n cap → n ≤ cap) (hla : la.length * 8 ≤ 140737488351232) :
    Calls Try.prog 3 #[v, .int .i64 z, va] w fun e w' => e = .returned (.bool true) ∧ Below w.heap.size w w' := by
  have HLV := hidOf2 lives12_any
  have HO := hidOf2 (own_empty w)
  have b0 : Below w.heap.size w (w.alloc (.cells #[] 5)) := (Below.refl _ _).alloc (Nat.le_refl _) _
  have HL := hidOf2 b0
  have HB2 := hidOf2 (hB.below b0)
  have HB := hidOf2 hB
  have hsz := size_alloc w (.cells #[] 5)
  obtain ⟨ao, cap, hv, _, _⟩ := hB
  obtain ⟨n, hn⟩ : ∃ n, l.length = n := ⟨_, rfl⟩
  have HN := hidOf2 hn
  rw [hn] at hv hl
  subst hv
  obtain ⟨aa, ca, hva⟩ : ∃ ao cap, va = .slice ao la.length cap := by obtain ⟨ao, cap, h, _⟩ := hWa; exact ⟨ao, cap, h⟩
  obtain ⟨na, hna⟩ : ∃ n, la.length = n := ⟨_, rfl⟩
  have HNA := hidOf2 hna
  rw [hna] at hva hla
  subst hva
  have hca := hcap _ _ _ rfl
  have HWA := hidOf2 hWa
  clear b0 hn hna hWa hcap
  by_cases hlong : 65536 < n
  · have d1 : decide ((65536 : Int) < (n : Int)) = true := by simp; omega
    go_enter Try.func3, Try.ntmps3
    go_upto_region 2 with (first | (at_builtin; refine append_bytes rfl _ _ rfl w.heap.size _ [] rfl (by exact HO.out) _ l rfl (by exact HB2.out) (by rw [HN.out]; simp; omega) (by rw [hsz]; omega) ?_; intro v1 w2 ho hgr; have HL2 := hidOf2 (HL.out.grown hgr (by rw [hsz]; omega) (fun k e => own_lt HO.out k e)); have hNS := NewSender_long v1 l w2 (bytes_of_own ho) (by rw [HN.out]; exact hlong) (by rw [HN.out]; omega); clear ho hgr) | (go_at_call 6; refine hNS.mono ?_; rintro e w3 ⟨rfl, hw3⟩; rw [hw3]; clear hw3 w3))
    have hV := HLV.out w2
    go_wp2_with (first | (go_at_call 7; refine hV.mono ?_; rintro e w4 ⟨rfl, b4⟩))
    go_ret
    exact ⟨rfl, HL2.out.trans (b4.mono HL2.out.size)⟩
  · have d1 : decide ((65536 : Int) < (n : Int)) = false := by simp; omega
    have hn6 : l.length ≤ 65536 := by rw [HN.out]; omega
    obtain ⟨fz, L0, s1, hL0, hfz, hs1, hf0, hf1, hBg, hDg⟩ := begins12 l hn6 z
    have HBG := hidOf2 hBg
    have HDG := hidOf2 hDg
    have HN6 := hidOf2 hn6
    have HS1 := hidOf2 hs1
    have HF0 := hidOf2 hf0
    have HF1 := hidOf2 hf1
    have HL0 := hidOf2 hL0
    clear hBg hDg hn6 hs1 hf0 hf1 hL0
    go_enter Try.func3, Try.ntmps3
    go_upto_region 2 with (first | (at_builtin; refine append_bytes rfl _ _ rfl w.heap.size _ [] rfl (by exact HO.out) _ l rfl (by exact HB2.out) (by rw [HN.out]; simp; omega) (by rw [hsz]; omega) ?_; intro v1 w2 ho hgr; have HL2 := hidOf2 (HL.out.grown hgr (by rw [hsz]; omega) (fun k e => own_lt HO.out k e)); have hNS := NewSender_any v1 l w2 (bytes_of_own ho) (by rw [HN.out]; omega); clear ho hgr) | (go_at_call 6; refine hNS.mono ?_; rintro e w3 ⟨S, aS, cS, rfl, s3, hS3, _, b3⟩))
    have hF := sFeed_any s3 (Sn.new_ok l HN6.out) f29
    rw [show sFeed (Sn.new l) f29 = ([], Sn.new l) from rfl] at hF
    unfold SPost at hF
    rw [f29_arr] at hF
    have HSw := hidOf2 (Nat.le_trans HL2.out.size hS3)
    have HB3 := hidOf2 (HL2.out.trans (b3.mono HL2.out.size))
    clear hNS s3 hS3 b3
    go_upto_region 6 with (first | (go_at_call 8; refine hF.mono ?_; rintro e w4 ⟨v4, a4, c4, rfl, l4, s4, k4, _⟩; obtain ⟨a5, c5, hv5⟩ := l4.1.wide.shape; simp only [List.length_nil] at hv5; subst hv5; have HS4 := hidOf2 s4; have HB4 := hidOf2 (k4.below HB3.out HB3.out.size (fun b hb => by simp at hb; rw [hb]; exact HSw.out)); clear l4 s4 k4))
    have HX : Hid (∀ Z, Z = w4.alloc (.cells #[.slice ao n cap, .int .i64 0, .int .i64 0, .int .i64 0, .int .u32 0] 34) → Bh w S w4.heap.size l (Sn.new l) (Sn.new l) Z) := fun Z hZ => by
      subst hZ
      have bz : Below w4.heap.size w4 (w4.alloc (.cells #[.slice ao n cap, .int .i64 0, .int .i64 0, .int .i64 0, .int .u32 0] 34)) := (Below.refl _ _).alloc (Nat.le_refl _) _
      have bw := HB4.out.trans (bz.mono HB4.out.size)
      refine ⟨⟨_, _, HS4.out.below bz⟩, ⟨ao, cap, 0, 0, ⟨?_, ?_, HN6.out⟩, fun _ => ⟨rfl, rfl, rfl, rfl⟩⟩, bw, HSw.out, HB4.out.size⟩
      · rw [heap_alloc_new]
        simp [dsA, Sn.new, HN.out]
      · rw [HN.out]
        exact HB.out.below bw
    go_upto_region 7 with fail
    obtain ⟨W, hW⟩ : ∃ W, w4.alloc (.cells #[.slice ao n cap, .int .i64 0, .int .i64 0, .int .i64 0, .int .u32 0] 34) = W := ⟨_, rfl⟩
    rw [hW]
    have hW0 := HX.out W hW.symm
    obtain ⟨D, hD⟩ : ∃ D, w4.heap.size = D := ⟨_, rfl⟩
    rw [hD] at hW0
    try rw [hD]
    have hBg := HBG.out _ _ _ _ hW0
    have HDlt := hidOf2 hW0.dlt
    clear HX hW hW0 HS4 HB4 HBG hF HB3 HO HL HB2 HB HL2 hsz HSw hD
    go_upto_region 8 with (first | (go_at_call 9; refine hBg.mono ?_; rintro e w5 ⟨v5, rfl, l5, h5⟩))
    have hDg := HDG.out _ _ _ _ _ _ h5 l5 HDlt.out
    clear hBg l5 h5 HDG
    go_upto_region 9 with (first | (go_at_call 10; refine hDg.mono ?_; rintro e w6 ⟨v6, rfl, l6, l5, h6⟩))
    have hSm := same_any l5 l6 (by have := HL0.out; omega)
    have H6 := hidOf2 h6
    clear hDg l5 l6 h6
    go_upto_if 77 with (first | (go_at_call 11; refine hSm.mono ?_; rintro e w7 ⟨rfl, n7, hw7⟩; rw [hw7]; clear hw7 w7))
    have H7 : Hid (Bh w S D l s1 s1 (w6.drewN n7)) := H6.out.drawn n7
    generalize w6.drewN n7 = w7 at *
    clear hSm H6
    go_cut [2] (fun s2 wx => wx = w7 ∧ ∃ (A : List F8) (ap : Option Addr) (m cq : Nat), s2 = .slice ap m cq ∧ A.length = m ∧ m ≤ 3000 ∧ Wide 8 F8.c w (.slice ap m cq) A)
    case first =>
      by_cases h3 : 3000 < na
      · have d2 : decide ((3000 : Int) < (na : Int)) = true := by simp; omega
        have hc3 : 3000 ≤ ca := by omega
        go_wp2_with fail
        go_meet
        case rel => exact ⟨rfl, la.take 3000, aa, 3000, ca, rfl, by rw [List.length_take, HNA.out]; omega, by omega, wide_take HWA.out 3000 (by omega)⟩
      · have d2 : decide ((3000 : Int) < (na : Int)) = false := by simp; omega
        go_wp2_with fail
        go_meet
        case rel => exact ⟨rfl, la, aa, na, ca, rfl, HNA.out, by omega, HWA.out⟩
    case rest =>
    obtain ⟨hwx, A, ap, m, cq, rfl, hAm, hm3, hWA2⟩ := hcut
    rw [hwx]
    clear hwx
    have HAM := hidOf2 hAm
    have HA2 : Hid (∀ y, Below w.heap.size w y → ∀ k (hk : k < A.length), ∃ b off, ap = some ⟨b, off, none⟩ ∧ ∀ y', Below w.heap.size w y' → y'.rangeAt b (off + k * 8) A[k].c) := fun y hy k hk => by
      obtain ⟨ao', cap', he, _, hc⟩ := hWA2
      injection he with he
      obtain ⟨b, off, ha, hlt, hr⟩ := hc k hk
      exact ⟨b, off, he.trans ha, fun y' hy' j u hj => (hy'.cell (p := ⟨b, off + k * 8 + j, none⟩) hlt).trans (hr j u hj)⟩
    clear hAm hWA2 HWA HNA hla hca
    go_upto_region 14 with fail
    go_loopw [14] (fun iv wr => ∃ (k : Nat) (s : Sn), k ≤ m ∧ iv = .int .i64 k ∧ Hid (s.Ok) ∧ Hid (Bh w S D l s s wr) ∧ Hid (fz = 0 → s.st ≠ 0) ∧ Hid (fz = 1 → s = Sn.new l)) (fun iv _ => m - (intOf iv).toNat)
    case atStart => exact ⟨0, s1, by omega, rfl, HS1, H7, HF0, HF1⟩
    case round =>
      obtain ⟨k, s, hk, rfl, HSO, HBH, HZ0, HZ1⟩ := hrel
      clear H7 HS1 HF0 HF1 HL0
      by_cases hkm : k < m
      · have d3 : decide ((k : Int) < (m : Int)) = true := by simp; omega
        obtain ⟨b, off, hap, hrg⟩ := HA2.out wr HBH.out.old k (by rw [HAM.out]; exact hkm)
        obtain ⟨fa, hfa⟩ : ∃ f, A[k]'(by rw [HAM.out]; exact hkm) = f := ⟨_, rfl⟩
        rw [hfa] at hrg
        subst hap
        have HRG := hidOf2 hrg
        have hlen := sFeed_len s fa
        obtain ⟨LL, s2, hLs⟩ : ∃ L s2, sFeed s fa = (L, s2) := ⟨_, _, rfl⟩
        have HOK2 : Hid s2.Ok := by have := sFeed_ok s fa HSO.out; rw [hLs] at this; exact this
        have HST2 : Hid (s.st ≠ 0 → s2.st ≠ 0) := fun h => by have := sFeed_st s fa h; rw [hLs] at this; exact this
        have HNW2 : Hid (s = Sn.new l → s2 = Sn.new l) := fun h => by
          have := sFeed_st0 s fa (by rw [h]; rfl)
          rw [hLs] at this
          rw [← h]
          exact this
        rw [hLs] at hlen
        have HLS := hidOf2 hLs
        have hlen2 : LL.length ≤ 127 := hlen
        clear hrg hfa hLs hlen
        go_upto_region 16 with fail
        have HB16 : Hid (Bh w S D l s s wr.drew) := HBH.out.drawn 1
        have S0 : (fun y : World => Below w.heap.size w y) wr.drew := HB16.out.old
        refine wp_region_held (S := fun y : World => Below w.heap.size w y) (by kernel_rfl) ?_
        change wpAnyH _ _ _ _ _ _ _ _ wr.drew
        refine wpAnyH_take (i := 0) (v := (.pointer (some ⟨S, 0, none⟩))) rfl (by kernel_rfl) (by kernel_rfl) (by kernel_rfl) (fun _ _ _ h => h) (.inl ⟨rfl, fun _ hS => rfl⟩) S0 ?_
        simp only [List.getElem_toArray, List.getElem_cons_succ, List.getElem_cons_zero, Act.put, List.setIfInBounds_toArray, List.set_cons_succ, List.set_cons_zero]
        refine wpAnyH_take (i := 1) (v := (.slice (some ⟨b, off, none⟩) m cq)) rfl (by kernel_rfl) (by kernel_rfl) (by kernel_rfl) (fun _ _ _ h => h) (.inl ⟨rfl, fun _ hS => rfl⟩) S0 ?_
        simp only [List.getElem_toArray, List.getElem_cons_succ, List.getElem_cons_zero, Act.put, List.setIfInBounds_toArray, List.set_cons_succ, List.set_cons_zero]
        refine wpAnyH_take (i := 2) (v := (.int .i64 (k : Int))) rfl (by kernel_rfl) (by kernel_rfl) (by kernel_rfl) (fun _ _ _ h => h) (.inl ⟨rfl, fun _ hS => rfl⟩) S0 ?_
        simp only [List.getElem_toArray, List.getElem_cons_succ, List.getElem_cons_zero, Act.put, List.setIfInBounds_toArray, List.set_cons_succ, List.set_cons_zero]
        refine wpAnyH_take (i := 3) (v := (.pointer (some ⟨b, off + k * 8, none⟩))) rfl (by kernel_rfl) (by kernel_rfl) (by kernel_rfl) (fun _ _ _ h => h) (.inl ⟨rfl, fun _ hS => exec_idxF rfl rfl rfl hkm _⟩) S0 ?_
        simp only [List.getElem_toArray, List.getElem_cons_succ, List.getElem_cons_zero, Act.put, List.setIfInBounds_toArray, List.set_cons_succ, List.set_cons_zero]
        refine wpAnyH_take (i := 4) (v := (.agg fa.arr)) rfl (by kernel_rfl) (by kernel_rfl) (by kernel_rfl) (fun _ _ _ h => h) (.inl ⟨rfl, fun _ hS => exec_load rfl rfl (load_mid8 (HRG.out _ hS))⟩) S0 ?_
        simp only [List.getElem_toArray, List.getElem_cons_succ, List.getElem_cons_zero, Act.put, List.setIfInBounds_toArray, List.set_cons_succ, List.set_cons_zero]
        refine wpAnyH_take (i := 6) (v := (.pointer (some ⟨D, 0, none⟩))) rfl (by kernel_rfl) (by kernel_rfl) (by kernel_rfl) (fun _ _ _ h => h) (.inl ⟨rfl, fun _ hS => rfl⟩) S0 ?_
        simp only [List.getElem_toArray, List.getElem_cons_succ, List.getElem_cons_zero, Act.put, List.setIfInBounds_toArray, List.set_cons_succ, List.set_cons_zero]
        refine wpAnyH_take (i := 7) (v := (.slice (some ⟨b, off, none⟩) m cq)) rfl (by kernel_rfl) (by kernel_rfl) (by kernel_rfl) (fun _ _ _ h => h) (.inl ⟨rfl, fun _ hS => rfl⟩) S0 ?_
        simp only [List.getElem_toArray, List.getElem_cons_succ, List.getElem_cons_zero, Act.put, List.setIfInBounds_toArray, List.set_cons_succ, List.set_cons_zero]
        refine wpAnyH_take (i := 8) (v := (.int .i64 (k : Int))) rfl (by kernel_rfl) (by kernel_rfl) (by kernel_rfl) (fun _ _ _ h => h) (.inl ⟨rfl, fun _ hS => rfl⟩) S0 ?_
        simp only [List.getElem_toArray, List.getElem_cons_succ, List.getElem_cons_zero, Act.put, List.setIfInBounds_toArray, List.set_cons_succ, List.set_cons_zero]
        refine wpAnyH_take (i := 9) (v := (.pointer (some ⟨b, off + k * 8, none⟩))) rfl (by kernel_rfl) (by kernel_rfl) (by kernel_rfl) (fun _ _ _ h => h) (.inl ⟨rfl, fun _ hS => exec_idxF rfl rfl rfl hkm _⟩) S0 ?_
        simp only [List.getElem_toArray, List.getElem_cons_succ, List.getElem_cons_zero, Act.put, List.setIfInBounds_toArray, List.set_cons_succ, List.set_cons_zero]
        refine wpAnyH_take (i := 10) (v := (.agg fa.arr)) rfl (by kernel_rfl) (by kernel_rfl) (by kernel_rfl) (fun _ _ _ h => h) (.inl ⟨rfl, fun _ hS => exec_load rfl rfl (load_mid8 (HRG.out _ hS))⟩) S0 ?_
        simp only [List.getElem_toArray, List.getElem_cons_succ, List.getElem_cons_zero, Act.put, List.setIfInBounds_toArray, List.set_cons_succ, List.set_cons_zero]
        refine wpAnyH_all (rs := [5]) (by kernel_rfl) (by simp) ?_
        intro k hk
        simp only [List.mem_cons, List.mem_nil_iff, or_false] at hk
        subst hk
        refine wpOp_run rfl rfl (wp_call_fn 8 #[.pointer (some ⟨S, 0, none⟩), .agg fa.arr] (by simp [execOp, go_sem, Act.eval, resolve, invoke, enSF]) ?_)
        refine (HB16.out.feed1 HSO.out fa).mono ?_
        rw [HLS.out]
        rintro e u1 ⟨v1, rfl, hl1, hb1⟩
        have c1 := hb1.old
        have hd1 := HB16.out.dlt
        refine ⟨c1, ?_⟩
        simp only [List.getElem_toArray, List.getElem_cons_succ, List.getElem_cons_zero, Act.put, List.setIfInBounds_toArray, List.set_cons_succ, List.set_cons_zero]
        refine wpAnyH_all (rs := [11]) (by kernel_rfl) (by simp) ?_
        intro k hk
        simp only [List.mem_cons, List.mem_nil_iff, or_false] at hk
        subst hk
        refine wpOp_run rfl rfl (wp_call_fn 12 #[.pointer (some ⟨D, 0, none⟩), .agg fa.arr] (by simp [execOp, go_sem, Act.eval, resolve, invoke, enDF]) ?_)
        refine (hb1.feed2 HSO.out fa LL s2 HLS.out _ v1 hl1 hd1).mono ?_
        rintro e u2 ⟨v2, rfl, hl2, hl3, hb2⟩
        have c2 := hb2.old
        have HU2 := hidOf2 hb2
        refine ⟨c2, ?_⟩
        simp only [List.getElem_toArray, List.getElem_cons_succ, List.getElem_cons_zero, Act.put, List.setIfInBounds_toArray, List.set_cons_succ, List.set_cons_zero]
        refine wpAnyH_all (rs := [12]) (by kernel_rfl) (by simp) ?_
        intro k hk
        simp only [List.mem_cons, List.mem_nil_iff, or_false] at hk
        subst hk
        refine wpOp_run rfl rfl (wp_call_fn 11 #[v1, v2] (by simp [execOp, go_sem, Act.eval, resolve, invoke, enSame]) ?_)
        refine (same_any hl3 hl2 (by omega)).mono ?_
        rintro e u3 ⟨rfl, n3, hu3⟩
        rw [hu3]
        clear hu3 u3
        have c3 : Below w.heap.size w (u2.drewN n3) := bdr c2 n3
        refine ⟨c3, ?_⟩
        simp only [List.getElem_toArray, List.getElem_cons_succ, List.getElem_cons_zero, Act.put, List.setIfInBounds_toArray, List.set_cons_succ, List.set_cons_zero]
        refine wpAnyH_take (i := 13) (v := (.bool false)) rfl (by kernel_rfl) (by kernel_rfl) (by kernel_rfl) (fun _ _ _ h => h) (.inl ⟨rfl, fun _ hS => exec_notT (t := 0) rfl rfl _⟩) c3 ?_
        simp only [List.getElem_toArray, List.getElem_cons_succ, List.getElem_cons_zero, Act.put, List.setIfInBounds_toArray, List.set_cons_succ, List.set_cons_zero]
        refine wpAnyH_done (by kernel_rfl) ?_ _
        have H20 : Hid (Bh w S D l s2 s2 (u2.drewN n3)) := HU2.out.drawn n3
        generalize u2.drewN n3 = wk at *
        obtain ⟨aq, cr, hp⟩ := H20.out.p
        have hDn := sDone_any hp
        have HC3 : Hid (∀ n, ∃ ad cq at0 many, Dd D l ad cq at0 many s2.st s2.cd (wk.drewN n)) := fun n => by
          obtain ⟨ad, cq', at0, many, hd, _⟩ := H20.out.d
          exact ⟨ad, cq', at0, many, hd.drawn n⟩
        clear hp S0 HB16 HU2
        obtain ⟨bb, hbb⟩ : ∃ b, decide (s2.st = 3) = b := ⟨_, rfl⟩
        rw [hbb] at hDn
        have hbI : ((s2.st : Int) == 3) = bb := by rw [← hbb, Bool.eq_iff_iff]; simp; omega
        have hbx : (bb != bb) = false := by simp
        clear hbb
        go_upto_region 19 with (first | (go_at_call 13; refine hDn.mono ?_; rintro e w9 ⟨rfl, n9, hw9⟩; rw [hw9]; clear hw9 w9))
        obtain ⟨ad, cq', at0, many, hd9⟩ := HC3.out n9
        have y3 := hd9.c3
        have y4 := hd9.c4
        clear hd9 HC3 hDn
        have HBN : Hid (Bh w S D l s2 s2 (wk.drewN n9)) := H20.out.drawn n9
        generalize wk.drewN n9 = wz at *
        go_wp2
        go_roundw
        case rel => exact ⟨k + 1, s2, by omega, by go_num, HOK2, HBN, hidOf2 (fun h => HST2.out (HZ0.out h)), hidOf2 (fun h => HNW2.out (HZ1.out h))⟩
        case measure => simp [intOf]; omega
      · have d3 : decide ((k : Int) < (m : Int)) = false := by simp; omega
        obtain ⟨aq, cr, hp⟩ := HBH.out.p
        by_cases hst : s.st = 0
        · have hf1 : fz = 1 := by
            rcases Nat.lt_or_ge fz 1 with h | h
            · exact absurd hst (HZ0.out (by omega))
            · omega
          have hs := HZ1.out hf1
          subst hf1
          rw [hs] at hp
          have hBb := sBegin_any (t := Sn.new l) hp 1 (by decide) (by decide)
          have HBO := hidOf2 HBH.out.old
          have HSW := hidOf2 HBH.out.sw
          have hbl : 1 ≤ (blkF (Sn.new l).bs 0 1).length := by
            rw [blkF_len]
            have := segs_pos (Sn.new l).bs.length
            omega
          obtain ⟨mm, hmm⟩ : ∃ m, (blkF (Sn.new l).bs 0 1).length = m := ⟨_, rfl⟩
          have HMM := hidOf2 hmm
          rw [hmm] at hbl
          have dm : ((mm : Int) == 0) = false := by simp; omega
          clear hp hs HBH hmm
          go_upto_region 22 with (first | (go_at_call 9; refine hBb.mono ?_; rintro e w9 ⟨v9, rfl, l9, s9, k9⟩; obtain ⟨a9, c9, hv9⟩ := l9.1.wide.shape; rw [HMM.out] at hv9; subst hv9; have HK9 := hidOf2 (k9.below HBO.out HBO.out.size (fun b hb => by simp at hb; rw [hb]; exact HSW.out)); clear l9 s9 k9))
          have hV := HLV.out w9
          go_wp2_with (first | (go_at_call 7; refine hV.mono ?_; rintro e w4 ⟨rfl, b4⟩))
          go_ret
          exact ⟨rfl, HK9.out.trans (b4.mono HK9.out.size)⟩
        · have hBb := sBegin_state hp hst 1
          have HBO := hidOf2 HBH.out.old
          have hV := HLV.out wr
          clear hp HBH
          go_wp2_with (first | (go_at_call 9; refine hBb.mono ?_; rintro e w9 ⟨rfl, hw9⟩; rw [hw9]; clear hw9 w9) | (go_at_call 7; refine hV.mono ?_; rintro e w4 ⟨rfl, b4⟩))
          go_ret
          exact ⟨rfl, HBO.out.trans (b4.mono HBO.out.size)⟩
theorem ksnd_int (v : Value) (l : List UInt8) (w : World) (hB : Bytes w v l) (hl : l.length ≤ 140737488351232) (z : Int) (hz : (Lit.int .i64 z).wf = true) (va : Value) (la : List F8) (hWa : Wide 8 F8.c w va la) (hcap : ∀ ao n cap, va = .slice ao n cap → n ≤ cap) (hla : la.length * 8 ≤ 140737488351232) :
    Calls Try.prog 3 #[v, .int .i64 z, va] w fun e w' => e = .returned (.bool true) ∧ Below w.heap.size w w' := ksnd_walk v l w hB hl z (wf_i64_of hz) va la hWa hcap hla
end Go.Proofs.Ytebjofkblfmkmaa
