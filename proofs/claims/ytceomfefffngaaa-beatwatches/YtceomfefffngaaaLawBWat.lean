/- The law BeatWatches returns true whatever comes in. -/
import Derived.Test.YtceomfefffngaaaBwW
namespace Go.Proofs.Ytceomfefffngaaa
open Go.RowKit
set_option linter.unusedVariables false
set_option maxRecDepth 1000000
set_option linter.unusedSimpArgs false
theorem infoBo : (Try.prog.info? 4).map (fun i => (i.zero, i.size, i.bytes)) = some (some (.bool false), 1, 1) := by kernel_rfl
theorem enterRT : ∀ args x, (callFunc 16 args).run Try.prog x = .ok (.enter 16 args) x := fun _ _ => by rfl
theorem bwat_bad (lv : Value) (L : List Wq) (va : Value) (hL : L.length ≤ 8796093021952) (w : World) (hB : Wide 2 Wq.qs w lv L) (hc : chkW [] L ≠ 0) :
    Calls Try.prog 4 #[lv, va] w fun e w' => e = .returned (.bool true) ∧ Below w.heap.size w w' := by
  have HL := fun x => lives18_any x
  obtain ⟨p, hp⟩ : ∃ p, w.heap.size = p := ⟨_, rfl⟩
  obtain ⟨X0, hX0⟩ : ∃ X, w.alloc (.cells #[] 59) = X := ⟨_, rfl⟩
  have b0 : Below p w X0 := by rw [← hX0, ← hp]; exact (Below.refl _ _).alloc (Nat.le_refl _) _
  have HO : Hid (X0.ownsRow p 59 DQ.c (.slice (some ⟨p, 0, none⟩) 0 0) ([] : List Wq).length (flatW DQ [])) := by rw [← hX0, ← hp]; exact own_empty_e _ _ _
  have hLst : ∀ y, Below p w y → Wide 2 Wq.qs y lv L := fun y hy => hB.same hy.size (fun k _ hk => hy.block k (by omega))
  have HB2 : Hid (Wide 2 Wq.qs X0 lv L) := hLst X0 b0
  have hps : p ≤ X0.heap.size := by have := b0.size; omega
  have HB0 := hidOf2 b0
  have hCk := fun y hy => dcheck_any lv L y (hLst y hy) (by omega)
  have HN := fun (v' : Value) (x : World) (_ : Below p w x) (h : x.ownsRow p 59 DQ.c v' ([] ++ L).length (flatW DQ ([] ++ L))) => neww_none hc x v' (wide_of_own DQ (by simpa using h)) (by omega)
  rw [hp]
  have d0 : (chkW [] L != chkW [] L) = false := by simp
  have d1 : (chkW [] L == 0) = false := by simp [hc]
  have HC := hidOf2 hCk
  obtain ⟨ao, cap, rfl⟩ := hB.shape
  generalize chkW [] L = c at *
  clear hB hc b0 hLst hCk
  go_enter Try.func4, Try.ntmps4
  go_upto_region 2 with (first | (at_builtin; refine wpList_app DQ 36 59 _ 16 Try.underlying36 infoWq rfl rfl _ _ rfl p _ [] rfl (by exact HO.out) _ L rfl (by exact HB2.out) (by simp only [List.length_nil, maxLen]; omega) (by simp only [List.length_nil]; omega) hps ?_; intro v1 w1 a1 a2; have B1 := hidOf2 (HB0.out.grown a2 hps (fun j hj => by have hj : some p = some j := hj; injection hj; omega)); have hN := HN v1 w1 B1.out a1; clear a1 a2) | (go_at_call 13; refine hN.mono ?_; rintro e y1 ⟨rfl, b1⟩))
  have B2 : Below p w y1 := below_low B1.out b1 (by have := B1.out.size; omega)
  have hsz : p ≤ y1.heap.size := by have := B1.out.size; have := b1.size; omega
  have hC1 := HC.out y1 B2
  clear hN b1 HO HB2 hX0 HN HC
  go_upto_region 3 with (go_at_call 14; with_reducible refine hC1.mono ?_; rintro e y2 ⟨rfl, b2⟩)
  have B3 : Below p w y2 := below_low B2 b2 hsz
  have hsz2 : p ≤ y2.heap.size := by have := b2.size; omega
  clear hC1 b2 B2 hsz
  go_wp2_with (go_at_call 10; refine (HL _).mono ?_; rintro e w2 ⟨rfl, b2⟩)
  go_ret
  exact ⟨rfl, below_low B3 b2 hsz2⟩
set_option maxHeartbeats 16000000 in
theorem bwat_ok (lv : Value) (L : List Wq) (va : Value) (AA : List A18) (hL : L.length ≤ 8796093021952) (w : World) (hB : Wide 2 Wq.qs w lv L) (hbA : Wide 3 A18.c w va AA) (hA : AA.length ≤ 140737488351232 ∧ ∀ a ∈ AA, a.ok w) (hc : chkW [] L = 0) :
    Calls Try.prog 4 #[lv, va] w fun e w' => e = .returned (.bool true) ∧ Below w.heap.size w w' := by
  have HL := fun x => lives18_any x
  obtain ⟨p, hp⟩ : ∃ p, w.heap.size = p := ⟨_, rfl⟩
  obtain ⟨X0, hX0⟩ : ∃ X, w.alloc (.cells #[] 59) = X := ⟨_, rfl⟩
  have b0 : Below p w X0 := by rw [← hX0, ← hp]; exact (Below.refl _ _).alloc (Nat.le_refl _) _
  have HO : Hid (X0.ownsRow p 59 DQ.c (.slice (some ⟨p, 0, none⟩) 0 0) ([] : List Wq).length (flatW DQ [])) := by rw [← hX0, ← hp]; exact own_empty_e _ _ _
  have hLst : ∀ y, Below p w y → Wide 2 Wq.qs y lv L := fun y hy => hB.same hy.size (fun k _ hk => hy.block k (by omega))
  have HB2 : Hid (Wide 2 Wq.qs X0 lv L) := hLst X0 b0
  have hps : p ≤ X0.heap.size := by have := b0.size; omega
  have HB0 := hidOf2 b0
  have hCk := fun y hy => dcheck_any lv L y (hLst y hy) (by omega)
  have HN := fun (v' : Value) (x : World) (hb : Below p w x) (h : x.ownsRow p 59 DQ.c v' ([] ++ L).length (flatW DQ ([] ++ L))) => Lw.new hc w x p hb (by have := hb.size; omega) v' (wide_of_own DQ (by simpa using h)) (by omega)
  rw [hp]
  have HLS := hidOf2 hLst
  have hO0 := chkW_good hc
  have HO0 := hidOf2 hO0
  have hlen : L.length ≤ 127 := by have := hO0.len; simpa using this
  rw [hc] at hCk
  have HC0 := hidOf2 hCk
  obtain ⟨ao, cap, rfl⟩ := hB.shape
  obtain ⟨aa, ca, rfl, _, hwA⟩ := hbA
  have HC : Hid (∀ (wr : World), Below p w wr → ∀ k (hk : k < AA.length), ∃ b off, aa = some ⟨b, off, none⟩ ∧ b < p ∧ wr.rangeAt b (off + k * 3) (A18.c AA[k])) := fun wr hb k hk => by have := Wide.at hwA (by rw [hp]; exact hb) k hk; rwa [hp] at this
  have HOK : Hid (∀ k (hk : k < AA.length), AA[k].ok w) := fun k hk => hA.2 _ (List.getElem_mem hk)
  have hA1 := hA.1
  obtain ⟨N, hN0⟩ : ∃ N, L.length = N := ⟨_, rfl⟩
  have HN0 := hidOf2 hN0
  obtain ⟨i0, hi, hz0, hz1, hz2⟩ := info_parts infoSn
  obtain ⟨i1, hi1, hy0, hy1, hy2⟩ := info_parts infoBo
  rw [hN0] at HB2 HLS HC0 hL hlen ⊢
  clear hwA b0 hA hc hB hLst hCk hO0
  go_enter Try.func4, Try.ntmps4
  go_upto_region 2 with (first | (at_builtin; refine wpList_app DQ 36 59 _ 16 Try.underlying36 infoWq rfl rfl _ _ rfl p _ [] rfl (by exact HO.out) _ L rfl (by exact HB2.out) (by simp only [List.length_nil, maxLen]; omega) (by simp only [List.length_nil]; omega) hps ?_; intro v1 w1 a1 a2; have B1 := hidOf2 (HB0.out.grown a2 hps (fun j hj => by have hj : some p = some j := hj; injection hj; omega)); have hN := HN v1 w1 B1.out a1; clear a1 a2) | (go_at_call 13; refine hN.mono ?_; rintro e y1 ⟨v3, rfl, W1, hv3, b1⟩))
  obtain ⟨g, hg⟩ : ∃ g, w1.heap.size = g := ⟨_, rfl⟩
  rw [hg] at W1 hv3 ⊢
  have hC1 := HC0.out y1 W1.bl
  clear hN b1 HO HB2 hX0 HN HB0 B1 hps hv3 HC0
  go_upto_region 3 with (go_at_call 14; with_reducible refine hC1.mono ?_; rintro e y2 ⟨rfl, b2⟩)
  have W2 := W1.below b2
  clear hC1 b2 W1
  have hsz2 := W2.sz
  go_upto_region 8 with (at_make; refine wpList_make_full _ rfl _ _ 43 rfl p 87 i0 (.agg #[.int .i64 0, .int .i64 0, .int .u64 0]) 3 Try.underlying43 hi hz0 hz1 .i64 .i64 (N : Int) (N : Int) N rfl rfl rfl rfl (by rw [hz2]; omega) (by unfold maxLen; omega) hsz2 ?_; intro y3 a1 a2; have HR3 := hidOf2 a1; have HG3 := hidOf2 a2; clear a1 a2)
  obtain ⟨sb, hsb⟩ : ∃ s, y2.heap.size = s := ⟨_, rfl⟩
  rw [hsb] at HR3 ⊢
  obtain ⟨y4, hy4⟩ : ∃ y, y3.alloc (.cells #[.slice ao N cap, .slice (some ⟨sb, 0, none⟩) N N] 45) = y := ⟨_, rfl⟩
  obtain ⟨gd, hgd⟩ : ∃ g, y3.heap.size = g := ⟨_, rfl⟩
  have C4 : Bc 45 gd #[.slice ao N cap, .slice (some ⟨sb, 0, none⟩) N N] y4 := by rw [← hy4, ← hgd]; exact heap_alloc_new y3 _
  have b4 : Below y3.heap.size y3 y4 := by rw [← hy4]; exact (Below.refl _ _).alloc (Nat.le_refl _) _
  have hs4 : Hid (y4.heap.size = gd + 1) := by show _ = _; rw [← hy4, ← hgd]; simp
  have hs3 : sb < y3.heap.size := (own_lt2 HR3.out rfl).2
  have W3 : Lw w p g v3 (L.map Wt.of) y3 := W2.grown HG3.out (fun k hk => by cases hk) (by simp) (fun k _ => by simp)
  have W4 := W3.below b4
  have R4 : y4.ownsRow p 87 3 (.slice (some ⟨sb, 0, none⟩) N N) N _ := own_belowE HR3.out b4
  have hvl : ∀ k, v3.ownBlock = some k → k < sb := fun k hk => by have := W2.own_lt hk; omega
  have hgl : g < sb := by have := W2.lt; omega
  have hpb : p ≤ sb := by omega
  have HS := hidOf2 (And.intro hvl (And.intro hgl (And.intro hpb (show sb < gd by omega))))
  rw [hgd]
  clear W2 W3 HR3 HG3 b4 hvl hgl hpb hs3 hgd
  go_upto_region 9 with (at_make; refine wpList_make_row _ rfl _ _ 46 rfl 4 i1 (.bool false) Try.underlying46 hi1 hy0 hy1 rfl .i64 .i64 128 rfl rfl (by rw [hy2]; omega) (by omega) ?_)
  obtain ⟨tb, htb⟩ : ∃ s, y4.heap.size = s := ⟨_, rfl⟩
  obtain ⟨y5, hy5⟩ : ∃ y, y4.alloc (.cells (madeCells #[.bool false] 128) 4) = y := ⟨_, rfl⟩
  have C5 : Bc 4 tb (madeCells #[.bool false] 128) y5 := by rw [← hy5, ← htb]; exact heap_alloc_new y4 _
  have b5 : Below y4.heap.size y4 y5 := by rw [← hy5]; exact (Below.refl _ _).alloc (Nat.le_refl _) _
  have D : WD p g v3 gd (.slice (some ⟨sb, 0, none⟩) N N) tb := by
    obtain ⟨h1, h2, h3, h4⟩ := HS.out
    have h5 := hs4.out
    exact ⟨fun e => by have := h1 _ e; omega, fun k hk e => by have hk : some sb = some k := hk; injection hk with hk; have := h1 _ e; omega, fun e => by have := h1 _ e; omega, fun e => by have e : some sb = some g := e; injection e with e; omega, fun e => by have e : some sb = some tb := e; injection e with e; omega, by omega, by omega, by omega⟩
  have I0 : WA w p g v3 gd (.slice ao N cap) (.slice (some ⟨sb, 0, none⟩) N N) L tb (L.map Wt.of) (L.map Wt.of) (madeCells #[.bool false] 128) y5 := by
    obtain ⟨h1, h2, h3, h4⟩ := HS.out
    have W5 := W4.below b5
    refine ⟨W5, ⟨C4.below b5, ?_, HO0.out, by rw [List.map_map]; exact List.map_id _, fun k hk => by have hk : some sb = some k := hk; injection hk with hk; omega, by omega, W5.bl, W5.sz, HLS.out⟩, C5⟩
    have R5 := own_lower (own_belowE R4 b5) (Nat.zero_le _)
    have e := made_seen L
    rw [HN0.out] at e
    rw [e] at R5
    rw [List.length_map, HN0.out]
    exact R5
  have HT0 : Hid ((madeCells #[Value.bool false] 128).size = 128 ∧ ∀ c ∈ (L.map Wt.of).map Wt.nd, (madeCells #[Value.bool false] 128)[c.toNat]? = some (.bool (isW (L.map Wt.of) c))) := by
    refine ⟨by simp [size_madeCells], fun c hc => ?_⟩
    obtain ⟨z, hz, rfl⟩ := List.mem_map.1 hc
    obtain ⟨R, hR, rfl⟩ := List.getElem_of_mem hz
    rw [isW_at HO0.out hR]
    have hk := HO0.out.ok _ hz
    have e0 : (L.map Wt.of)[R].is = 0 := by simp [Wt.of]
    rw [e0]
    have h3 := hk.n0
    have h4 := hk.n1
    have hmz : (madeCells #[Value.bool false] 128).size = 128 := by simp [size_madeCells]
    rw [Array.getElem?_eq_getElem (by rw [hmz]; omega)]
    simp [madeCells, Nat.mod_one]
  have HI := hidOf2 I0
  have HD := hidOf2 D
  rw [htb, hy5]
  generalize madeCells #[Value.bool false] 128 = A0 at *
  clear W4 R4 C4 C5 b5 D I0 HS hs4 hy4 hy5 htb hsb HO0 hsz2 hi hz0 hz1 hz2 hi1 hy0 hy1 hy2
  obtain ⟨M, hM⟩ : ∃ M, AA.length = M := ⟨_, rfl⟩
  have HM := hidOf2 hM
  rw [hM] at hA1 ⊢
  clear hM
  go_wp2_with fail
  go_loopw [10] (fun s10 x => ∃ k l B, k ≤ M ∧ s10 = .int .i64 (k : Nat) ∧ WA w p g v3 gd (.slice ao N cap) (.slice (some ⟨sb, 0, none⟩) N N) L tb l l B x ∧ B.size = 128 ∧ ∀ c ∈ l.map Wt.nd, B[c.toNat]? = some (.bool (isW l c))) (fun s10 _ => M - (intOf s10).toNat)
  case atStart => exact ⟨0, _, _, by omega, rfl, HI.out, HT0.out⟩
  case round =>
    clear HI HT0
    obtain ⟨k, l, B, hk, rfl, hJ, hTB⟩ := hrel
    have D := HD.out
    have hsp := hJ.a.sz
    by_cases hkl : k < M
    · have hd : decide ((k : Int) < (M : Int)) = true := by simp; omega
      have hkA : k < AA.length := by rw [HM.out]; exact hkl
      obtain ⟨b, off, rfl, hb, hRa⟩ := HC.out wr hJ.a.bl k hkA
      have HX : Hid (∀ z, Below p w z → z.rangeAt b (off + k * 3) (A18.c AA[k])) := fun z hz => by
        obtain ⟨b', off', e, _, h9⟩ := HC.out z hz k hkA
        injection e with e; injection e with e1 e2; subst e1; subst e2
        exact h9
      have ha := HOK.out k hkA
      generalize AA[k] = a at *
      obtain ⟨tk, n, bv, bl⟩ := a
      obtain ⟨hnb, hbv, hbl⟩ := ha
      simp only at hnb hbv hbl
      have HBy : Hid (∀ x, Below p w x → Bytes x bv bl) := fun x hx => hbv.below (by rw [hp]; exact hx)
      obtain ⟨ab, cb, hbv2, _⟩ := hbv
      subst hbv2
      have HK : Hid (∀ z, Below p w z → z.cell? ⟨b, off + k * 3 + 1, none⟩ = some (.int .i64 n) ∧ z.cell? ⟨b, off + k * 3 + 2, none⟩ = some (.slice ab bl.length cb)) := fun z hz => ⟨(A18.cells (HX.out z hz)).2.1, (A18.cells (HX.out z hz)).2.2⟩
      have r0 := (A18.cells hRa).1
      simp only at r0
      have hO := hJ.a.ok
      have hln := hO.len
      have hln2 := tellsW_le l
      have HNT := hidOf2 (NsOk.tick hO)
      have HNB := hidOf2 (NsOk.take hO n bl)
      have HTH := hidOf2 hTB
      have HOl := hidOf2 hO
      clear hRa HX hTB hO
      cases tk
      · -- a tick
        have hT1 := hJ.tick1 D
        go_upto_region 14 with fail
        go_upto_region 17 with fail
        go_upto_region 18 with (first | (go_at_call 17; with_reducible refine hT1.mono ?_; rintro e z1 ⟨a1, c1, rfl, N1, J1⟩; have hT2 := J1.tick2 D N1) | (go_at_call 18; with_reducible refine hT2.mono ?_; rintro e z2 ⟨a2, c2, rfl, N2, J2, N1'⟩))
        have HT := hidOf2 J2
        have HNS := hidOf2 HNT.out
        have HEQ : Hid ((tickW l).map Wt.nd = l.map Wt.nd) := tickW_nd l
        have hlen2 : (tellsW l).length ≤ 1000 := by omega
        have HN1 := hidOf2 N1'
        have HN2 := hidOf2 N2
        clear hT1 hT2 J1 J2 N1 N1' N2 hln2 hln HNB HNT D hJ r0 HK HBy HC HOK
        generalize tickW l = L2 at *
        generalize tellsW l = ll at *
        generalize wr.heap.size = P1 at *
        have hS := same_eq _ _ ll z2 (wide_of_own DN HN1.out) (wide_of_own DN HN2.out) (by omega)
        go_upto_region 18 with fail
        go_upto_region 20 with (go_at_call 19; with_reducible refine hS.mono ?_; rintro e z9 ⟨rfl, b9⟩)
        have HT9 := hidOf2 (HT.out.below b9)
        have HN9 := hidOf2 (HN1.out.below b9)
        clear hS HT HN1 HN2 b9
        obtain ⟨NN, hNN⟩ : ∃ NN, ll.length = NN := ⟨_, rfl⟩
        have HNN := hidOf2 hNN
        rw [hNN] at hlen2 HN9 ⊢
        clear hNN
        go_wp2_with fail
        go_loopw [15] (fun s15 y => ∃ j A, j ≤ NN ∧ s15 = .int .i64 (j : Nat) ∧ WA w p g v3 gd (.slice ao N cap) (.slice (some ⟨sb, 0, none⟩) N N) L tb L2 L2 A y ∧ Nw P1 (.slice a1 NN c1) ll y ∧ Th l L2 ll j A) (fun s15 _ => NN - (intOf s15).toNat)
        case atStart => exact ⟨0, B, by omega, rfl, HT9.out, HN9.out, Th.start HTH.out.1 HTH.out.2⟩
        case round =>
          clear HT9 HN9
          obtain ⟨j, A, hj, rfl, hW, hNw, hTh⟩ := hrel
          by_cases hjN : j < NN
          · have hd3 : decide ((j : Int) < (NN : Int)) = true := by simp; omega
            have hjl : j < ll.length := by rw [HNN.out]; exact hjN
            obtain ⟨b5, o5, c5, h5, _, hRb⟩ := (wide_of_own DN hNw).at0 j hjl
            injection h5 with h51 h52 h53
            subst h51; subst h53; clear h52
            have hwh := HNS.out.wh _ (List.getElem_mem hjl)
            obtain ⟨C, hC, hC8, hAC, hth0⟩ := hTh.at HOl.out HNS.out hjl
            obtain ⟨X2, hX2⟩ : ∃ X, wr.alloc (.cells #[.int .i64 ll[j].nd, .int .i64 ll[j].wh, .int .i64 ll[j].st] 55) = X := ⟨_, rfl⟩
            have BX2 : Below wr.heap.size wr X2 := by rw [← hX2]; exact (Below.refl _ _).alloc (Nat.le_refl _) _
            obtain ⟨rb, hrb⟩ : ∃ r, wr.heap.size = r := ⟨_, rfl⟩
            have CX : Bc 55 rb #[.int .i64 ll[j].nd, .int .i64 ll[j].wh, .int .i64 ll[j].st] X2 := by rw [← hX2, ← hrb]; exact heap_alloc_new wr _
            have WX := hW.below BX2
            have NX := hNw.below BX2
            have hRb' : wr.rangeAt b5 (o5 + j * 3) (Ne.cs ⟨ll[j].nd, ll[j].wh, ll[j].st⟩) := hRb
            have q0 : X2.cell? ⟨rb, 0, none⟩ = some (.int .i64 ll[j].nd) := CX.cell 0
            have q1 : X2.cell? ⟨rb, 1, none⟩ = some (.int .i64 ll[j].wh) := CX.cell 1
            have tC : X2.cell? ⟨tb, C, none⟩ = some (.bool (isW l ll[j].nd)) := (WX.t.cell C).trans hAC
            have tF : X2.frozen? ⟨tb, C, none⟩ = false := WX.t.frozen C
            rw [hC] at q0 tC hX2 hRb' hwh
            generalize ll[j].st = zs at *
            generalize ll[j].wh = zw at *
            have hC0 : (0 : Int) ≤ (C : Int) := by omega
            have hC1 : (C : Int) < 128 := by omega
            clear hRb BX2 CX hW hNw hTh hAC hC
            go_upto_region 24 with (refine Ne.ld (a := ⟨(C : Nat), zw, zs⟩) hRb' rfl _ rfl rfl ?_; clear hRb'; unfold Ne.arr; simp only)
            clear hrb
            rcases hwh with rfl | ⟨rfl, hi⟩ | ⟨rfl, hi⟩ | ⟨rfl, hi⟩
            · have hth : Th l L2 ll (j + 1) (A.setIfInBounds C (.bool false)) := hth0
              obtain ⟨bq, hbq⟩ : ∃ q, isW l (C : Int) = q := ⟨_, rfl⟩
              rw [hbq] at tC
              clear hbq hth0
              obtain ⟨Y, hY⟩ : ∃ Y, X2.setCell ⟨tb, C, none⟩ (.bool false) = Y := ⟨_, rfl⟩
              have HE : Hid (WA w p g v3 gd (.slice ao N cap) (.slice (some ⟨sb, 0, none⟩) N N) L tb L2 L2 (A.setIfInBounds C (.bool false)) Y ∧ Nw P1 (.slice (some ⟨b5, o5, none⟩) NN c1) ll Y ∧ Th l L2 ll (j + 1) (A.setIfInBounds C (.bool false))) := by
                rw [← hY]
                exact ⟨WX.thr HD.out C _, Nw.thr WX C _ NX, hth⟩
              clear hth WX NX
              go_wp2_with fail
              go_roundw
              case rel => exact ⟨j + 1, _, by omega, rfl, HE.out.1, HE.out.2.1, HE.out.2.2⟩
              case measure => simp [intOf]; omega
            · have hth : Th l L2 ll (j + 1) (A.setIfInBounds C (.bool true)) := hth0
              rw [hi] at tC
              clear hi hth0
              obtain ⟨Y, hY⟩ : ∃ Y, X2.setCell ⟨tb, C, none⟩ (.bool true) = Y := ⟨_, rfl⟩
              have HE : Hid (WA w p g v3 gd (.slice ao N cap) (.slice (some ⟨sb, 0, none⟩) N N) L tb L2 L2 (A.setIfInBounds C (.bool true)) Y ∧ Nw P1 (.slice (some ⟨b5, o5, none⟩) NN c1) ll Y ∧ Th l L2 ll (j + 1) (A.setIfInBounds C (.bool true))) := by
                rw [← hY]
                exact ⟨WX.thr HD.out C _, Nw.thr WX C _ NX, hth⟩
              clear hth WX NX
              go_wp2_with fail
              go_roundw
              case rel => exact ⟨j + 1, _, by omega, rfl, HE.out.1, HE.out.2.1, HE.out.2.2⟩
              case measure => simp [intOf]; omega
            · have hth : Th l L2 ll (j + 1) (A.setIfInBounds C (.bool true)) := hth0
              rw [hi] at tC
              clear hi hth0
              obtain ⟨Y, hY⟩ : ∃ Y, X2.setCell ⟨tb, C, none⟩ (.bool true) = Y := ⟨_, rfl⟩
              have HE : Hid (WA w p g v3 gd (.slice ao N cap) (.slice (some ⟨sb, 0, none⟩) N N) L tb L2 L2 (A.setIfInBounds C (.bool true)) Y ∧ Nw P1 (.slice (some ⟨b5, o5, none⟩) NN c1) ll Y ∧ Th l L2 ll (j + 1) (A.setIfInBounds C (.bool true))) := by
                rw [← hY]
                exact ⟨WX.thr HD.out C _, Nw.thr WX C _ NX, hth⟩
              clear hth WX NX
              go_wp2_with fail
              go_roundw
              case rel => exact ⟨j + 1, _, by omega, rfl, HE.out.1, HE.out.2.1, HE.out.2.2⟩
              case measure => simp [intOf]; omega
            · have hth : Th l L2 ll (j + 1) (A.setIfInBounds C (.bool false)) := hth0
              rw [hi] at tC
              clear hi hth0
              obtain ⟨Y, hY⟩ : ∃ Y, X2.setCell ⟨tb, C, none⟩ (.bool false) = Y := ⟨_, rfl⟩
              have HE : Hid (WA w p g v3 gd (.slice ao N cap) (.slice (some ⟨sb, 0, none⟩) N N) L tb L2 L2 (A.setIfInBounds C (.bool false)) Y ∧ Nw P1 (.slice (some ⟨b5, o5, none⟩) NN c1) ll Y ∧ Th l L2 ll (j + 1) (A.setIfInBounds C (.bool false))) := by
                rw [← hY]
                exact ⟨WX.thr HD.out C _, Nw.thr WX C _ NX, hth⟩
              clear hth WX NX
              go_wp2_with fail
              go_roundw
              case rel => exact ⟨j + 1, _, by omega, rfl, HE.out.1, HE.out.2.1, HE.out.2.2⟩
              case measure => simp [intOf]; omega
          · obtain rfl : j = NN := by omega
            have hd3 : decide ((j : Int) < (j : Int)) = false := by simp
            have hT9 := hTh.done HNS.out (by have := HNN.out; omega) HEQ.out
            have HE := hidOf2 (And.intro hW hT9)
            clear hW hNw hTh hT9
            go_wp2_with fail
            go_roundw
            case rel => exact ⟨k + 1, L2, A, by omega, rfl, HE.out.1, HE.out.2⟩
            case measure => simp [intOf]; omega
      · -- a beat
        obtain ⟨e0, he0⟩ : ∃ x, wr.heap.size = x := ⟨_, rfl⟩
        have JD := hJ.drawn 1
        have HT : Hid _ := hidOf2 (JD.took1 D rfl he0 n bl)
        have HO : Hid ((wr.drew.alloc (.cells #[] 5)).ownsRow e0 5 1 (.slice (some ⟨e0, 0, none⟩) 0 0) 0 []) := by
          show World.ownsRow _ _ _ _ _ _ _
          rw [← he0]
          exact own_empty wr.drew
        have hs1 : e0 ≤ (wr.drew.alloc (.cells #[] 5)).heap.size := by
          have : (wr.drew.alloc (.cells #[] 5)).heap.size = wr.heap.size + 1 := size_alloc _ _
          omega
        have bX : Below p w (wr.drew.alloc (.cells #[] 5)) := (JD.a.alloc _).bl
        have HB2 : Hid (Bytes (wr.drew.alloc (.cells #[] 5)) (.slice ab bl.length cb) bl) := HBy.out _ bX
        have HG : Hid (∀ w2, (wr.drew.alloc (.cells #[] 5)).grownBy w2 (some e0) → Below p w w2) := fun w2 h2 => below_of_grown bX h2 (by omega) (fun j hj => by have hj : some e0 = some j := hj; injection hj; omega)
        have s0 := HK.out wr.drew JD.a.bl
        have hlen2 : (saysW l n bl).length ≤ 1000 := Nat.le_trans (says_len l n bl) (by omega)
        go_upto_region 14 with fail
        go_upto_region 15 with fail
        refine wp_region_held (S := fun z : World => z.cell? ⟨b, off + k * 3 + 1, none⟩ = some (.int .i64 n) ∧ z.cell? ⟨b, off + k * 3 + 2, none⟩ = some (.slice ab bl.length cb)) (by kernel_rfl) ?_
        change wpAnyH _ _ _ _ _ _ _ _ wr.drew
        refine wpAnyH_take (i := 0) (v := (.pointer (some ⟨g, 0, none⟩))) rfl (by kernel_rfl) (by kernel_rfl) (by kernel_rfl) (fun _ _ _ h => h) (.inl ⟨rfl, fun _ hS => rfl⟩) s0 ?_
        simp only [List.getElem_toArray, List.getElem_cons_succ, List.getElem_cons_zero, Act.put, List.setIfInBounds_toArray, List.set_cons_succ, List.set_cons_zero]
        refine wpAnyH_take (i := 1) (v := (.slice (some ⟨b, off, none⟩) M ca)) rfl (by kernel_rfl) (by kernel_rfl) (by kernel_rfl) (fun _ _ _ h => h) (.inl ⟨rfl, fun _ hS => rfl⟩) s0 ?_
        simp only [List.getElem_toArray, List.getElem_cons_succ, List.getElem_cons_zero, Act.put, List.setIfInBounds_toArray, List.set_cons_succ, List.set_cons_zero]
        refine wpAnyH_take (i := 2) (v := (.int .i64 (k : Nat))) rfl (by kernel_rfl) (by kernel_rfl) (by kernel_rfl) (fun _ _ _ h => h) (.inl ⟨rfl, fun _ hS => rfl⟩) s0 ?_
        simp only [List.getElem_toArray, List.getElem_cons_succ, List.getElem_cons_zero, Act.put, List.setIfInBounds_toArray, List.set_cons_succ, List.set_cons_zero]
        refine wpAnyH_take (i := 3) (v := (.pointer (some ⟨b, off + k * 3, none⟩))) rfl (by kernel_rfl) (by kernel_rfl) (by kernel_rfl) (fun _ _ _ h => h) (.inl ⟨rfl, fun _ hS => exec_idxA18 rfl rfl rfl hkl _⟩) s0 ?_
        simp only [List.getElem_toArray, List.getElem_cons_succ, List.getElem_cons_zero, Act.put, List.setIfInBounds_toArray, List.set_cons_succ, List.set_cons_zero]
        refine wpAnyH_take (i := 4) (v := (.pointer (some ⟨b, off + k * 3 + 1, none⟩))) rfl (by kernel_rfl) (by kernel_rfl) (by kernel_rfl) (fun _ _ _ h => h) (.inl ⟨rfl, fun _ hS => by simp [execOp, go_sem, Act.eval]⟩) s0 ?_
        simp only [List.getElem_toArray, List.getElem_cons_succ, List.getElem_cons_zero, Act.put, List.setIfInBounds_toArray, List.set_cons_succ, List.set_cons_zero]
        refine wpAnyH_take (i := 5) (v := (.int .i64 n)) rfl (by kernel_rfl) (by kernel_rfl) (by kernel_rfl) (fun _ _ _ h => h) (.inl ⟨rfl, fun _ hS => exec_load rfl rfl (load_int _ _ _ _ hS.1)⟩) s0 ?_
        simp only [List.getElem_toArray, List.getElem_cons_succ, List.getElem_cons_zero, Act.put, List.setIfInBounds_toArray, List.set_cons_succ, List.set_cons_zero]
        refine wpAnyH_take (i := 7) (v := (.slice (some ⟨b, off, none⟩) M ca)) rfl (by kernel_rfl) (by kernel_rfl) (by kernel_rfl) (fun _ _ _ h => h) (.inl ⟨rfl, fun _ hS => rfl⟩) s0 ?_
        simp only [List.getElem_toArray, List.getElem_cons_succ, List.getElem_cons_zero, Act.put, List.setIfInBounds_toArray, List.set_cons_succ, List.set_cons_zero]
        refine wpAnyH_take (i := 8) (v := (.int .i64 (k : Nat))) rfl (by kernel_rfl) (by kernel_rfl) (by kernel_rfl) (fun _ _ _ h => h) (.inl ⟨rfl, fun _ hS => rfl⟩) s0 ?_
        simp only [List.getElem_toArray, List.getElem_cons_succ, List.getElem_cons_zero, Act.put, List.setIfInBounds_toArray, List.set_cons_succ, List.set_cons_zero]
        refine wpAnyH_take (i := 9) (v := (.pointer (some ⟨b, off + k * 3, none⟩))) rfl (by kernel_rfl) (by kernel_rfl) (by kernel_rfl) (fun _ _ _ h => h) (.inl ⟨rfl, fun _ hS => exec_idxA18 rfl rfl rfl hkl _⟩) s0 ?_
        simp only [List.getElem_toArray, List.getElem_cons_succ, List.getElem_cons_zero, Act.put, List.setIfInBounds_toArray, List.set_cons_succ, List.set_cons_zero]
        refine wpAnyH_take (i := 10) (v := (.pointer (some ⟨b, off + k * 3 + 2, none⟩))) rfl (by kernel_rfl) (by kernel_rfl) (by kernel_rfl) (fun _ _ _ h => h) (.inl ⟨rfl, fun _ hS => by simp [execOp, go_sem, Act.eval]⟩) s0 ?_
        simp only [List.getElem_toArray, List.getElem_cons_succ, List.getElem_cons_zero, Act.put, List.setIfInBounds_toArray, List.set_cons_succ, List.set_cons_zero]
        refine wpAnyH_take (i := 11) (v := (.slice ab bl.length cb)) rfl (by kernel_rfl) (by kernel_rfl) (by kernel_rfl) (fun _ _ _ h => h) (.inl ⟨rfl, fun _ hS => exec_load rfl rfl (load_bytesN _ _ _ _ _ _ hS.2)⟩) s0 ?_
        simp only [List.getElem_toArray, List.getElem_cons_succ, List.getElem_cons_zero, Act.put, List.setIfInBounds_toArray, List.set_cons_succ, List.set_cons_zero]
        refine wpAnyH_all (rs := [6]) (by kernel_rfl) (by simp) ?_
        intro k hk
        simp only [List.mem_cons, List.mem_nil_iff, or_false] at hk
        subst hk
        refine wpOp_runw rfl rfl (bs0U rfl ?_)
        have s1 := HK.out _ bX
        rw [show wr.drew.heap.size = e0 from he0]
        refine ⟨s1, ?_⟩
        simp only [List.getElem_toArray, List.getElem_cons_succ, List.getElem_cons_zero, Act.put, List.setIfInBounds_toArray, List.set_cons_succ, List.set_cons_zero]
        refine wpAnyH_all (rs := [12]) (by kernel_rfl) (by simp) ?_
        intro k hk
        simp only [List.mem_cons, List.mem_nil_iff, or_false] at hk
        subst hk
        refine wpOp_runw rfl rfl (wp_appN _ _ rfl e0 _ [] rfl (by exact HO.out) _ bl rfl (by exact HB2.out) (by simp only [List.length_nil]; omega) (by exact hs1) ?_)
        intro v1 w2 ho hgr
        have s2 := HK.out w2 (HG.out w2 hgr)
        have hT2 := HT.out v1 w2 ho hgr
        clear ho hgr
        refine ⟨s2, ?_⟩
        simp only [List.getElem_toArray, List.getElem_cons_succ, List.getElem_cons_zero, Act.put, List.setIfInBounds_toArray, List.set_cons_succ, List.set_cons_zero]
        refine wpAnyH_all (rs := [13]) (by kernel_rfl) (by simp) ?_
        intro k hk
        simp only [List.mem_cons, List.mem_nil_iff, or_false] at hk
        subst hk
        refine wpOp_runw rfl rfl (wp_call_fn 15 #[.pointer (some ⟨g, 0, none⟩), .int .i64 n, v1] (by simp [execOp, go_sem, Act.eval, resolve, invoke, enterWT]) ?_)
        refine hT2.mono ?_
        rintro e w3 ⟨a1, c1, rfl, N1, J1⟩
        have s3 := HK.out w3 J1.a.bl
        refine ⟨s3, ?_⟩
        simp only [List.getElem_toArray, List.getElem_cons_succ, List.getElem_cons_zero, Act.put, List.setIfInBounds_toArray, List.set_cons_succ, List.set_cons_zero]
        refine wpAnyH_take (i := 14) (v := (.tuple #[.slice a1 (saysW l n bl).length c1, .bool (okW l n bl)])) rfl (by kernel_rfl) (by kernel_rfl) (by kernel_rfl) (fun _ _ _ h => h) (.inl ⟨rfl, fun _ hS => rfl⟩) s3 ?_
        simp only [List.getElem_toArray, List.getElem_cons_succ, List.getElem_cons_zero, Act.put, List.setIfInBounds_toArray, List.set_cons_succ, List.set_cons_zero]
        refine wpAnyH_take (i := 15) (v := (.slice a1 (saysW l n bl).length c1)) rfl (by kernel_rfl) (by kernel_rfl) (by kernel_rfl) (fun _ _ _ h => h) (.inl ⟨rfl, fun _ hS => by simp [execOp, go_sem, Act.eval]⟩) s3 ?_
        simp only [List.getElem_toArray, List.getElem_cons_succ, List.getElem_cons_zero, Act.put, List.setIfInBounds_toArray, List.set_cons_succ, List.set_cons_zero]
        refine wpAnyH_take (i := 16) (v := (.bool (okW l n bl))) rfl (by kernel_rfl) (by kernel_rfl) (by kernel_rfl) (fun _ _ _ h => h) (.inl ⟨rfl, fun _ hS => by simp [execOp, go_sem, Act.eval]⟩) s3 ?_
        simp only [List.getElem_toArray, List.getElem_cons_succ, List.getElem_cons_zero, Act.put, List.setIfInBounds_toArray, List.set_cons_succ, List.set_cons_zero]
        refine wpAnyH_take (i := 17) (v := (.slice a1 (saysW l n bl).length c1)) rfl (by kernel_rfl) (by kernel_rfl) (by kernel_rfl) (fun _ _ _ h => h) (.inl ⟨rfl, fun _ hS => rfl⟩) s3 ?_
        simp only [List.getElem_toArray, List.getElem_cons_succ, List.getElem_cons_zero, Act.put, List.setIfInBounds_toArray, List.set_cons_succ, List.set_cons_zero]
        refine wpAnyH_take (i := 18) (v := (.bool (okW l n bl))) rfl (by kernel_rfl) (by kernel_rfl) (by kernel_rfl) (fun _ _ _ h => h) (.inl ⟨rfl, fun _ hS => rfl⟩) s3 ?_
        simp only [List.getElem_toArray, List.getElem_cons_succ, List.getElem_cons_zero, Act.put, List.setIfInBounds_toArray, List.set_cons_succ, List.set_cons_zero]
        refine wpAnyH_done (by kernel_rfl) ?_ _
        have J1' := J1.drawn 1
        have N1' := N1.drawn 1
        have t0 := HK.out _ J1'.a.bl
        have hT3 := J1'.take2 D n _ bl (HBy.out _ J1'.a.bl) N1'
        clear HT HO hs1 bX HB2 HG hT2 s0 s1 s2 s3 JD N1 J1 N1' J1'
        go_upto_region 16 with fail
        refine wp_region_held (S := fun z : World => z.cell? ⟨b, off + k * 3 + 1, none⟩ = some (.int .i64 n) ∧ z.cell? ⟨b, off + k * 3 + 2, none⟩ = some (.slice ab bl.length cb)) (by kernel_rfl) ?_
        change wpAnyH _ _ _ _ _ _ _ _ w3.drew
        refine wpAnyH_take (i := 0) (v := (.pointer (some ⟨gd, 0, none⟩))) rfl (by kernel_rfl) (by kernel_rfl) (by kernel_rfl) (fun _ _ _ h => h) (.inl ⟨rfl, fun _ hS => rfl⟩) t0 ?_
        simp only [List.getElem_toArray, List.getElem_cons_succ, List.getElem_cons_zero, Act.put, List.setIfInBounds_toArray, List.set_cons_succ, List.set_cons_zero]
        refine wpAnyH_take (i := 1) (v := (.slice (some ⟨b, off, none⟩) M ca)) rfl (by kernel_rfl) (by kernel_rfl) (by kernel_rfl) (fun _ _ _ h => h) (.inl ⟨rfl, fun _ hS => rfl⟩) t0 ?_
        simp only [List.getElem_toArray, List.getElem_cons_succ, List.getElem_cons_zero, Act.put, List.setIfInBounds_toArray, List.set_cons_succ, List.set_cons_zero]
        refine wpAnyH_take (i := 2) (v := (.int .i64 (k : Nat))) rfl (by kernel_rfl) (by kernel_rfl) (by kernel_rfl) (fun _ _ _ h => h) (.inl ⟨rfl, fun _ hS => rfl⟩) t0 ?_
        simp only [List.getElem_toArray, List.getElem_cons_succ, List.getElem_cons_zero, Act.put, List.setIfInBounds_toArray, List.set_cons_succ, List.set_cons_zero]
        refine wpAnyH_take (i := 3) (v := (.pointer (some ⟨b, off + k * 3, none⟩))) rfl (by kernel_rfl) (by kernel_rfl) (by kernel_rfl) (fun _ _ _ h => h) (.inl ⟨rfl, fun _ hS => exec_idxA18 rfl rfl rfl hkl _⟩) t0 ?_
        simp only [List.getElem_toArray, List.getElem_cons_succ, List.getElem_cons_zero, Act.put, List.setIfInBounds_toArray, List.set_cons_succ, List.set_cons_zero]
        refine wpAnyH_take (i := 4) (v := (.pointer (some ⟨b, off + k * 3 + 1, none⟩))) rfl (by kernel_rfl) (by kernel_rfl) (by kernel_rfl) (fun _ _ _ h => h) (.inl ⟨rfl, fun _ hS => by simp [execOp, go_sem, Act.eval]⟩) t0 ?_
        simp only [List.getElem_toArray, List.getElem_cons_succ, List.getElem_cons_zero, Act.put, List.setIfInBounds_toArray, List.set_cons_succ, List.set_cons_zero]
        refine wpAnyH_take (i := 5) (v := (.int .i64 n)) rfl (by kernel_rfl) (by kernel_rfl) (by kernel_rfl) (fun _ _ _ h => h) (.inl ⟨rfl, fun _ hS => exec_load rfl rfl (load_int _ _ _ _ hS.1)⟩) t0 ?_
        simp only [List.getElem_toArray, List.getElem_cons_succ, List.getElem_cons_zero, Act.put, List.setIfInBounds_toArray, List.set_cons_succ, List.set_cons_zero]
        refine wpAnyH_take (i := 6) (v := (.slice (some ⟨b, off, none⟩) M ca)) rfl (by kernel_rfl) (by kernel_rfl) (by kernel_rfl) (fun _ _ _ h => h) (.inl ⟨rfl, fun _ hS => rfl⟩) t0 ?_
        simp only [List.getElem_toArray, List.getElem_cons_succ, List.getElem_cons_zero, Act.put, List.setIfInBounds_toArray, List.set_cons_succ, List.set_cons_zero]
        refine wpAnyH_take (i := 7) (v := (.int .i64 (k : Nat))) rfl (by kernel_rfl) (by kernel_rfl) (by kernel_rfl) (fun _ _ _ h => h) (.inl ⟨rfl, fun _ hS => rfl⟩) t0 ?_
        simp only [List.getElem_toArray, List.getElem_cons_succ, List.getElem_cons_zero, Act.put, List.setIfInBounds_toArray, List.set_cons_succ, List.set_cons_zero]
        refine wpAnyH_take (i := 8) (v := (.pointer (some ⟨b, off + k * 3, none⟩))) rfl (by kernel_rfl) (by kernel_rfl) (by kernel_rfl) (fun _ _ _ h => h) (.inl ⟨rfl, fun _ hS => exec_idxA18 rfl rfl rfl hkl _⟩) t0 ?_
        simp only [List.getElem_toArray, List.getElem_cons_succ, List.getElem_cons_zero, Act.put, List.setIfInBounds_toArray, List.set_cons_succ, List.set_cons_zero]
        refine wpAnyH_take (i := 9) (v := (.pointer (some ⟨b, off + k * 3 + 2, none⟩))) rfl (by kernel_rfl) (by kernel_rfl) (by kernel_rfl) (fun _ _ _ h => h) (.inl ⟨rfl, fun _ hS => by simp [execOp, go_sem, Act.eval]⟩) t0 ?_
        simp only [List.getElem_toArray, List.getElem_cons_succ, List.getElem_cons_zero, Act.put, List.setIfInBounds_toArray, List.set_cons_succ, List.set_cons_zero]
        refine wpAnyH_take (i := 10) (v := (.slice ab bl.length cb)) rfl (by kernel_rfl) (by kernel_rfl) (by kernel_rfl) (fun _ _ _ h => h) (.inl ⟨rfl, fun _ hS => exec_load rfl rfl (load_bytesN _ _ _ _ _ _ hS.2)⟩) t0 ?_
        simp only [List.getElem_toArray, List.getElem_cons_succ, List.getElem_cons_zero, Act.put, List.setIfInBounds_toArray, List.set_cons_succ, List.set_cons_zero]
        refine wpAnyH_all (rs := [11]) (by kernel_rfl) (by simp) ?_
        intro k hk
        simp only [List.mem_cons, List.mem_nil_iff, or_false] at hk
        subst hk
        refine wpOp_runw rfl rfl (wp_call_fn 16 #[.pointer (some ⟨gd, 0, none⟩), .int .i64 n, .slice ab bl.length cb] (by simp [execOp, go_sem, Act.eval, resolve, invoke, enterRT]) ?_)
        refine hT3.mono ?_
        rintro e w5 ⟨a2, c2, rfl, N2, J2, N3⟩
        have s5 := HK.out w5 J2.a.bl
        refine ⟨s5, ?_⟩
        simp only [List.getElem_toArray, List.getElem_cons_succ, List.getElem_cons_zero, Act.put, List.setIfInBounds_toArray, List.set_cons_succ, List.set_cons_zero]
        refine wpAnyH_take (i := 12) (v := (.tuple #[.slice a2 (saysW l n bl).length c2, .bool (okW l n bl)])) rfl (by kernel_rfl) (by kernel_rfl) (by kernel_rfl) (fun _ _ _ h => h) (.inl ⟨rfl, fun _ hS => rfl⟩) s5 ?_
        simp only [List.getElem_toArray, List.getElem_cons_succ, List.getElem_cons_zero, Act.put, List.setIfInBounds_toArray, List.set_cons_succ, List.set_cons_zero]
        refine wpAnyH_take (i := 13) (v := (.slice a2 (saysW l n bl).length c2)) rfl (by kernel_rfl) (by kernel_rfl) (by kernel_rfl) (fun _ _ _ h => h) (.inl ⟨rfl, fun _ hS => by simp [execOp, go_sem, Act.eval]⟩) s5 ?_
        simp only [List.getElem_toArray, List.getElem_cons_succ, List.getElem_cons_zero, Act.put, List.setIfInBounds_toArray, List.set_cons_succ, List.set_cons_zero]
        refine wpAnyH_take (i := 14) (v := (.bool (okW l n bl))) rfl (by kernel_rfl) (by kernel_rfl) (by kernel_rfl) (fun _ _ _ h => h) (.inl ⟨rfl, fun _ hS => by simp [execOp, go_sem, Act.eval]⟩) s5 ?_
        simp only [List.getElem_toArray, List.getElem_cons_succ, List.getElem_cons_zero, Act.put, List.setIfInBounds_toArray, List.set_cons_succ, List.set_cons_zero]
        refine wpAnyH_take (i := 15) (v := (.slice a2 (saysW l n bl).length c2)) rfl (by kernel_rfl) (by kernel_rfl) (by kernel_rfl) (fun _ _ _ h => h) (.inl ⟨rfl, fun _ hS => rfl⟩) s5 ?_
        simp only [List.getElem_toArray, List.getElem_cons_succ, List.getElem_cons_zero, Act.put, List.setIfInBounds_toArray, List.set_cons_succ, List.set_cons_zero]
        refine wpAnyH_take (i := 16) (v := (.bool (okW l n bl))) rfl (by kernel_rfl) (by kernel_rfl) (by kernel_rfl) (fun _ _ _ h => h) (.inl ⟨rfl, fun _ hS => rfl⟩) s5 ?_
        simp only [List.getElem_toArray, List.getElem_cons_succ, List.getElem_cons_zero, Act.put, List.setIfInBounds_toArray, List.set_cons_succ, List.set_cons_zero]
        refine wpAnyH_done (by kernel_rfl) ?_ _
        have HT := hidOf2 J2
        have HNS := hidOf2 HNB.out
        have HEQ : Hid ((takeW l n bl).map Wt.nd = l.map Wt.nd) := takeW_nd l n bl
        have HN1 := hidOf2 N3
        have HN2 := hidOf2 N2
        have hoq : (okW l n bl != okW l n bl) = false := by simp
        clear hT3 t0 s5 J2 N3 N2 hln2 hln HNB HNT D hJ r0 HK HBy HC HOK
        generalize okW l n bl = okk at *
        generalize takeW l n bl = L2 at *
        generalize saysW l n bl = ll at *
        obtain ⟨P1, hP1⟩ : ∃ P, e0 = P := ⟨_, rfl⟩
        rw [hP1] at HN1
        clear hP1
        have hS := same_eq _ _ ll w5 (wide_of_own DN HN1.out) (wide_of_own DN HN2.out) (by omega)
        go_upto_region 18 with fail
        go_upto_region 20 with (go_at_call 19; with_reducible refine hS.mono ?_; rintro e z9 ⟨rfl, b9⟩)
        have HT9 := hidOf2 (HT.out.below b9)
        have HN9 := hidOf2 (HN1.out.below b9)
        clear hS HT HN1 HN2 b9
        obtain ⟨NN, hNN⟩ : ∃ NN, ll.length = NN := ⟨_, rfl⟩
        have HNN := hidOf2 hNN
        rw [hNN] at hlen2 HN9 ⊢
        clear hNN
        go_wp2_with fail
        go_loopw [15] (fun s15 y => ∃ j A, j ≤ NN ∧ s15 = .int .i64 (j : Nat) ∧ WA w p g v3 gd (.slice ao N cap) (.slice (some ⟨sb, 0, none⟩) N N) L tb L2 L2 A y ∧ Nw P1 (.slice a1 NN c1) ll y ∧ Th l L2 ll j A) (fun s15 _ => NN - (intOf s15).toNat)
        case atStart => exact ⟨0, B, by omega, rfl, HT9.out, HN9.out, Th.start HTH.out.1 HTH.out.2⟩
        case round =>
          clear HT9 HN9
          obtain ⟨j, A, hj, rfl, hW, hNw, hTh⟩ := hrel
          by_cases hjN : j < NN
          · have hd3 : decide ((j : Int) < (NN : Int)) = true := by simp; omega
            have hjl : j < ll.length := by rw [HNN.out]; exact hjN
            obtain ⟨b5, o5, c5, h5, _, hRb⟩ := (wide_of_own DN hNw).at0 j hjl
            injection h5 with h51 h52 h53
            subst h51; subst h53; clear h52
            have hwh := HNS.out.wh _ (List.getElem_mem hjl)
            obtain ⟨C, hC, hC8, hAC, hth0⟩ := hTh.at HOl.out HNS.out hjl
            obtain ⟨X2, hX2⟩ : ∃ X, wr.alloc (.cells #[.int .i64 ll[j].nd, .int .i64 ll[j].wh, .int .i64 ll[j].st] 55) = X := ⟨_, rfl⟩
            have BX2 : Below wr.heap.size wr X2 := by rw [← hX2]; exact (Below.refl _ _).alloc (Nat.le_refl _) _
            obtain ⟨rb, hrb⟩ : ∃ r, wr.heap.size = r := ⟨_, rfl⟩
            have CX : Bc 55 rb #[.int .i64 ll[j].nd, .int .i64 ll[j].wh, .int .i64 ll[j].st] X2 := by rw [← hX2, ← hrb]; exact heap_alloc_new wr _
            have WX := hW.below BX2
            have NX := hNw.below BX2
            have hRb' : wr.rangeAt b5 (o5 + j * 3) (Ne.cs ⟨ll[j].nd, ll[j].wh, ll[j].st⟩) := hRb
            have q0 : X2.cell? ⟨rb, 0, none⟩ = some (.int .i64 ll[j].nd) := CX.cell 0
            have q1 : X2.cell? ⟨rb, 1, none⟩ = some (.int .i64 ll[j].wh) := CX.cell 1
            have tC : X2.cell? ⟨tb, C, none⟩ = some (.bool (isW l ll[j].nd)) := (WX.t.cell C).trans hAC
            have tF : X2.frozen? ⟨tb, C, none⟩ = false := WX.t.frozen C
            rw [hC] at q0 tC hX2 hRb' hwh
            generalize ll[j].st = zs at *
            generalize ll[j].wh = zw at *
            have hC0 : (0 : Int) ≤ (C : Int) := by omega
            have hC1 : (C : Int) < 128 := by omega
            clear hRb BX2 CX hW hNw hTh hAC hC
            go_upto_region 24 with (refine Ne.ld (a := ⟨(C : Nat), zw, zs⟩) hRb' rfl _ rfl rfl ?_; clear hRb'; unfold Ne.arr; simp only)
            clear hrb
            rcases hwh with rfl | ⟨rfl, hi⟩ | ⟨rfl, hi⟩ | ⟨rfl, hi⟩
            · have hth : Th l L2 ll (j + 1) (A.setIfInBounds C (.bool false)) := hth0
              obtain ⟨bq, hbq⟩ : ∃ q, isW l (C : Int) = q := ⟨_, rfl⟩
              rw [hbq] at tC
              clear hbq hth0
              obtain ⟨Y, hY⟩ : ∃ Y, X2.setCell ⟨tb, C, none⟩ (.bool false) = Y := ⟨_, rfl⟩
              have HE : Hid (WA w p g v3 gd (.slice ao N cap) (.slice (some ⟨sb, 0, none⟩) N N) L tb L2 L2 (A.setIfInBounds C (.bool false)) Y ∧ Nw P1 (.slice (some ⟨b5, o5, none⟩) NN c1) ll Y ∧ Th l L2 ll (j + 1) (A.setIfInBounds C (.bool false))) := by
                rw [← hY]
                exact ⟨WX.thr HD.out C _, Nw.thr WX C _ NX, hth⟩
              clear hth WX NX
              go_wp2_with fail
              go_roundw
              case rel => exact ⟨j + 1, _, by omega, rfl, HE.out.1, HE.out.2.1, HE.out.2.2⟩
              case measure => simp [intOf]; omega
            · have hth : Th l L2 ll (j + 1) (A.setIfInBounds C (.bool true)) := hth0
              rw [hi] at tC
              clear hi hth0
              obtain ⟨Y, hY⟩ : ∃ Y, X2.setCell ⟨tb, C, none⟩ (.bool true) = Y := ⟨_, rfl⟩
              have HE : Hid (WA w p g v3 gd (.slice ao N cap) (.slice (some ⟨sb, 0, none⟩) N N) L tb L2 L2 (A.setIfInBounds C (.bool true)) Y ∧ Nw P1 (.slice (some ⟨b5, o5, none⟩) NN c1) ll Y ∧ Th l L2 ll (j + 1) (A.setIfInBounds C (.bool true))) := by
                rw [← hY]
                exact ⟨WX.thr HD.out C _, Nw.thr WX C _ NX, hth⟩
              clear hth WX NX
              go_wp2_with fail
              go_roundw
              case rel => exact ⟨j + 1, _, by omega, rfl, HE.out.1, HE.out.2.1, HE.out.2.2⟩
              case measure => simp [intOf]; omega
            · have hth : Th l L2 ll (j + 1) (A.setIfInBounds C (.bool true)) := hth0
              rw [hi] at tC
              clear hi hth0
              obtain ⟨Y, hY⟩ : ∃ Y, X2.setCell ⟨tb, C, none⟩ (.bool true) = Y := ⟨_, rfl⟩
              have HE : Hid (WA w p g v3 gd (.slice ao N cap) (.slice (some ⟨sb, 0, none⟩) N N) L tb L2 L2 (A.setIfInBounds C (.bool true)) Y ∧ Nw P1 (.slice (some ⟨b5, o5, none⟩) NN c1) ll Y ∧ Th l L2 ll (j + 1) (A.setIfInBounds C (.bool true))) := by
                rw [← hY]
                exact ⟨WX.thr HD.out C _, Nw.thr WX C _ NX, hth⟩
              clear hth WX NX
              go_wp2_with fail
              go_roundw
              case rel => exact ⟨j + 1, _, by omega, rfl, HE.out.1, HE.out.2.1, HE.out.2.2⟩
              case measure => simp [intOf]; omega
            · have hth : Th l L2 ll (j + 1) (A.setIfInBounds C (.bool false)) := hth0
              rw [hi] at tC
              clear hi hth0
              obtain ⟨Y, hY⟩ : ∃ Y, X2.setCell ⟨tb, C, none⟩ (.bool false) = Y := ⟨_, rfl⟩
              have HE : Hid (WA w p g v3 gd (.slice ao N cap) (.slice (some ⟨sb, 0, none⟩) N N) L tb L2 L2 (A.setIfInBounds C (.bool false)) Y ∧ Nw P1 (.slice (some ⟨b5, o5, none⟩) NN c1) ll Y ∧ Th l L2 ll (j + 1) (A.setIfInBounds C (.bool false))) := by
                rw [← hY]
                exact ⟨WX.thr HD.out C _, Nw.thr WX C _ NX, hth⟩
              clear hth WX NX
              go_wp2_with fail
              go_roundw
              case rel => exact ⟨j + 1, _, by omega, rfl, HE.out.1, HE.out.2.1, HE.out.2.2⟩
              case measure => simp [intOf]; omega
          · obtain rfl : j = NN := by omega
            have hd3 : decide ((j : Int) < (j : Int)) = false := by simp
            have hT9 := hTh.done HNS.out (by have := HNN.out; omega) HEQ.out
            have HE := hidOf2 (And.intro hW hT9)
            clear hW hNw hTh hT9
            go_wp2_with fail
            go_roundw
            case rel => exact ⟨k + 1, L2, A, by omega, rfl, HE.out.1, HE.out.2⟩
            case measure => simp [intOf]; omega
    · obtain rfl : k = M := by omega
      have hd : decide ((k : Int) < (k : Int)) = false := by simp
      have hT := tells_any hJ.a hJ.d
      have HB9 := hidOf2 hJ.a.bl
      clear hJ hTB D HC HOK
      go_wp2_with (first | (go_at_call 20; with_reducible refine hT.mono ?_; rintro e y8 ⟨rfl, b8⟩) | (go_at_call 10; refine (HL _).mono ?_; rintro e y9 ⟨rfl, b9⟩))
      go_ret
      exact ⟨rfl, below_low (below_low HB9.out b8 hsp) b9 (by have := b8.size; omega)⟩
theorem bwat_walk (v : Value) (l : List Q18) (hl : l.length ≤ 8796093021952) (va : Value) (A : List A18) (w : World) (hA : A.length ≤ 140737488351232 ∧ ∀ a ∈ A, a.ok w) (hB : Wide 2 Q18.c w v l) (hbA : Wide 3 A18.c w va A) :
    Calls Try.prog 4 #[v, va] w fun e w' => e = .returned (.bool true) ∧ Below w.heap.size w w' := by
  have hB2 := wide_wq hB
  by_cases hc : chkW [] (l.map Q18.q) = 0
  · exact bwat_ok v _ va A (by simpa using hl) w hB2 hbA hA hc
  · exact bwat_bad v _ va (by simpa using hl) w hB2 hc
end Go.Proofs.Ytceomfefffngaaa
