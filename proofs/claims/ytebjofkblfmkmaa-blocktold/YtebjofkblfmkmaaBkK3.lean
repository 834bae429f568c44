/- The document's receiver: Feed. -/
import Derived.Test.YtebjofkblfmkmaaBkK2
import Derived.Test.YtebjofkblfmkmaaBkOq
namespace Go.Proofs.Ytebjofkblfmkmaa
open Go.RowKit Go.Proofs.Ty Go.Proofs.Bits
set_option linter.unusedVariables false
set_option maxRecDepth 1000000
set_option linter.unusedSimpArgs false
section
variable {D sz does cm cd : Nat} {l : F8} {v : Value} {bs : List UInt8} {w x : World}
theorem own_hasty {w : World} {B n : Nat} {v : Value} {xs : List Value} (h : w.ownsRow B 5 1 v n xs) : ∀ b, v.ownBlock = some b → ∃ A fr, w.heap[b]? = some (.cells A 5 fr) := fun b hb => by
  obtain ⟨_, cur, hc⟩ := own_of h hb
  exact ⟨cur, (0, 0), hc⟩
theorem own_caps {w : World} {B n : Nat} {v : Value} {xs : List Value} (h : w.ownsRow B 5 1 v n xs) : ∀ ao m c, v = .slice ao m c → m ≤ c := fun ao m c e => by
  subst e
  obtain ⟨ao2, cap, e2⟩ := own_shape5 h
  injection e2 with e3 e4 e5
  subst e4
  exact own_cap h
set_option maxHeartbeats 16000000 in
theorem dFeedR_any {t : Rc} (h : Dw D t v w) (hok : t.Ok) (f : F8) : Calls Try.prog 16 #[.pointer (some ⟨D, 0, none⟩), .agg f.arr] w fun e w' => DwPost w D v (rFeed t f) e w' := by
  obtain ⟨sz, does, cm, l, cd, hq, hl⟩ := h
  obtain ⟨p, hp⟩ : ∃ p, w.heap.size = p := ⟨_, rfl⟩
  obtain ⟨W0, hW0⟩ : ∃ W, w.alloc (.cells f.arr 30) = W := ⟨_, rfl⟩
  have hW0s : W0.heap.size = p + 1 := by rw [← hW0, size_alloc, hp]
  obtain ⟨q, hqq⟩ : ∃ q, W0.heap.size = q := ⟨_, rfl⟩
  obtain ⟨W, hW⟩ : ∃ W, W0.alloc (.cells zA8 30) = W := ⟨_, rfl⟩
  have b0 : Below w.heap.size w W := by
    rw [← hW, ← hW0]
    exact ((Below.refl _ _).alloc (Nat.le_refl _) _).alloc (by rw [size_alloc]; omega) _
  have p0 : Qb p f W := by
    rw [← hW]
    refine (Lib.alloc_old W0 _ p (by omega)).trans ?_
    rw [← hW0, ← hp]
    exact Qb.new w f
  have q0 : Qb q F8.nul W := by rw [← hW, ← hqq]; exact heap_alloc_new W0 _
  have hwq : w.heap.size ≤ q := by omega
  have d0 := hq.below b0
  have y1 := d0.c1
  have x0 := p0.c0
  have x1 := p0.c1
  have x2 := p0.c2
  have l0 := f.b0.toNat_lt
  have l1 := f.b1.toNat_lt
  have l2 := f.b2.toNat_lt
  have hst := hok.st
  have hds := hl.st
  have hpD := d0.nq p0
  have hqD := d0.nq q0
  have HK := hidOf2 (Kp.of_below (bs := [D]) b0)
  have HD := hidOf2 d0
  have HP0 := hidOf2 p0
  have HQ0 := hidOf2 q0
  have hna := nul_arr
  have HR : Hid (rFeed t f = if t.st = 1 then rTake t f
    else if t.st = 2 ∧ f.b0.toNat / 32 = 4 then (none, .fin (num4 f) [])
    else if t.st = 2 ∧ f.b0.toNat / 32 = 6 ∧ f.b0.toNat % 2 = 1 then rEnd t f
    else (none, t)) := rfl
  generalize rFeed t f = RS at *
  -- the answer 'none' with the state as it was
  have HN : Hid (RS = (none, t) → ∀ n, ∀ Z, Z = (W.drewN n).setRow q F8.nul.arr → Qb q F8.nul Z ∧ DwPost w D v RS (.returned (.tuple #[.agg F8.nul.arr, .bool false])) Z) := fun e n => by
    rw [e]
    exact Dw.lay (v := v) (t := t) ⟨sz, does, cm, l, cd, HD.out.drawn n, hl⟩ (show Qb q F8.nul (W.drewN n) from HQ0.out) (HK.out.trans (Kp.drawn _ _ n)) hwq (fun b hb => .inl hb) F8.nul false none rfl rfl
  clear hW0s
  by_cases c3 : t.st = 3
  · have e1 : ((does : Int) == 2) = true := by simp; omega
    have HP := hidOf2 (HN.out (by rw [HR.out, if_neg (by omega), if_neg (by omega), if_neg (by omega)]) 0)
    clear HD HK d0 b0 hq HR HN
    go_enter Try.func16, Try.ntmps16
    go_upto_region 1 with fail
    first | (change Code.wp Try.prog _ _ _ ((w.alloc (.cells f.arr 30)).alloc (.cells zA8 30)); rw [hW0, hW]) | (change Code.wp Try.prog _ _ _ (W0.alloc (.cells zA8 30)); rw [hW]) | (change Code.wp Try.prog _ _ _ W)
    go_wp2_with (first | (refine sdF (g := F8.nul) q0 rfl _ _ rfl rfl (by rw [hna]; first | rfl | (simp [Act.eval]; done)) ?_))
    obtain ⟨r1, r2⟩ := HP.out _ rfl
    exact bodyPost_ret (dfeedR_results r1 _ rfl rfl) rfl r2
  · have e1 : ((does : Int) == 2) = false := by simp; omega
    obtain ⟨hsz, hcd, htc⟩ := hl.not3 c3
    have hs2 := hok.sz
    -- what is given up with
    have HG : Hid (∀ c : Nat, c < 4294967296 → RS = rGive c → ∀ y sz1 does1 cm1 l1 v1 cd1 bs1, Dq D sz1 does1 cm1 l1 v1 cd1 bs1 y → Kp [D] W y → Calls Try.prog 37 #[.pointer (some ⟨D, 0, none⟩), .int .u32 (c : Int)] y fun e w' => e = .returned (.tuple #[.agg (frm 128 0 0 c).arr, .bool true]) ∧ Qb q F8.nul w' ∧ ∀ Z, Z = w'.setRow q (frm 128 0 0 c).arr → Qb q (frm 128 0 0 c) Z ∧ DwPost w D v RS (.returned (.tuple #[.agg (frm 128 0 0 c).arr, .bool true])) Z) := fun c hc e y sz1 does1 cm1 l1 v1 cd1 bs1 hy hk => (dgivesR_any hy c hc).mono fun e' w' hh => by
      obtain ⟨he, hd2, hk2⟩ := hh
      have hq2 := HQ0.out.kq (hk.trans hk2) (by simpa using hqD)
      refine ⟨he, hq2, ?_⟩
      rw [e]
      exact Dw.lay (t := Rc.fin c []) (v := v) (v1 := .slice none 0 0) ⟨sz1, 2, cm1, l1, c, hd2, ⟨rfl, fun h => absurd rfl h, (fun h => by simp [Rc.fin] at h), (fun h => by simp [Rc.fin] at h), fun _ => rfl⟩⟩ hq2 ((HK.out.trans hk).trans hk2) hwq (fun b hb => by cases hb) _ _ (some (frm 128 0 0 c)) rfl rfl
    obtain ⟨av, nv, cv, hv⟩ : ∃ a n c, v = .slice a n c := by obtain ⟨ao, cap, h, _⟩ := d0.bt; exact ⟨_, _, _, h⟩
    have hnv : nv = t.bs.length := by obtain ⟨ao, cap, h, _⟩ := d0.bt; rw [hv] at h; injection h
    have hcv : nv ≤ cv := d0.cap _ _ _ hv
    have y11 : W.cell? ⟨D, 11, none⟩ = some (.slice av nv cv) := by rw [← hv]; exact d0.c11
    have y12 := d0.c12
    have f1 := d0.fr 1
    have f2 := d0.fr 2
    have f11 := d0.fr 11
    have f12 := d0.fr 12
    have HBT : Hid (∀ y, Kp [D] W y → Bytes y (.slice av nv cv) t.bs) := fun y hk => by
      rw [← hv]
      exact HD.out.bt.same hk.size (fun b _ _ hb he _ => hk.block b hb (by simpa using HD.out.neD he))
    by_cases c1 : t.st = 1
    · have e2 : ((does : Int) == 1) = false := by simp; omega
      have hcm := hl.one c1
      have hlt := hok.lt c1
      have hbl := hok.bs
      have y2 := d0.c2
      have eR : RS = rTake t f := by rw [HR.out, if_pos c1]
      have HT : Hid (rTake t f = if f.b0.toNat % 128 ≠ cm + 1 then (none, t)
        else if 65543 < nv + 7 then rGive 84148229
        else if 128 ≤ f.b0.toNat then (some (rAns (cm + 1) sz), ⟨2, sz, t.bs ++ f.l.drop 1, cm + 1, 0⟩)
        else if cm + 1 = sz then (some (rAns (cm + 1) sz), ⟨1, sz, t.bs ++ f.l.drop 1, 0, 0⟩)
        else (none, ⟨1, sz, t.bs ++ f.l.drop 1, cm + 1, 0⟩)) := by
        show _ = _
        rw [hnv, hcm, hsz]
        unfold rTake
        rw [htc]
      by_cases c4 : f.b0.toNat % 128 = cm + 1
      · have e4 : ((f.b0.toNat : Int) % 128 != (cm : Int) + 1) = false := by simp; omega
        have HF7 : Hid ((f.l.drop 1).length = 7) := rfl
        have hlen1 : ([] : List UInt8).length + t.bs.length ≤ 140737488355328 := by simp; omega
        have hlen2 : t.bs.length + (f.l.drop 1).length ≤ 140737488355328 := by rw [HF7.out]; omega
        have hcs : cm < sz := by omega
        have hs127 : sz ≤ 127 := by omega
        clear b0 hq HR HN hcm hsz hlt hs2 htc
        go_enter Try.func16, Try.ntmps16
        go_upto_region 1 with fail
        first | (change Code.wp Try.prog _ _ _ ((w.alloc (.cells f.arr 30)).alloc (.cells zA8 30)); rw [hW0, hW]) | (change Code.wp Try.prog _ _ _ (W0.alloc (.cells zA8 30)); rw [hW]) | (change Code.wp Try.prog _ _ _ W)
        go_upto_region 13 with fail
        go_quiet (fail)
        have HC4 := hidOf2 c4
        clear c4
        obtain ⟨V, hV⟩ : ∃ x, W.drewN nq = x := ⟨_, rfl⟩
        rw [hV]
        have dV : Dq D sz does cm l v cd t.bs V.drew := by rw [← hV]; exact HD.out.drawn (nq + 1)
        have kV : Kp [D] W V.drew := by rw [← hV]; exact Kp.drawn _ _ (nq + 1)
        have pV : Qb p f V.drew := by rw [← hV]; exact HP0.out
        have HST : Hid (∀ y a3 c3, Below V.drew.heap.size V.drew y → y.ownsRow V.heap.size 5 1 (.slice a3 (t.bs ++ f.l.drop 1).length c3) (t.bs ++ f.l.drop 1).length (Lib.byteCells (t.bs ++ f.l.drop 1)) → Qb p f (y.setCell ⟨D, 11, none⟩ (.slice a3 (t.bs ++ f.l.drop 1).length c3)) ∧ Dq D sz does cm l (.slice a3 (t.bs ++ f.l.drop 1).length c3) cd (t.bs ++ f.l.drop 1) (y.setCell ⟨D, 11, none⟩ (.slice a3 (t.bs ++ f.l.drop 1).length c3)) ∧ Kp [D] W (y.setCell ⟨D, 11, none⟩ (.slice a3 (t.bs ++ f.l.drop 1).length c3)) ∧ (∀ b, (Value.slice a3 (t.bs ++ f.l.drop 1).length c3).ownBlock = some b → w.heap.size ≤ b)) := fun y a3 c3 hk ho => by
          have dy := dV.below hk
          have hk1 := Kp.cell1 y D 11 (.slice a3 (t.bs ++ f.l.drop 1).length c3)
          exact ⟨(pV.below hk).kq hk1 (by simpa using hpD), dy.setV _ _ (bytes_of_own ho) (own_caps ho) (own_hasty ho), (kV.trans (Kp.of_below hk)).trans hk1, fun b hb => Nat.le_trans (Nat.le_trans HK.out.size kV.size) (own_of ho hb).1⟩
        have HLD : Hid (∀ y, Below V.drew.heap.size V.drew y → y.cell? ⟨D, 11, none⟩ = some (.slice av nv cv) ∧ y.frozen? ⟨D, 11, none⟩ = false) := fun y hk => by
          have dy := dV.below hk
          exact ⟨by rw [← hv]; exact dy.c11, dy.fr 11⟩
        have HBY : Hid (∀ y, Below V.drew.heap.size V.drew y → Bytes y (.slice av nv cv) t.bs) := fun y hk => HBT.out y (kV.trans (Kp.of_below hk))
        have HPF : Hid (∀ y, Below V.drew.heap.size V.drew y → Qb p f y) := fun y hk => pV.below hk
        have d0' : Below V.drew.heap.size V.drew V.drew := Below.refl _ _
        go_upto_region 15 with fail
        clear e4
        refine wp_cut (α := Nat × (Option Addr × Nat) × (Option Addr × Nat)) (fun u y => Qb p f y ∧ Dq D sz does cm l (.slice u.2.2.1 (t.bs ++ f.l.drop 1).length u.2.2.2) cd (t.bs ++ f.l.drop 1) y ∧ Kp [D] W y ∧ (∀ b, (Value.slice u.2.2.1 (t.bs ++ f.l.drop 1).length u.2.2.2).ownBlock = some b → w.heap.size ≤ b)) (fun a u => (((((((((((a.put (some 108) (.pointer (some ⟨D, 0, none⟩))).put (some 109) (.slice (some ⟨u.1, 0, none⟩) 0 0)).put (some 110) (.pointer (some ⟨D, 0, none⟩))).put (some 111) (.pointer (some ⟨D, 0, none⟩))).put (some 112) (.pointer (some ⟨D, 11, none⟩))).put (some 113) (.slice av nv cv)).put (some 114) (.slice u.2.1.1 t.bs.length u.2.1.2)).put (some 115) (.slice (some ⟨p, 1, none⟩) 7 7)).put (some 116) (.slice u.2.2.1 (t.bs ++ f.l.drop 1).length u.2.2.2)).put (some 117) (.pointer (some ⟨D, 0, none⟩))).put (some 118) (.pointer (some ⟨D, 11, none⟩)))) ?_ ?_
        · refine wp_region_held (S := fun y => Qb p f y) (by kernel_rfl) ?_
          change wpAnyH _ _ _ _ _ _ _ _ V.drew
          refine wpAnyH_take (i := 0) (v := (.pointer (some ⟨D, 0, none⟩))) rfl (by kernel_rfl) (by kernel_rfl) (by kernel_rfl) (fun _ _ _ h => nomatch h.1) (.inl ⟨rfl, fun _ hS => rfl⟩) (HPF.out _ d0') ?_
          simp only [List.getElem_toArray, List.getElem_cons_succ, List.getElem_cons_zero, Act.put, List.setIfInBounds_toArray, List.set_cons_succ, List.set_cons_zero]
          refine wpAnyH_take (i := 2) (v := (.pointer (some ⟨D, 0, none⟩))) rfl (by kernel_rfl) (by kernel_rfl) (by kernel_rfl) (fun _ _ _ h => nomatch h.1) (.inl ⟨rfl, fun _ hS => rfl⟩) (HPF.out _ d0') ?_
          simp only [List.getElem_toArray, List.getElem_cons_succ, List.getElem_cons_zero, Act.put, List.setIfInBounds_toArray, List.set_cons_succ, List.set_cons_zero]
          refine wpAnyH_take (i := 3) (v := (.pointer (some ⟨D, 0, none⟩))) rfl (by kernel_rfl) (by kernel_rfl) (by kernel_rfl) (fun _ _ _ h => nomatch h.1) (.inl ⟨rfl, fun _ hS => by simp [execOp, go_sem, Act.eval]⟩) (HPF.out _ d0') ?_
          simp only [List.getElem_toArray, List.getElem_cons_succ, List.getElem_cons_zero, Act.put, List.setIfInBounds_toArray, List.set_cons_succ, List.set_cons_zero]
          refine wpAnyH_take (i := 4) (v := (.pointer (some ⟨D, 11, none⟩))) rfl (by kernel_rfl) (by kernel_rfl) (by kernel_rfl) (fun _ _ _ h => nomatch h.1) (.inl ⟨rfl, fun _ hS => by simp [execOp, go_sem, Act.eval]⟩) (HPF.out _ d0') ?_
          simp only [List.getElem_toArray, List.getElem_cons_succ, List.getElem_cons_zero, Act.put, List.setIfInBounds_toArray, List.set_cons_succ, List.set_cons_zero]
          refine wpAnyH_take (i := 7) (v := (.slice (some ⟨p, 1, none⟩) 7 7)) rfl (by kernel_rfl) (by kernel_rfl) (by kernel_rfl) (fun _ _ _ h => nomatch h.1) (.inl ⟨rfl, fun _ hS => exec_slice8n (k := p) (lo := 1) (hi := 8) rfl rfl rfl rfl (by omega) (by omega) (by omega) (by omega) (by omega) _⟩) (HPF.out _ d0') ?_
          simp only [List.getElem_toArray, List.getElem_cons_succ, List.getElem_cons_zero, Act.put, List.setIfInBounds_toArray, List.set_cons_succ, List.set_cons_zero]
          refine wpAnyH_all (rs := [1, 5]) (by kernel_rfl) (by simp) ?_
          intro k hk
          simp only [List.mem_cons, List.mem_nil_iff, or_false] at hk
          rcases hk with rfl | rfl
          · refine wpOp_run rfl rfl (wp_bs0g Try.underlying22 info5 rfl ?_)
            have o1 : (V.drew.alloc (.cells #[] 5)).ownsRow V.heap.size 5 1 (.slice (some ⟨V.drew.heap.size, 0, none⟩) 0 0) ([] : List UInt8).length (Lib.byteCells []) := own_low (own_empty V.drew) d0'.size
            have d1 := d0'.alloc d0'.size (.cells #[] 5)
            obtain ⟨g1, hg1⟩ : ∃ g, V.drew.heap.size = g := ⟨_, rfl⟩
            rw [hg1] at o1 ⊢
            generalize V.drew.alloc (.cells #[] 5) = u1 at *
            refine ⟨(HPF.out _ d1), ?_⟩
            simp only [List.getElem_toArray, List.getElem_cons_succ, List.getElem_cons_zero, Act.put, List.setIfInBounds_toArray, List.set_cons_succ, List.set_cons_zero]
            refine wpAnyH_all (rs := [5]) (by kernel_rfl) (by simp) ?_
            intro k hk
            simp only [List.mem_cons, List.mem_nil_iff, or_false] at hk
            subst hk
            refine wpOp_run rfl rfl (wp_loadG rfl rfl (load_bytes _ _ _ _ _ _ (HLD.out _ d1).1) ?_)
            refine ⟨(HPF.out _ d1), ?_⟩
            simp only [List.getElem_toArray, List.getElem_cons_succ, List.getElem_cons_zero, Act.put, List.setIfInBounds_toArray, List.set_cons_succ, List.set_cons_zero]
            refine wpAnyH_all (rs := [6]) (by kernel_rfl) (by simp) ?_
            intro k hk
            simp only [List.mem_cons, List.mem_nil_iff, or_false] at hk
            subst hk
            refine wpOp_run rfl rfl (wp_append_bytes _ _ rfl V.heap.size (.slice (some ⟨g1, 0, none⟩) 0 0) [] rfl o1 (.slice av nv cv) t.bs rfl (HBY.out _ d1) hlen1 d1.size ?_)
            intro v2 u2 o2 G2 H2
            obtain ⟨a2, c2, hv2⟩ := own_shape5 o2
            subst hv2
            have d2 := d1.grown G2 d1.size (fun k e => own_lt o1 k e)
            rw [List.nil_append] at o2
            refine ⟨(HPF.out _ d2), ?_⟩
            simp only [List.getElem_toArray, List.getElem_cons_succ, List.getElem_cons_zero, Act.put, List.setIfInBounds_toArray, List.set_cons_succ, List.set_cons_zero]
            refine wpAnyH_all (rs := [8]) (by kernel_rfl) (by simp) ?_
            intro k hk
            simp only [List.mem_cons, List.mem_nil_iff, or_false] at hk
            subst hk
            refine wpOp_run rfl rfl (wp_append_bytes _ _ rfl V.heap.size (.slice a2 t.bs.length c2) t.bs rfl o2 (.slice (some ⟨p, 1, none⟩) 7 7) (f.l.drop 1) rfl ((HPF.out _ d2).tail) hlen2 d2.size ?_)
            intro v3 u3 o3 G3 H3
            obtain ⟨a3, c3', hv3⟩ := own_shape5 o3
            subst hv3
            have d3 := d2.grown G3 d2.size (fun k e => own_lt o2 k e)
            refine ⟨(HPF.out _ d3), ?_⟩
            simp only [List.getElem_toArray, List.getElem_cons_succ, List.getElem_cons_zero, Act.put, List.setIfInBounds_toArray, List.set_cons_succ, List.set_cons_zero]
            refine wpAnyH_take (i := 9) (v := (.pointer (some ⟨D, 0, none⟩))) rfl (by kernel_rfl) (by kernel_rfl) (by kernel_rfl) (fun _ _ _ h => nomatch h.1) (.inl ⟨rfl, fun _ hS => by simp [execOp, go_sem, Act.eval]⟩) (HPF.out _ d3) ?_
            simp only [List.getElem_toArray, List.getElem_cons_succ, List.getElem_cons_zero, Act.put, List.setIfInBounds_toArray, List.set_cons_succ, List.set_cons_zero]
            refine wpAnyH_take (i := 10) (v := (.pointer (some ⟨D, 11, none⟩))) rfl (by kernel_rfl) (by kernel_rfl) (by kernel_rfl) (fun _ _ _ h => nomatch h.1) (.inl ⟨rfl, fun _ hS => by simp [execOp, go_sem, Act.eval]⟩) (HPF.out _ d3) ?_
            simp only [List.getElem_toArray, List.getElem_cons_succ, List.getElem_cons_zero, Act.put, List.setIfInBounds_toArray, List.set_cons_succ, List.set_cons_zero]
            refine wpAnyH_all (rs := [11]) (by kernel_rfl) (by simp) ?_
            intro k hk
            simp only [List.mem_cons, List.mem_nil_iff, or_false] at hk
            subst hk
            refine wpOp_run rfl rfl (wp_store_cell 22 _ _ rfl D 11 rfl (.slice a3 (t.bs ++ f.l.drop 1).length c3') rfl (store_bytes u3 D 11 _ _ _ _ (HLD.out _ d3).1 (HLD.out _ d3).2) ?_)
            have z9 := HST.out u3 a3 c3' d3 o3
            refine ⟨z9.1, ?_⟩
            simp only [List.getElem_toArray, List.getElem_cons_succ, List.getElem_cons_zero, Act.put, List.setIfInBounds_toArray, List.set_cons_succ, List.set_cons_zero]
            refine wpAnyH_done (by kernel_rfl) ?_ _
            exact ⟨rfl, (g1, (a2, c2), (a3, c3')), rfl, z9⟩
          · refine wpOp_run rfl rfl (wp_loadG rfl rfl (load_bytes _ _ _ _ _ _ (HLD.out _ d0').1) ?_)
            refine ⟨(HPF.out _ d0'), ?_⟩
            simp only [List.getElem_toArray, List.getElem_cons_succ, List.getElem_cons_zero, Act.put, List.setIfInBounds_toArray, List.set_cons_succ, List.set_cons_zero]
            refine wpAnyH_all (rs := [1]) (by kernel_rfl) (by simp) ?_
            intro k hk
            simp only [List.mem_cons, List.mem_nil_iff, or_false] at hk
            subst hk
            refine wpOp_run rfl rfl (wp_bs0g Try.underlying22 info5 rfl ?_)
            have o1 : (V.drew.alloc (.cells #[] 5)).ownsRow V.heap.size 5 1 (.slice (some ⟨V.drew.heap.size, 0, none⟩) 0 0) ([] : List UInt8).length (Lib.byteCells []) := own_low (own_empty V.drew) d0'.size
            have d1 := d0'.alloc d0'.size (.cells #[] 5)
            obtain ⟨g1, hg1⟩ : ∃ g, V.drew.heap.size = g := ⟨_, rfl⟩
            rw [hg1] at o1 ⊢
            generalize V.drew.alloc (.cells #[] 5) = u1 at *
            refine ⟨(HPF.out _ d1), ?_⟩
            simp only [List.getElem_toArray, List.getElem_cons_succ, List.getElem_cons_zero, Act.put, List.setIfInBounds_toArray, List.set_cons_succ, List.set_cons_zero]
            refine wpAnyH_all (rs := [6]) (by kernel_rfl) (by simp) ?_
            intro k hk
            simp only [List.mem_cons, List.mem_nil_iff, or_false] at hk
            subst hk
            refine wpOp_run rfl rfl (wp_append_bytes _ _ rfl V.heap.size (.slice (some ⟨g1, 0, none⟩) 0 0) [] rfl o1 (.slice av nv cv) t.bs rfl (HBY.out _ d1) hlen1 d1.size ?_)
            intro v2 u2 o2 G2 H2
            obtain ⟨a2, c2, hv2⟩ := own_shape5 o2
            subst hv2
            have d2 := d1.grown G2 d1.size (fun k e => own_lt o1 k e)
            rw [List.nil_append] at o2
            refine ⟨(HPF.out _ d2), ?_⟩
            simp only [List.getElem_toArray, List.getElem_cons_succ, List.getElem_cons_zero, Act.put, List.setIfInBounds_toArray, List.set_cons_succ, List.set_cons_zero]
            refine wpAnyH_all (rs := [8]) (by kernel_rfl) (by simp) ?_
            intro k hk
            simp only [List.mem_cons, List.mem_nil_iff, or_false] at hk
            subst hk
            refine wpOp_run rfl rfl (wp_append_bytes _ _ rfl V.heap.size (.slice a2 t.bs.length c2) t.bs rfl o2 (.slice (some ⟨p, 1, none⟩) 7 7) (f.l.drop 1) rfl ((HPF.out _ d2).tail) hlen2 d2.size ?_)
            intro v3 u3 o3 G3 H3
            obtain ⟨a3, c3', hv3⟩ := own_shape5 o3
            subst hv3
            have d3 := d2.grown G3 d2.size (fun k e => own_lt o2 k e)
            refine ⟨(HPF.out _ d3), ?_⟩
            simp only [List.getElem_toArray, List.getElem_cons_succ, List.getElem_cons_zero, Act.put, List.setIfInBounds_toArray, List.set_cons_succ, List.set_cons_zero]
            refine wpAnyH_take (i := 9) (v := (.pointer (some ⟨D, 0, none⟩))) rfl (by kernel_rfl) (by kernel_rfl) (by kernel_rfl) (fun _ _ _ h => nomatch h.1) (.inl ⟨rfl, fun _ hS => by simp [execOp, go_sem, Act.eval]⟩) (HPF.out _ d3) ?_
            simp only [List.getElem_toArray, List.getElem_cons_succ, List.getElem_cons_zero, Act.put, List.setIfInBounds_toArray, List.set_cons_succ, List.set_cons_zero]
            refine wpAnyH_take (i := 10) (v := (.pointer (some ⟨D, 11, none⟩))) rfl (by kernel_rfl) (by kernel_rfl) (by kernel_rfl) (fun _ _ _ h => nomatch h.1) (.inl ⟨rfl, fun _ hS => by simp [execOp, go_sem, Act.eval]⟩) (HPF.out _ d3) ?_
            simp only [List.getElem_toArray, List.getElem_cons_succ, List.getElem_cons_zero, Act.put, List.setIfInBounds_toArray, List.set_cons_succ, List.set_cons_zero]
            refine wpAnyH_all (rs := [11]) (by kernel_rfl) (by simp) ?_
            intro k hk
            simp only [List.mem_cons, List.mem_nil_iff, or_false] at hk
            subst hk
            refine wpOp_run rfl rfl (wp_store_cell 22 _ _ rfl D 11 rfl (.slice a3 (t.bs ++ f.l.drop 1).length c3') rfl (store_bytes u3 D 11 _ _ _ _ (HLD.out _ d3).1 (HLD.out _ d3).2) ?_)
            have z9 := HST.out u3 a3 c3' d3 o3
            refine ⟨z9.1, ?_⟩
            simp only [List.getElem_toArray, List.getElem_cons_succ, List.getElem_cons_zero, Act.put, List.setIfInBounds_toArray, List.set_cons_succ, List.set_cons_zero]
            refine wpAnyH_done (by kernel_rfl) ?_ _
            exact ⟨rfl, (g1, (a2, c2), (a3, c3')), rfl, z9⟩
        intro u y hI
        simp only [Act.put, List.setIfInBounds_toArray, List.set_cons_succ, List.set_cons_zero]
        obtain ⟨g1, ⟨a2, c2⟩, ⟨a3, c3'⟩⟩ := u
        obtain ⟨py, dy, ky, oy⟩ := hI
        simp only at dy ky oy
        obtain ⟨NN, hNN⟩ : ∃ L, t.bs ++ f.l.drop 1 = L := ⟨_, rfl⟩
        rw [hNN] at dy oy HT ⊢
        have hNl : NN.length = nv + 7 := by rw [← hNN, List.length_append, HF7.out, hnv]
        obtain ⟨n3, hn3⟩ : ∃ n, NN.length = n := ⟨_, rfl⟩
        rw [hn3] at dy oy hNl ⊢
        have qy := HQ0.out.kq ky (by simpa using hqD)
        have x0 := py.c0
        have y11 := dy.c11
        have y2 := dy.c2
        have f2 := dy.fr 2
        have y1 := dy.c1
        have f1 := dy.fr 1
        have HDy := hidOf2 dy
        have HKy := hidOf2 ky
        have HPy := hidOf2 py
        have HQy := hidOf2 qy
        have HOy := hidOf2 oy
        clear HST HLD HBY HPF d0' dV kV pV dy ky py qy oy hNN hV y12 f11 f12 HBT HD HP0 HQ0 x1 x2 hlen1 hlen2 HF7
        by_cases c6 : 65543 < nv + 7
        · have d6 : decide ((65543 : Int) < (n3 : Int)) = true := by simp; omega
          have hG := HG.out 84148229 (by decide) (by rw [eR, HT.out, if_neg (by simpa using HC4.out), if_pos c6]) y _ _ _ _ _ _ _ HDy.out HKy.out
          clear HG HT eR
          generalize frm 128 0 0 84148229 = ga at *
          go_wp2_with (first | (go_at_call 37; refine hG.mono ?_; rintro e w3 ⟨rfl, q3, hz3⟩; have HZ := hidOf2 hz3; clear hz3) | (refine sdF (g := ga) q3 rfl _ _ rfl rfl rfl ?_))
          obtain ⟨r1, r2⟩ := HZ.out _ rfl
          exact bodyPost_ret (dfeedR_results r1 _ rfl rfl) rfl r2
        · have d6 : decide ((65543 : Int) < (n3 : Int)) = false := by simp; omega
          have HE : Hid (RS = if 128 ≤ f.b0.toNat then (some (rAns (cm + 1) sz), ⟨2, sz, NN, cm + 1, 0⟩)
            else if cm + 1 = sz then (some (rAns (cm + 1) sz), ⟨1, sz, NN, 0, 0⟩)
            else (none, ⟨1, sz, NN, cm + 1, 0⟩)) := by
            show _ = _
            rw [eR, HT.out, if_neg (by simpa using HC4.out), if_neg c6]
          have HX : Hid (∀ X, X = y.setCell ⟨D, 2, none⟩ (.int .i64 ((cm : Int) + 1)) → Dq D sz does (cm + 1) l (.slice a3 n3 c3') cd NN X ∧ Kp [D] W X ∧ Qb p f X ∧ Qb q F8.nul X) := fun X hX => by
            subst hX
            have hk := Kp.cell1 y D 2 (.int .i64 ((cm : Int) + 1))
            exact ⟨HDy.out.set 2 _ (by simp [drA]), HKy.out.trans hk, HPy.out.kq hk (by simpa using hpD), HQy.out.kq hk (by simpa using hqD)⟩
          have hc256 : cm + 1 < 256 := by have := HC4.out; omega
          have hs256 : sz < 256 := by omega
          clear HG HT eR hv
          go_upto_region 19 with fail
          obtain ⟨X, hX⟩ : ∃ X, y.setCell ⟨D, 2, none⟩ (.int .i64 ((cm : Int) + 1)) = X := ⟨_, rfl⟩
          rw [hX]
          obtain ⟨dX, kX, pX, qX⟩ := HX.out X hX.symm
          have x0 := pX.c0
          have y1 := dX.c1
          have y2 : X.cell? ⟨D, 2, none⟩ = some (.int .i64 ((cm : Int) + 1)) := by rw [dX.c2]; simp
          have y0 := dX.c0
          have f1 := dX.fr 1
          clear HX hX HDy HKy HPy HQy y11 f2
          by_cases c7 : 128 ≤ f.b0.toNat
          · have d7 : decide ((128 : Int) ≤ (f.b0.toNat : Int)) = true := by simp; omega
            have eS : RS = (some (rAns (cm + 1) sz), ⟨2, sz, NN, cm + 1, 0⟩) := by rw [HE.out, if_pos c7]
            have HY : Hid (∀ Y, Y = X.setCell ⟨D, 1, none⟩ (.int .i64 1) → Dq D sz 1 (cm + 1) l (.slice a3 n3 c3') cd NN Y ∧ Kp [D] W Y ∧ Qb p f Y ∧ Qb q F8.nul Y) := fun Y hY => by
              subst hY
              have hk := Kp.cell1 X D 1 (.int .i64 1)
              exact ⟨dX.set 1 _ (by simp [drA]), kX.trans hk, pX.kq hk (by simpa using hpD), qX.kq hk (by simpa using hqD)⟩
            clear dX kX pX qX HE
            go_upto_region 21 with fail
            obtain ⟨Y, hY⟩ : ∃ Y, X.setCell ⟨D, 1, none⟩ (.int .i64 1) = Y := ⟨_, rfl⟩
            rw [hY]
            obtain ⟨dY, kY, pY, qY⟩ := HY.out Y hY.symm
            have x0 := pY.c0
            have hTn := fun n => dtells_any (dY.drawn n) hc256 hs256
            have HP : Hid (∀ n y, Dq D sz 1 0 (rAns (cm + 1) sz) (.slice a3 n3 c3') cd NN y → Kp [D] (Y.drewN n) y → Qb q F8.nul y ∧ ∀ Z, Z = y.setRow q (rAns (cm + 1) sz).arr → Qb q (rAns (cm + 1) sz) Z ∧ DwPost w D v RS (.returned (.tuple #[.agg (rAns (cm + 1) sz).arr, .bool true])) Z) := fun n y hy hk => by
              have hqy := Qb.kq (show Qb q F8.nul (Y.drewN n) from qY) hk (by simpa using hqD)
              refine ⟨hqy, ?_⟩
              rw [eS]
              exact Dw.lay (t := ⟨2, sz, NN, cm + 1, 0⟩) (v1 := .slice a3 n3 c3') ⟨sz, 1, 0, _, cd, hy, ⟨rfl, fun _ => ⟨rfl, hcd, rfl⟩, (fun h => by simp at h), fun _ => rfl, (fun h => by simp at h)⟩⟩ hqy (((HK.out.trans kY).trans (Kp.drawn _ _ n)).trans hk) hwq (fun b hb => .inr (HOy.out b hb)) _ _ _ rfl rfl
            obtain ⟨ff, hff⟩ : ∃ f, rAns (cm + 1) sz = f := ⟨_, rfl⟩
            rw [hff] at hTn HP
            clear HY hY dY kY pY qY eS hff y0 y1 y2
            go_quiet (fail)
            have hT := hTn nq
            have HP := hidOf2 (HP.out nq)
            clear hTn
            go_wp2_with (first | (go_at_call 38; refine hT.mono ?_; rintro e w2 ⟨rfl, d2, k2⟩; obtain ⟨q2, HP2⟩ := HP.out w2 d2 k2; have HP2 := hidOf2 HP2; clear d2 k2) | (refine sdF (g := ff) q2 rfl _ _ rfl rfl rfl ?_))
            obtain ⟨r1, r2⟩ := HP2.out _ rfl
            exact bodyPost_ret (dfeedR_results r1 _ rfl rfl) rfl r2
          · have d7 : decide ((128 : Int) ≤ (f.b0.toNat : Int)) = false := by simp; omega
            by_cases c8 : cm + 1 = sz
            · have d8 : ((cm : Int) + 1 == (sz : Int)) = true := by simp; omega
              have eS : RS = (some (rAns (cm + 1) sz), ⟨1, sz, NN, 0, 0⟩) := by rw [HE.out, if_neg c7, if_pos c8]
              have hTn := fun n => dtells_any (dX.drawn n) hc256 hs256
              have HP : Hid (∀ n y, Dq D sz does 0 (rAns (cm + 1) sz) (.slice a3 n3 c3') cd NN y → Kp [D] (X.drewN n) y → Qb q F8.nul y ∧ ∀ Z, Z = y.setRow q (rAns (cm + 1) sz).arr → Qb q (rAns (cm + 1) sz) Z ∧ DwPost w D v RS (.returned (.tuple #[.agg (rAns (cm + 1) sz).arr, .bool true])) Z) := fun n y hy hk => by
                have hqy := Qb.kq (show Qb q F8.nul (X.drewN n) from qX) hk (by simpa using hqD)
                refine ⟨hqy, ?_⟩
                rw [eS]
                exact Dw.lay (t := ⟨1, sz, NN, 0, 0⟩) (v1 := .slice a3 n3 c3') ⟨sz, does, 0, _, cd, hy, ⟨by show does + 1 = 1; omega, fun _ => ⟨rfl, hcd, rfl⟩, fun _ => rfl, (fun h => by simp at h), (fun h => by simp at h)⟩⟩ hqy (((HK.out.trans kX).trans (Kp.drawn _ _ n)).trans hk) hwq (fun b hb => .inr (HOy.out b hb)) _ _ _ rfl rfl
              obtain ⟨ff, hff⟩ : ∃ f, rAns (cm + 1) sz = f := ⟨_, rfl⟩
              rw [hff] at hTn HP
              clear dX kX pX qX eS hff HE c8
              go_upto_region 21 with fail
              go_quiet (fail)
              have hT := hTn nq
              have HP := hidOf2 (HP.out nq)
              clear hTn
              go_wp2_with (first | (go_at_call 38; refine hT.mono ?_; rintro e w2 ⟨rfl, d2, k2⟩; obtain ⟨q2, HP2⟩ := HP.out w2 d2 k2; have HP2 := hidOf2 HP2; clear d2 k2) | (refine sdF (g := ff) q2 rfl _ _ rfl rfl rfl ?_))
              obtain ⟨r1, r2⟩ := HP2.out _ rfl
              exact bodyPost_ret (dfeedR_results r1 _ rfl rfl) rfl r2
            · have d8 : ((cm : Int) + 1 == (sz : Int)) = false := by simp; omega
              have eS : RS = (none, ⟨1, sz, NN, cm + 1, 0⟩) := by rw [HE.out, if_neg c7, if_neg c8]
              have HP : Hid (∀ n Z, Z = (X.drewN n).setRow q F8.nul.arr → Qb q F8.nul Z ∧ DwPost w D v RS (.returned (.tuple #[.agg F8.nul.arr, .bool false])) Z) := fun n => by
                rw [eS]
                exact Dw.lay (t := ⟨1, sz, NN, cm + 1, 0⟩) (v1 := .slice a3 n3 c3') ⟨sz, does, cm + 1, _, cd, dX.drawn n, ⟨by show does + 1 = 1; omega, fun _ => ⟨rfl, hcd, rfl⟩, fun _ => rfl, (fun h => by simp at h), (fun h => by simp at h)⟩⟩ (show Qb q F8.nul (X.drewN n) from qX) ((HK.out.trans kX).trans (Kp.drawn _ _ n)) hwq (fun b hb => .inr (HOy.out b hb)) _ _ none rfl rfl
              have HQn : Hid (∀ n, Qb q F8.nul (X.drewN n)) := fun n => qX
              clear dX kX pX qX eS HE c8
              go_upto_region 21 with fail
              go_quiet (fail)
              have qn := HQn.out nq
              go_wp2_with (first | (refine sdF (g := F8.nul) qn rfl _ _ rfl rfl (by rw [hna]; first | rfl | (simp [Act.eval]; done)) ?_))
              obtain ⟨r1, r2⟩ := HP.out nq _ rfl
              exact bodyPost_ret (dfeedR_results r1 _ rfl rfl) rfl r2
      · have e4 : ((f.b0.toNat : Int) % 128 != (cm : Int) + 1) = true := by simp; omega
        have HP := hidOf2 (HN.out (by rw [eR, HT.out, if_pos c4]))
        have HQn : Hid (∀ n, Qb q F8.nul (W.drewN n)) := fun n => HQ0.out
        clear HD HK d0 b0 hq HR HN HT HG HBT
        generalize f.b0.toNat = f0 at *
        go_enter Try.func16, Try.ntmps16
        go_upto_region 1 with fail
        first | (change Code.wp Try.prog _ _ _ ((w.alloc (.cells f.arr 30)).alloc (.cells zA8 30)); rw [hW0, hW]) | (change Code.wp Try.prog _ _ _ (W0.alloc (.cells zA8 30)); rw [hW]) | (change Code.wp Try.prog _ _ _ W)
        go_upto_region 13 with fail
        go_quiet (fail)
        have qn := HQn.out nq
        go_wp2_with (first | (refine sdF (g := F8.nul) qn rfl _ _ rfl rfl (by rw [hna]; first | rfl | (simp [Act.eval]; done)) ?_))
        obtain ⟨r1, r2⟩ := HP.out nq _ rfl
        exact bodyPost_ret (dfeedR_results r1 _ rfl rfl) rfl r2
    · have c2 : t.st = 2 := by omega
      have e2 : ((does : Int) == 1) = true := by simp; omega
      have h7 := hok.seven c2
      have hbl := hok.bs
      by_cases c4 : f.b0.toNat / 32 = 4
      · have e4 : ((f.b0.toNat : Int) / 32 == 4) = true := by simp; omega
        have lf := p0.load
        have hC := dnumber_any f W
        have hN := num4_lt f
        have HX : Hid (∀ y, Below W.heap.size W y → ∀ Z, Z = ((y.setCell ⟨D, 1, none⟩ (.int .i64 2)).setCell ⟨D, 12, none⟩ (.int .u32 (num4 f : Nat))).setCell ⟨D, 11, none⟩ (.slice none 0 0) → Qb q F8.nul Z ∧ ∀ Y, Y = Z.setRow q F8.nul.arr → Qb q F8.nul Y ∧ DwPost w D v RS (.returned (.tuple #[.agg F8.nul.arr, .bool false])) Y) := fun y hy Z hZ => by
          subst hZ
          have d1 := HD.out.below hy
          have h1 := d1.set (sz1 := sz) (does1 := 2) (cm1 := cm) (cd1 := cd) 1 (.int .i64 2) (by simp [drA])
          have h2 := h1.set (sz1 := sz) (does1 := 2) (cm1 := cm) (cd1 := num4 f) 12 (.int .u32 (num4 f : Nat)) (by simp [drA])
          have h3 := h2.setV (.slice none 0 0) [] (Bytes.nil _) (fun ao n c e => by injection e; omega) (fun b e => by cases e)
          have k1 := Kp.cell1 y D 1 (.int .i64 2)
          have k2 := Kp.cell1 (y.setCell ⟨D, 1, none⟩ (.int .i64 2)) D 12 (.int .u32 (num4 f : Nat))
          have k3 := Kp.cell1 ((y.setCell ⟨D, 1, none⟩ (.int .i64 2)).setCell ⟨D, 12, none⟩ (.int .u32 (num4 f : Nat))) D 11 (.slice none 0 0)
          have k := (k1.trans k2).trans k3
          have hqz := (HQ0.out.below hy).kq k (by simpa using hqD)
          refine ⟨hqz, ?_⟩
          rw [HR.out, if_neg c1, if_pos ⟨c2, c4⟩]
          exact Dw.lay (t := Rc.fin (num4 f) []) (v := v) (v1 := .slice none 0 0) ⟨sz, 2, cm, l, num4 f, h3, ⟨rfl, fun h => absurd rfl h, (fun h => by simp [Rc.fin] at h), (fun h => by simp [Rc.fin] at h), fun _ => rfl⟩⟩ hqz ((HK.out.trans (Kp.of_below hy)).trans k) hwq (fun b hb => by cases hb) _ _ none rfl rfl
        have HLD : Hid (∀ y, Below W.heap.size W y → y.cell? ⟨D, 1, none⟩ = some (.int .i64 (does : Int)) ∧ y.cell? ⟨D, 12, none⟩ = some (.int .u32 (cd : Int)) ∧ y.cell? ⟨D, 11, none⟩ = some (.slice av nv cv)) := fun y hy => ⟨(HD.out.below hy).c1, (HD.out.below hy).c12, by rw [← hv]; exact (HD.out.below hy).c11⟩
        clear d0 b0 hq HR HN HG HBT c4
        generalize num4 f = N at *
        go_enter Try.func16, Try.ntmps16
        go_upto_region 1 with fail
        first | (change Code.wp Try.prog _ _ _ ((w.alloc (.cells f.arr 30)).alloc (.cells zA8 30)); rw [hW0, hW]) | (change Code.wp Try.prog _ _ _ (W0.alloc (.cells zA8 30)); rw [hW]) | (change Code.wp Try.prog _ _ _ W)
        go_upto_region 12 with (first | (refine ldG lf rfl _ rfl rfl ?_) | (go_at_call 29; refine hC.mono ?_; rintro e w1 ⟨rfl, b1⟩; obtain ⟨y1, y12, y11⟩ := HLD.out w1 b1; have f1 := (HD.out.below b1).fr 1; have f11 := (HD.out.below b1).fr 11; have f12 := (HD.out.below b1).fr 12; have HX := hidOf2 (HX.out w1 b1); clear b1))
        obtain ⟨Z, hZ⟩ : ∃ Z, ((w1.setCell ⟨D, 1, none⟩ (.int .i64 2)).setCell ⟨D, 12, none⟩ (.int .u32 (N : Nat))).setCell ⟨D, 11, none⟩ (.slice none 0 0) = Z := ⟨_, rfl⟩
        rw [hZ]
        obtain ⟨qZ, HY⟩ := HX.out Z hZ.symm
        have HY := hidOf2 HY
        clear HX hZ y1 y12 y11 f1 f11 f12
        go_wp2_with (first | (refine sdF (g := F8.nul) qZ rfl _ _ rfl rfl (by rw [hna]; first | rfl | (simp [Act.eval]; done)) ?_))
        obtain ⟨r1, r2⟩ := HY.out _ rfl
        exact bodyPost_ret (dfeedR_results r1 _ rfl rfl) rfl r2
      · have e4 : ((f.b0.toNat : Int) / 32 == 4) = false := by simp; omega
        by_cases c5 : f.b0.toNat / 32 = 6 ∧ f.b0.toNat % 2 = 1
        · obtain ⟨ad, hav⟩ : ∃ ad, av = some ad := by
            obtain ⟨ao, cap, h1, h0, _⟩ := HD.out.bt
            rw [hv] at h1
            injection h1 with h1 h2 h3
            cases av with
            | none =>
              obtain ⟨h4, _⟩ := h0 h1.symm
              rw [h4] at h7
              simp at h7
            | some ad => exact ⟨ad, rfl⟩
          subst hav
          obtain ⟨sp, hsp⟩ : ∃ k, f.b0.toNat / 4 % 8 = k := ⟨_, rfl⟩
          obtain ⟨n, hn⟩ : ∃ n, t.bs.length - f.b0.toNat / 4 % 8 = n := ⟨_, rfl⟩
          obtain ⟨sm, hsm⟩ : ∃ k, f.b1.toNat + 256 * f.b2.toNat = k := ⟨_, rfl⟩
          have hsp8 : sp < 8 := by omega
          have hLn : nv = sp + n := by omega
          have hL6 : nv < 1000000 := by omega
          have hncv : n ≤ cv := by omega
          have hE : RS = if 65536 < n ∨ crc16 (t.bs.take n) ≠ sm then rGive 84148228 else (some (frm 161 0 0 0), .fin 0 (t.bs.take n)) := by
            rw [HR.out, if_neg c1, if_neg (fun h => c4 h.2), if_pos ⟨c2, c5⟩]
            unfold rEnd
            rw [hn, hsm]
          have HTK : Hid ((t.bs.take n).length = n) := by show _ = _; rw [List.length_take]; omega
          have hcl := crc16_lt (t.bs.take n)
          have HBN : Hid (∀ y, Kp [D] W y → Bytes y (.slice (some ad) n cv) (t.bs.take n)) := fun y hk => bytes_take (HBT.out y hk) n (by omega)
          have HCR : Hid (∀ y, Kp [D] W y → Calls Try.prog 32 #[.slice (some ad) n cv] y fun e w' => e = .returned (.int .u16 (crc16 (t.bs.take n))) ∧ w' = y) := fun y hk => rCRC16_bytes _ _ _ (by rw [HTK.out]; unfold maxLen; omega) (HBN.out y hk)
          obtain ⟨cr, hcr⟩ : ∃ c, crc16 (t.bs.take n) = c := ⟨_, rfl⟩
          rw [hcr] at hE HCR hcl
          have e6 : ((f.b0.toNat : Int) / 32 == 6) = true := by simp; omega
          have e7 : ((f.b0.toNat : Int) % 2 == 1) = true := by simp; omega
          have S0 : (fun y : World => y.cell? ⟨D, 11, none⟩ = some (.slice (some ad) nv cv) ∧ Qb p f y) W.drew := ⟨y11, HP0.out⟩
          have S1 : (fun y : World => y.cell? ⟨D, 11, none⟩ = some (.slice (some ad) nv cv) ∧ Qb p f y) W.drew.drew := ⟨y11, HP0.out⟩
          have HE := hidOf2 hE
          have hq4 : f.b0.toNat / 4 < 256 := by omega
          have hbx : f.b1.toNat + 256 * f.b2.toNat = sm := hsm
          have hK2 : Kp [D] W W.drew.drew := Kp.drawn _ _ 2
          clear HR hcr hE HN hq d0 b0 hn c4
          by_cases c6 : 65536 < n
          · have hG := HG.out 84148228 (by decide) (by rw [HE.out, if_pos (.inl c6)]) W.drew.drew _ _ _ _ _ _ _ (HD.out.drawn 2) hK2
            have d6 : decide (65536 < n) = true := by simp; omega
            clear HG HE HCR HBN
            generalize frm 128 0 0 84148228 = ga at *
            go_enter Try.func16, Try.ntmps16
            go_upto_region 1 with fail
            first | (change Code.wp Try.prog _ _ _ ((w.alloc (.cells f.arr 30)).alloc (.cells zA8 30)); rw [hW0, hW]) | (change Code.wp Try.prog _ _ _ (W0.alloc (.cells zA8 30)); rw [hW]) | (change Code.wp Try.prog _ _ _ W)
            go_upto_region 7 with fail
            refine wp_region_held (S := fun y : World => y.cell? ⟨D, 11, none⟩ = some (.slice (some ad) nv cv) ∧ Qb p f y) (by kernel_rfl) ?_
            change wpAnyH _ _ _ _ _ _ _ _ W.drew
            refine wpAnyH_take (i := 0) (v := (.pointer (some ⟨D, 0, none⟩))) rfl (by kernel_rfl) (by kernel_rfl) (by kernel_rfl) (fun _ _ _ h => h) (.inl ⟨rfl, fun _ hS => rfl⟩) S0 ?_
            simp only [List.getElem_toArray, List.getElem_cons_succ, List.getElem_cons_zero, Act.put, List.setIfInBounds_toArray, List.set_cons_succ, List.set_cons_zero]
            refine wpAnyH_take (i := 1) (v := (.pointer (some ⟨D, 0, none⟩))) rfl (by kernel_rfl) (by kernel_rfl) (by kernel_rfl) (fun _ _ _ h => h) (.inl ⟨rfl, fun _ hS => by simp [execOp, go_sem, Act.eval]⟩) S0 ?_
            simp only [List.getElem_toArray, List.getElem_cons_succ, List.getElem_cons_zero, Act.put, List.setIfInBounds_toArray, List.set_cons_succ, List.set_cons_zero]
            refine wpAnyH_take (i := 2) (v := (.pointer (some ⟨D, 11, none⟩))) rfl (by kernel_rfl) (by kernel_rfl) (by kernel_rfl) (fun _ _ _ h => h) (.inl ⟨rfl, fun _ hS => by simp [execOp, go_sem, Act.eval]⟩) S0 ?_
            simp only [List.getElem_toArray, List.getElem_cons_succ, List.getElem_cons_zero, Act.put, List.setIfInBounds_toArray, List.set_cons_succ, List.set_cons_zero]
            refine wpAnyH_take (i := 3) (v := (.slice (some ad) nv cv)) rfl (by kernel_rfl) (by kernel_rfl) (by kernel_rfl) (fun _ _ _ h => h) (.inl ⟨rfl, fun _ hS => exec_load rfl rfl (load_bytes _ _ _ _ _ _ hS.1)⟩) S0 ?_
            simp only [List.getElem_toArray, List.getElem_cons_succ, List.getElem_cons_zero, Act.put, List.setIfInBounds_toArray, List.set_cons_succ, List.set_cons_zero]
            refine wpAnyH_take (i := 4) (v := (.int .i64 (nv : Int))) rfl (by kernel_rfl) (by kernel_rfl) (by kernel_rfl) (fun _ _ _ h => h) (.inl ⟨rfl, fun _ hS => exec_lenB rfl rfl _⟩) S0 ?_
            simp only [List.getElem_toArray, List.getElem_cons_succ, List.getElem_cons_zero, Act.put, List.setIfInBounds_toArray, List.set_cons_succ, List.set_cons_zero]
            refine wpAnyH_take (i := 5) (v := (.pointer (some ⟨p, 0, none⟩))) rfl (by kernel_rfl) (by kernel_rfl) (by kernel_rfl) (fun _ _ _ h => h) (.inl ⟨rfl, fun _ hS => exec_idx8 (k := 0) rfl rfl rfl (by decide) _⟩) S0 ?_
            simp only [List.getElem_toArray, List.getElem_cons_succ, List.getElem_cons_zero, Act.put, List.setIfInBounds_toArray, List.set_cons_succ, List.set_cons_zero]
            refine wpAnyH_take (i := 6) (v := (.int .u8 (f.b0.toNat : Int))) rfl (by kernel_rfl) (by kernel_rfl) (by kernel_rfl) (fun _ _ _ h => h) (.inl ⟨rfl, fun _ hS => exec_load rfl rfl (load_u8 _ _ _ _ hS.2.c0)⟩) S0 ?_
            simp only [List.getElem_toArray, List.getElem_cons_succ, List.getElem_cons_zero, Act.put, List.setIfInBounds_toArray, List.set_cons_succ, List.set_cons_zero]
            refine wpAnyH_take (i := 7) (v := (.int .u8 ((f.b0.toNat / 4 : Nat) : Int))) rfl (by kernel_rfl) (by kernel_rfl) (by kernel_rfl) (fun _ _ _ h => h) (.inl ⟨rfl, fun _ hS => exec_quoU (k := 4) rfl rfl rfl l0 (by decide) (by decide) _⟩) S0 ?_
            simp only [List.getElem_toArray, List.getElem_cons_succ, List.getElem_cons_zero, Act.put, List.setIfInBounds_toArray, List.set_cons_succ, List.set_cons_zero]
            refine wpAnyH_take (i := 8) (v := (.int .u8 (sp : Int))) rfl (by kernel_rfl) (by kernel_rfl) (by kernel_rfl) (fun _ _ _ h => h) (.inl ⟨rfl, fun _ hS => by rw [← hsp]; exact exec_remU (k := 8) rfl rfl rfl hq4 (by decide) (by decide) _⟩) S0 ?_
            simp only [List.getElem_toArray, List.getElem_cons_succ, List.getElem_cons_zero, Act.put, List.setIfInBounds_toArray, List.set_cons_succ, List.set_cons_zero]
            refine wpAnyH_take (i := 9) (v := (.int .i64 (sp : Int))) rfl (by kernel_rfl) (by kernel_rfl) (by kernel_rfl) (fun _ _ _ h => h) (.inl ⟨rfl, fun _ hS => exec_convI rfl rfl (by omega) _⟩) S0 ?_
            simp only [List.getElem_toArray, List.getElem_cons_succ, List.getElem_cons_zero, Act.put, List.setIfInBounds_toArray, List.set_cons_succ, List.set_cons_zero]
            refine wpAnyH_take (i := 10) (v := (.int .i64 (n : Int))) rfl (by kernel_rfl) (by kernel_rfl) (by kernel_rfl) (fun _ _ _ h => h) (.inl ⟨rfl, fun _ hS => exec_subI rfl rfl rfl hLn hL6 _⟩) S0 ?_
            simp only [List.getElem_toArray, List.getElem_cons_succ, List.getElem_cons_zero, Act.put, List.setIfInBounds_toArray, List.set_cons_succ, List.set_cons_zero]
            refine wpAnyH_take (i := 11) (v := (.int .i64 (n : Int))) rfl (by kernel_rfl) (by kernel_rfl) (by kernel_rfl) (fun _ _ _ h => h) (.inl ⟨rfl, fun _ hS => rfl⟩) S0 ?_
            simp only [List.getElem_toArray, List.getElem_cons_succ, List.getElem_cons_zero, Act.put, List.setIfInBounds_toArray, List.set_cons_succ, List.set_cons_zero]
            refine wpAnyH_done (by kernel_rfl) ?_ _
            go_upto_region 8 with fail
            refine wp_region_held (S := fun y : World => y.cell? ⟨D, 11, none⟩ = some (.slice (some ad) nv cv) ∧ Qb p f y) (by kernel_rfl) ?_
            change wpAnyH _ _ _ _ _ _ _ _ W.drew.drew
            refine wpAnyH_take (i := 0) (v := (.int .i64 (n : Int))) rfl (by kernel_rfl) (by kernel_rfl) (by kernel_rfl) (fun _ _ _ h => h) (.inl ⟨rfl, fun _ hS => rfl⟩) S1 ?_
            simp only [List.getElem_toArray, List.getElem_cons_succ, List.getElem_cons_zero, Act.put, List.setIfInBounds_toArray, List.set_cons_succ, List.set_cons_zero]
            refine wpAnyH_take (i := 1) (v := (.bool false)) rfl (by kernel_rfl) (by kernel_rfl) (by kernel_rfl) (fun _ _ _ h => h) (.inl ⟨rfl, fun _ hS => exec_lssF rfl rfl rfl _⟩) S1 ?_
            simp only [List.getElem_toArray, List.getElem_cons_succ, List.getElem_cons_zero, Act.put, List.setIfInBounds_toArray, List.set_cons_succ, List.set_cons_zero]
            refine wpAnyH_take (i := 2) (v := (.bool false)) rfl (by kernel_rfl) (by kernel_rfl) (by kernel_rfl) (fun _ _ _ h => h) (.inl ⟨rfl, fun _ hS => rfl⟩) S1 ?_
            simp only [List.getElem_toArray, List.getElem_cons_succ, List.getElem_cons_zero, Act.put, List.setIfInBounds_toArray, List.set_cons_succ, List.set_cons_zero]
            refine wpAnyH_take (i := 3) (v := (.int .i64 (n : Int))) rfl (by kernel_rfl) (by kernel_rfl) (by kernel_rfl) (fun _ _ _ h => h) (.inl ⟨rfl, fun _ hS => rfl⟩) S1 ?_
            simp only [List.getElem_toArray, List.getElem_cons_succ, List.getElem_cons_zero, Act.put, List.setIfInBounds_toArray, List.set_cons_succ, List.set_cons_zero]
            refine wpAnyH_take (i := 4) (v := (.bool true)) rfl (by kernel_rfl) (by kernel_rfl) (by kernel_rfl) (fun _ _ _ h => h) (.inl ⟨rfl, fun _ hS => exec_gtrB (k := 65536) rfl rfl rfl d6 _⟩) S1 ?_
            simp only [List.getElem_toArray, List.getElem_cons_succ, List.getElem_cons_zero, Act.put, List.setIfInBounds_toArray, List.set_cons_succ, List.set_cons_zero]
            refine wpAnyH_take (i := 5) (v := (.bool true)) rfl (by kernel_rfl) (by kernel_rfl) (by kernel_rfl) (fun _ _ _ h => h) (.inl ⟨rfl, fun _ hS => exec_pickF (.bool true) rfl rfl rfl _⟩) S1 ?_
            simp only [List.getElem_toArray, List.getElem_cons_succ, List.getElem_cons_zero, Act.put, List.setIfInBounds_toArray, List.set_cons_succ, List.set_cons_zero]
            refine wpAnyH_take (i := 6) (v := (.bool true)) rfl (by kernel_rfl) (by kernel_rfl) (by kernel_rfl) (fun _ _ _ h => h) (.inl ⟨rfl, fun _ hS => rfl⟩) S1 ?_
            simp only [List.getElem_toArray, List.getElem_cons_succ, List.getElem_cons_zero, Act.put, List.setIfInBounds_toArray, List.set_cons_succ, List.set_cons_zero]
            refine wpAnyH_take (i := 7) (v := undef) rfl (by kernel_rfl) (by kernel_rfl) (by kernel_rfl) (fun _ _ _ h => h) (.inr ⟨rfl, rfl⟩) S1 ?_
            simp only [List.getElem_toArray, List.getElem_cons_succ, List.getElem_cons_zero, Act.put, List.setIfInBounds_toArray, List.set_cons_succ, List.set_cons_zero]
            refine wpAnyH_take (i := 8) (v := undef) rfl (by kernel_rfl) (by kernel_rfl) (by kernel_rfl) (fun _ _ _ h => h) (.inr ⟨rfl, rfl⟩) S1 ?_
            simp only [List.getElem_toArray, List.getElem_cons_succ, List.getElem_cons_zero, Act.put, List.setIfInBounds_toArray, List.set_cons_succ, List.set_cons_zero]
            refine wpAnyH_take (i := 9) (v := undef) rfl (by kernel_rfl) (by kernel_rfl) (by kernel_rfl) (fun _ _ _ h => h) (.inr ⟨rfl, rfl⟩) S1 ?_
            simp only [List.getElem_toArray, List.getElem_cons_succ, List.getElem_cons_zero, Act.put, List.setIfInBounds_toArray, List.set_cons_succ, List.set_cons_zero]
            refine wpAnyH_take (i := 10) (v := undef) rfl (by kernel_rfl) (by kernel_rfl) (by kernel_rfl) (fun _ _ _ h => h) (.inr ⟨rfl, rfl⟩) S1 ?_
            simp only [List.getElem_toArray, List.getElem_cons_succ, List.getElem_cons_zero, Act.put, List.setIfInBounds_toArray, List.set_cons_succ, List.set_cons_zero]
            refine wpAnyH_take (i := 11) (v := undef) rfl (by kernel_rfl) (by kernel_rfl) (by kernel_rfl) (fun _ _ _ h => h) (.inr ⟨rfl, rfl⟩) S1 ?_
            simp only [List.getElem_toArray, List.getElem_cons_succ, List.getElem_cons_zero, Act.put, List.setIfInBounds_toArray, List.set_cons_succ, List.set_cons_zero]
            refine wpAnyH_take (i := 12) (v := undef) rfl (by kernel_rfl) (by kernel_rfl) (by kernel_rfl) (fun _ _ _ h => h) (.inr ⟨rfl, rfl⟩) S1 ?_
            simp only [List.getElem_toArray, List.getElem_cons_succ, List.getElem_cons_zero, Act.put, List.setIfInBounds_toArray, List.set_cons_succ, List.set_cons_zero]
            refine wpAnyH_take (i := 13) (v := undef) rfl (by kernel_rfl) (by kernel_rfl) (by kernel_rfl) (fun _ _ _ h => h) (.inr ⟨rfl, rfl⟩) S1 ?_
            simp only [List.getElem_toArray, List.getElem_cons_succ, List.getElem_cons_zero, Act.put, List.setIfInBounds_toArray, List.set_cons_succ, List.set_cons_zero]
            refine wpAnyH_take (i := 14) (v := undef) rfl (by kernel_rfl) (by kernel_rfl) (by kernel_rfl) (fun _ _ _ h => h) (.inr ⟨rfl, rfl⟩) S1 ?_
            simp only [List.getElem_toArray, List.getElem_cons_succ, List.getElem_cons_zero, Act.put, List.setIfInBounds_toArray, List.set_cons_succ, List.set_cons_zero]
            refine wpAnyH_take (i := 15) (v := undef) rfl (by kernel_rfl) (by kernel_rfl) (by kernel_rfl) (fun _ _ _ h => h) (.inr ⟨rfl, rfl⟩) S1 ?_
            simp only [List.getElem_toArray, List.getElem_cons_succ, List.getElem_cons_zero, Act.put, List.setIfInBounds_toArray, List.set_cons_succ, List.set_cons_zero]
            refine wpAnyH_take (i := 16) (v := undef) rfl (by kernel_rfl) (by kernel_rfl) (by kernel_rfl) (fun _ _ _ h => h) (.inr ⟨rfl, rfl⟩) S1 ?_
            simp only [List.getElem_toArray, List.getElem_cons_succ, List.getElem_cons_zero, Act.put, List.setIfInBounds_toArray, List.set_cons_succ, List.set_cons_zero]
            refine wpAnyH_take (i := 17) (v := undef) rfl (by kernel_rfl) (by kernel_rfl) (by kernel_rfl) (fun _ _ _ h => h) (.inr ⟨rfl, rfl⟩) S1 ?_
            simp only [List.getElem_toArray, List.getElem_cons_succ, List.getElem_cons_zero, Act.put, List.setIfInBounds_toArray, List.set_cons_succ, List.set_cons_zero]
            refine wpAnyH_take (i := 18) (v := undef) rfl (by kernel_rfl) (by kernel_rfl) (by kernel_rfl) (fun _ _ _ h => h) (.inr ⟨rfl, rfl⟩) S1 ?_
            simp only [List.getElem_toArray, List.getElem_cons_succ, List.getElem_cons_zero, Act.put, List.setIfInBounds_toArray, List.set_cons_succ, List.set_cons_zero]
            refine wpAnyH_take (i := 19) (v := undef) rfl (by kernel_rfl) (by kernel_rfl) (by kernel_rfl) (fun _ _ _ h => h) (.inr ⟨rfl, rfl⟩) S1 ?_
            simp only [List.getElem_toArray, List.getElem_cons_succ, List.getElem_cons_zero, Act.put, List.setIfInBounds_toArray, List.set_cons_succ, List.set_cons_zero]
            refine wpAnyH_take (i := 20) (v := undef) rfl (by kernel_rfl) (by kernel_rfl) (by kernel_rfl) (fun _ _ _ h => h) (.inr ⟨rfl, rfl⟩) S1 ?_
            simp only [List.getElem_toArray, List.getElem_cons_succ, List.getElem_cons_zero, Act.put, List.setIfInBounds_toArray, List.set_cons_succ, List.set_cons_zero]
            refine wpAnyH_take (i := 21) (v := undef) rfl (by kernel_rfl) (by kernel_rfl) (by kernel_rfl) (fun _ _ _ h => h) (.inr ⟨rfl, rfl⟩) S1 ?_
            simp only [List.getElem_toArray, List.getElem_cons_succ, List.getElem_cons_zero, Act.put, List.setIfInBounds_toArray, List.set_cons_succ, List.set_cons_zero]
            refine wpAnyH_take (i := 22) (v := undef) rfl (by kernel_rfl) (by kernel_rfl) (by kernel_rfl) (fun _ _ _ h => h) (.inr ⟨rfl, rfl⟩) S1 ?_
            simp only [List.getElem_toArray, List.getElem_cons_succ, List.getElem_cons_zero, Act.put, List.setIfInBounds_toArray, List.set_cons_succ, List.set_cons_zero]
            refine wpAnyH_take (i := 23) (v := undef) rfl (by kernel_rfl) (by kernel_rfl) (by kernel_rfl) (fun _ _ _ h => h) (.inr ⟨rfl, rfl⟩) S1 ?_
            simp only [List.getElem_toArray, List.getElem_cons_succ, List.getElem_cons_zero, Act.put, List.setIfInBounds_toArray, List.set_cons_succ, List.set_cons_zero]
            refine wpAnyH_take (i := 24) (v := (.bool true)) rfl (by kernel_rfl) (by kernel_rfl) (by kernel_rfl) (fun _ _ _ h => h) (.inl ⟨rfl, fun _ hS => exec_pickT (.bool true) rfl rfl rfl _⟩) S1 ?_
            simp only [List.getElem_toArray, List.getElem_cons_succ, List.getElem_cons_zero, Act.put, List.setIfInBounds_toArray, List.set_cons_succ, List.set_cons_zero]
            refine wpAnyH_done (by kernel_rfl) ?_ _
            clear S0 S1
            go_wp2_with (first | (go_at_call 37; refine hG.mono ?_; rintro e w3 ⟨rfl, q3, hz3⟩; have HZ := hidOf2 hz3; clear hz3) | (refine sdF (g := ga) q3 rfl _ _ rfl rfl rfl ?_))
            obtain ⟨r1, r2⟩ := HZ.out _ rfl
            exact bodyPost_ret (dfeedR_results r1 _ rfl rfl) rfl r2
          · have d6 : decide (65536 < n) = false := by simp; omega
            have hCr := HCR.out W.drew.drew hK2
            by_cases c7 : cr = sm
            · have d7 : ((cr : Int) != (sm : Int)) = false := by simp; omega
              have eS : RS = (some (frm 161 0 0 0), .fin 0 (t.bs.take n)) := by rw [HE.out, if_neg (by intro hh; rcases hh with hh | hh; exact c6 hh; exact hh c7)]
              have S2 : (fun y : World => Qb p f y) W.drew.drew.drew := HP0.out
              have y11d : W.drew.drew.drew.cell? ⟨D, 11, none⟩ = some (.slice (some ad) nv cv) := y11
              have y1d : W.drew.drew.drew.cell? ⟨D, 1, none⟩ = some (.int .i64 (does : Int)) := y1
              have f1d : W.drew.drew.drew.frozen? ⟨D, 1, none⟩ = false := f1
              have dd := HD.out.drawn 3
              have dS := dd.set (sz1 := sz) (does1 := 2) (cm1 := cm) (cd1 := cd) 1 (.int .i64 2) (by simp [drA])
              have y11s : (W.drew.drew.drew.setCell ⟨D, 1, none⟩ (.int .i64 2)).cell? ⟨D, 11, none⟩ = some (.slice (some ad) nv cv) := by rw [← hv]; exact dS.c11
              have f11s : (W.drew.drew.drew.setCell ⟨D, 1, none⟩ (.int .i64 2)).frozen? ⟨D, 11, none⟩ = false := dS.fr 11
              have k1 := Kp.cell1 W.drew.drew.drew D 1 (.int .i64 2)
              have k2 := Kp.cell1 (W.drew.drew.drew.setCell ⟨D, 1, none⟩ (.int .i64 2)) D 11 (.slice (some ad) n cv)
              have hKd : Kp [D] W W.drew.drew.drew := Kp.drawn _ _ 3
              have S3 : (fun y : World => Qb p f y) (W.drew.drew.drew.setCell ⟨D, 1, none⟩ (.int .i64 2)) := Qb.kq (show Qb p f W.drew.drew.drew from HP0.out) k1 (by simpa using hpD)
              have S4 : (fun y : World => Qb p f y) ((W.drew.drew.drew.setCell ⟨D, 1, none⟩ (.int .i64 2)).setCell ⟨D, 11, none⟩ (.slice (some ad) n cv)) := Qb.kq S3 k2 (by simpa using hpD)
              have HX : Hid (∀ X, X = (W.drew.drew.drew.setCell ⟨D, 1, none⟩ (.int .i64 2)).setCell ⟨D, 11, none⟩ (.slice (some ad) n cv) → Qb q F8.nul X ∧ ∀ Z, Z = X.setRow q (frm 161 0 0 0).arr → Qb q (frm 161 0 0 0) Z ∧ DwPost w D v RS (.returned (.tuple #[.agg (frm 161 0 0 0).arr, .bool true])) Z) := fun X hX => by
                subst hX
                have hk := k1.trans k2
                have dX := dS.setV (.slice (some ad) n cv) (t.bs.take n) (HBN.out _ (hKd.trans k1)) (fun ao m c e => by injection e; omega) (fun b hb => dS.ty b (by rw [hv]; exact hb))
                have hqx := Qb.kq (show Qb q F8.nul W.drew.drew.drew from HQ0.out) hk (by simpa using hqD)
                refine ⟨hqx, ?_⟩
                rw [eS]
                exact Dw.lay (t := Rc.fin 0 (t.bs.take n)) (v := v) (v1 := .slice (some ad) n cv) ⟨sz, 2, cm, l, cd, dX, ⟨rfl, fun h => absurd rfl h, (fun h => by simp [Rc.fin] at h), (fun h => by simp [Rc.fin] at h), fun _ => hcd⟩⟩ hqx ((HK.out.trans hKd).trans hk) hwq (fun b hb => .inl (by rw [hv]; exact hb)) _ _ (some (frm 161 0 0 0)) rfl rfl
              have h161 := hidOf2 frm161
              clear HG HE HCR dd dS k1 k2
              generalize frm 161 0 0 0 = ga at *
              go_enter Try.func16, Try.ntmps16
              go_upto_region 1 with fail
              first | (change Code.wp Try.prog _ _ _ ((w.alloc (.cells f.arr 30)).alloc (.cells zA8 30)); rw [hW0, hW]) | (change Code.wp Try.prog _ _ _ (W0.alloc (.cells zA8 30)); rw [hW]) | (change Code.wp Try.prog _ _ _ W)
              go_upto_region 7 with fail
              refine wp_region_held (S := fun y : World => y.cell? ⟨D, 11, none⟩ = some (.slice (some ad) nv cv) ∧ Qb p f y) (by kernel_rfl) ?_
              change wpAnyH _ _ _ _ _ _ _ _ W.drew
              refine wpAnyH_take (i := 0) (v := (.pointer (some ⟨D, 0, none⟩))) rfl (by kernel_rfl) (by kernel_rfl) (by kernel_rfl) (fun _ _ _ h => h) (.inl ⟨rfl, fun _ hS => rfl⟩) S0 ?_
              simp only [List.getElem_toArray, List.getElem_cons_succ, List.getElem_cons_zero, Act.put, List.setIfInBounds_toArray, List.set_cons_succ, List.set_cons_zero]
              refine wpAnyH_take (i := 1) (v := (.pointer (some ⟨D, 0, none⟩))) rfl (by kernel_rfl) (by kernel_rfl) (by kernel_rfl) (fun _ _ _ h => h) (.inl ⟨rfl, fun _ hS => by simp [execOp, go_sem, Act.eval]⟩) S0 ?_
              simp only [List.getElem_toArray, List.getElem_cons_succ, List.getElem_cons_zero, Act.put, List.setIfInBounds_toArray, List.set_cons_succ, List.set_cons_zero]
              refine wpAnyH_take (i := 2) (v := (.pointer (some ⟨D, 11, none⟩))) rfl (by kernel_rfl) (by kernel_rfl) (by kernel_rfl) (fun _ _ _ h => h) (.inl ⟨rfl, fun _ hS => by simp [execOp, go_sem, Act.eval]⟩) S0 ?_
              simp only [List.getElem_toArray, List.getElem_cons_succ, List.getElem_cons_zero, Act.put, List.setIfInBounds_toArray, List.set_cons_succ, List.set_cons_zero]
              refine wpAnyH_take (i := 3) (v := (.slice (some ad) nv cv)) rfl (by kernel_rfl) (by kernel_rfl) (by kernel_rfl) (fun _ _ _ h => h) (.inl ⟨rfl, fun _ hS => exec_load rfl rfl (load_bytes _ _ _ _ _ _ hS.1)⟩) S0 ?_
              simp only [List.getElem_toArray, List.getElem_cons_succ, List.getElem_cons_zero, Act.put, List.setIfInBounds_toArray, List.set_cons_succ, List.set_cons_zero]
              refine wpAnyH_take (i := 4) (v := (.int .i64 (nv : Int))) rfl (by kernel_rfl) (by kernel_rfl) (by kernel_rfl) (fun _ _ _ h => h) (.inl ⟨rfl, fun _ hS => exec_lenB rfl rfl _⟩) S0 ?_
              simp only [List.getElem_toArray, List.getElem_cons_succ, List.getElem_cons_zero, Act.put, List.setIfInBounds_toArray, List.set_cons_succ, List.set_cons_zero]
              refine wpAnyH_take (i := 5) (v := (.pointer (some ⟨p, 0, none⟩))) rfl (by kernel_rfl) (by kernel_rfl) (by kernel_rfl) (fun _ _ _ h => h) (.inl ⟨rfl, fun _ hS => exec_idx8 (k := 0) rfl rfl rfl (by decide) _⟩) S0 ?_
              simp only [List.getElem_toArray, List.getElem_cons_succ, List.getElem_cons_zero, Act.put, List.setIfInBounds_toArray, List.set_cons_succ, List.set_cons_zero]
              refine wpAnyH_take (i := 6) (v := (.int .u8 (f.b0.toNat : Int))) rfl (by kernel_rfl) (by kernel_rfl) (by kernel_rfl) (fun _ _ _ h => h) (.inl ⟨rfl, fun _ hS => exec_load rfl rfl (load_u8 _ _ _ _ hS.2.c0)⟩) S0 ?_
              simp only [List.getElem_toArray, List.getElem_cons_succ, List.getElem_cons_zero, Act.put, List.setIfInBounds_toArray, List.set_cons_succ, List.set_cons_zero]
              refine wpAnyH_take (i := 7) (v := (.int .u8 ((f.b0.toNat / 4 : Nat) : Int))) rfl (by kernel_rfl) (by kernel_rfl) (by kernel_rfl) (fun _ _ _ h => h) (.inl ⟨rfl, fun _ hS => exec_quoU (k := 4) rfl rfl rfl l0 (by decide) (by decide) _⟩) S0 ?_
              simp only [List.getElem_toArray, List.getElem_cons_succ, List.getElem_cons_zero, Act.put, List.setIfInBounds_toArray, List.set_cons_succ, List.set_cons_zero]
              refine wpAnyH_take (i := 8) (v := (.int .u8 (sp : Int))) rfl (by kernel_rfl) (by kernel_rfl) (by kernel_rfl) (fun _ _ _ h => h) (.inl ⟨rfl, fun _ hS => by rw [← hsp]; exact exec_remU (k := 8) rfl rfl rfl hq4 (by decide) (by decide) _⟩) S0 ?_
              simp only [List.getElem_toArray, List.getElem_cons_succ, List.getElem_cons_zero, Act.put, List.setIfInBounds_toArray, List.set_cons_succ, List.set_cons_zero]
              refine wpAnyH_take (i := 9) (v := (.int .i64 (sp : Int))) rfl (by kernel_rfl) (by kernel_rfl) (by kernel_rfl) (fun _ _ _ h => h) (.inl ⟨rfl, fun _ hS => exec_convI rfl rfl (by omega) _⟩) S0 ?_
              simp only [List.getElem_toArray, List.getElem_cons_succ, List.getElem_cons_zero, Act.put, List.setIfInBounds_toArray, List.set_cons_succ, List.set_cons_zero]
              refine wpAnyH_take (i := 10) (v := (.int .i64 (n : Int))) rfl (by kernel_rfl) (by kernel_rfl) (by kernel_rfl) (fun _ _ _ h => h) (.inl ⟨rfl, fun _ hS => exec_subI rfl rfl rfl hLn hL6 _⟩) S0 ?_
              simp only [List.getElem_toArray, List.getElem_cons_succ, List.getElem_cons_zero, Act.put, List.setIfInBounds_toArray, List.set_cons_succ, List.set_cons_zero]
              refine wpAnyH_take (i := 11) (v := (.int .i64 (n : Int))) rfl (by kernel_rfl) (by kernel_rfl) (by kernel_rfl) (fun _ _ _ h => h) (.inl ⟨rfl, fun _ hS => rfl⟩) S0 ?_
              simp only [List.getElem_toArray, List.getElem_cons_succ, List.getElem_cons_zero, Act.put, List.setIfInBounds_toArray, List.set_cons_succ, List.set_cons_zero]
              refine wpAnyH_done (by kernel_rfl) ?_ _
              go_upto_region 8 with fail
              refine wp_region_held (S := fun y : World => y.cell? ⟨D, 11, none⟩ = some (.slice (some ad) nv cv) ∧ Qb p f y) (by kernel_rfl) ?_
              change wpAnyH _ _ _ _ _ _ _ _ W.drew.drew
              refine wpAnyH_take (i := 0) (v := (.int .i64 (n : Int))) rfl (by kernel_rfl) (by kernel_rfl) (by kernel_rfl) (fun _ _ _ h => h) (.inl ⟨rfl, fun _ hS => rfl⟩) S1 ?_
              simp only [List.getElem_toArray, List.getElem_cons_succ, List.getElem_cons_zero, Act.put, List.setIfInBounds_toArray, List.set_cons_succ, List.set_cons_zero]
              refine wpAnyH_take (i := 1) (v := (.bool false)) rfl (by kernel_rfl) (by kernel_rfl) (by kernel_rfl) (fun _ _ _ h => h) (.inl ⟨rfl, fun _ hS => exec_lssF rfl rfl rfl _⟩) S1 ?_
              simp only [List.getElem_toArray, List.getElem_cons_succ, List.getElem_cons_zero, Act.put, List.setIfInBounds_toArray, List.set_cons_succ, List.set_cons_zero]
              refine wpAnyH_take (i := 2) (v := (.bool false)) rfl (by kernel_rfl) (by kernel_rfl) (by kernel_rfl) (fun _ _ _ h => h) (.inl ⟨rfl, fun _ hS => rfl⟩) S1 ?_
              simp only [List.getElem_toArray, List.getElem_cons_succ, List.getElem_cons_zero, Act.put, List.setIfInBounds_toArray, List.set_cons_succ, List.set_cons_zero]
              refine wpAnyH_take (i := 3) (v := (.int .i64 (n : Int))) rfl (by kernel_rfl) (by kernel_rfl) (by kernel_rfl) (fun _ _ _ h => h) (.inl ⟨rfl, fun _ hS => rfl⟩) S1 ?_
              simp only [List.getElem_toArray, List.getElem_cons_succ, List.getElem_cons_zero, Act.put, List.setIfInBounds_toArray, List.set_cons_succ, List.set_cons_zero]
              refine wpAnyH_take (i := 4) (v := (.bool false)) rfl (by kernel_rfl) (by kernel_rfl) (by kernel_rfl) (fun _ _ _ h => h) (.inl ⟨rfl, fun _ hS => exec_gtrB (k := 65536) rfl rfl rfl d6 _⟩) S1 ?_
              simp only [List.getElem_toArray, List.getElem_cons_succ, List.getElem_cons_zero, Act.put, List.setIfInBounds_toArray, List.set_cons_succ, List.set_cons_zero]
              refine wpAnyH_take (i := 5) (v := (.bool false)) rfl (by kernel_rfl) (by kernel_rfl) (by kernel_rfl) (fun _ _ _ h => h) (.inl ⟨rfl, fun _ hS => exec_pickF (.bool false) rfl rfl rfl _⟩) S1 ?_
              simp only [List.getElem_toArray, List.getElem_cons_succ, List.getElem_cons_zero, Act.put, List.setIfInBounds_toArray, List.set_cons_succ, List.set_cons_zero]
              refine wpAnyH_take (i := 6) (v := (.bool false)) rfl (by kernel_rfl) (by kernel_rfl) (by kernel_rfl) (fun _ _ _ h => h) (.inl ⟨rfl, fun _ hS => rfl⟩) S1 ?_
              simp only [List.getElem_toArray, List.getElem_cons_succ, List.getElem_cons_zero, Act.put, List.setIfInBounds_toArray, List.set_cons_succ, List.set_cons_zero]
              refine wpAnyH_take (i := 7) (v := (.pointer (some ⟨D, 0, none⟩))) rfl (by kernel_rfl) (by kernel_rfl) (by kernel_rfl) (fun _ _ _ h => h) (.inl ⟨rfl, fun _ hS => rfl⟩) S1 ?_
              simp only [List.getElem_toArray, List.getElem_cons_succ, List.getElem_cons_zero, Act.put, List.setIfInBounds_toArray, List.set_cons_succ, List.set_cons_zero]
              refine wpAnyH_take (i := 8) (v := (.pointer (some ⟨D, 0, none⟩))) rfl (by kernel_rfl) (by kernel_rfl) (by kernel_rfl) (fun _ _ _ h => h) (.inl ⟨rfl, fun _ hS => by simp [execOp, go_sem, Act.eval]⟩) S1 ?_
              simp only [List.getElem_toArray, List.getElem_cons_succ, List.getElem_cons_zero, Act.put, List.setIfInBounds_toArray, List.set_cons_succ, List.set_cons_zero]
              refine wpAnyH_take (i := 9) (v := (.pointer (some ⟨D, 11, none⟩))) rfl (by kernel_rfl) (by kernel_rfl) (by kernel_rfl) (fun _ _ _ h => h) (.inl ⟨rfl, fun _ hS => by simp [execOp, go_sem, Act.eval]⟩) S1 ?_
              simp only [List.getElem_toArray, List.getElem_cons_succ, List.getElem_cons_zero, Act.put, List.setIfInBounds_toArray, List.set_cons_succ, List.set_cons_zero]
              refine wpAnyH_take (i := 10) (v := (.slice (some ad) nv cv)) rfl (by kernel_rfl) (by kernel_rfl) (by kernel_rfl) (fun _ _ _ h => h) (.inl ⟨rfl, fun _ hS => exec_load rfl rfl (load_bytes _ _ _ _ _ _ hS.1)⟩) S1 ?_
              simp only [List.getElem_toArray, List.getElem_cons_succ, List.getElem_cons_zero, Act.put, List.setIfInBounds_toArray, List.set_cons_succ, List.set_cons_zero]
              refine wpAnyH_take (i := 11) (v := (.int .i64 (n : Int))) rfl (by kernel_rfl) (by kernel_rfl) (by kernel_rfl) (fun _ _ _ h => h) (.inl ⟨rfl, fun _ hS => rfl⟩) S1 ?_
              simp only [List.getElem_toArray, List.getElem_cons_succ, List.getElem_cons_zero, Act.put, List.setIfInBounds_toArray, List.set_cons_succ, List.set_cons_zero]
              refine wpAnyH_take (i := 12) (v := (.slice (some ad) n cv)) rfl (by kernel_rfl) (by kernel_rfl) (by kernel_rfl) (fun _ _ _ h => h) (.inl ⟨rfl, fun _ hS => exec_cutA rfl rfl rfl hncv _⟩) S1 ?_
              simp only [List.getElem_toArray, List.getElem_cons_succ, List.getElem_cons_zero, Act.put, List.setIfInBounds_toArray, List.set_cons_succ, List.set_cons_zero]
              refine wpAnyH_take (i := 15) (v := (.pointer (some ⟨p, 1, none⟩))) rfl (by kernel_rfl) (by kernel_rfl) (by kernel_rfl) (fun _ _ _ h => h) (.inl ⟨rfl, fun _ hS => exec_idx8 (k := 1) rfl rfl rfl (by decide) _⟩) S1 ?_
              simp only [List.getElem_toArray, List.getElem_cons_succ, List.getElem_cons_zero, Act.put, List.setIfInBounds_toArray, List.set_cons_succ, List.set_cons_zero]
              refine wpAnyH_take (i := 16) (v := (.int .u8 (f.b1.toNat : Int))) rfl (by kernel_rfl) (by kernel_rfl) (by kernel_rfl) (fun _ _ _ h => h) (.inl ⟨rfl, fun _ hS => exec_load rfl rfl (load_u8 _ _ _ _ hS.2.c1)⟩) S1 ?_
              simp only [List.getElem_toArray, List.getElem_cons_succ, List.getElem_cons_zero, Act.put, List.setIfInBounds_toArray, List.set_cons_succ, List.set_cons_zero]
              refine wpAnyH_take (i := 17) (v := (.int .i64 (f.b1.toNat : Int))) rfl (by kernel_rfl) (by kernel_rfl) (by kernel_rfl) (fun _ _ _ h => h) (.inl ⟨rfl, fun _ hS => exec_convI rfl rfl l1 _⟩) S1 ?_
              simp only [List.getElem_toArray, List.getElem_cons_succ, List.getElem_cons_zero, Act.put, List.setIfInBounds_toArray, List.set_cons_succ, List.set_cons_zero]
              refine wpAnyH_take (i := 18) (v := (.pointer (some ⟨p, 2, none⟩))) rfl (by kernel_rfl) (by kernel_rfl) (by kernel_rfl) (fun _ _ _ h => h) (.inl ⟨rfl, fun _ hS => exec_idx8 (k := 2) rfl rfl rfl (by decide) _⟩) S1 ?_
              simp only [List.getElem_toArray, List.getElem_cons_succ, List.getElem_cons_zero, Act.put, List.setIfInBounds_toArray, List.set_cons_succ, List.set_cons_zero]
              refine wpAnyH_take (i := 19) (v := (.int .u8 (f.b2.toNat : Int))) rfl (by kernel_rfl) (by kernel_rfl) (by kernel_rfl) (fun _ _ _ h => h) (.inl ⟨rfl, fun _ hS => exec_load rfl rfl (load_u8 _ _ _ _ hS.2.c2)⟩) S1 ?_
              simp only [List.getElem_toArray, List.getElem_cons_succ, List.getElem_cons_zero, Act.put, List.setIfInBounds_toArray, List.set_cons_succ, List.set_cons_zero]
              refine wpAnyH_take (i := 20) (v := (.int .i64 (f.b2.toNat : Int))) rfl (by kernel_rfl) (by kernel_rfl) (by kernel_rfl) (fun _ _ _ h => h) (.inl ⟨rfl, fun _ hS => exec_convI rfl rfl l2 _⟩) S1 ?_
              simp only [List.getElem_toArray, List.getElem_cons_succ, List.getElem_cons_zero, Act.put, List.setIfInBounds_toArray, List.set_cons_succ, List.set_cons_zero]
              refine wpAnyH_take (i := 21) (v := (.int .i64 ((256 * f.b2.toNat : Nat) : Int))) rfl (by kernel_rfl) (by kernel_rfl) (by kernel_rfl) (fun _ _ _ h => h) (.inl ⟨rfl, fun _ hS => exec_256mul rfl rfl rfl (by omega) _⟩) S1 ?_
              simp only [List.getElem_toArray, List.getElem_cons_succ, List.getElem_cons_zero, Act.put, List.setIfInBounds_toArray, List.set_cons_succ, List.set_cons_zero]
              refine wpAnyH_take (i := 22) (v := (.int .i64 (sm : Int))) rfl (by kernel_rfl) (by kernel_rfl) (by kernel_rfl) (fun _ _ _ h => h) (.inl ⟨rfl, fun _ hS => exec_addN rfl rfl rfl hbx (by omega) (by omega) _⟩) S1 ?_
              simp only [List.getElem_toArray, List.getElem_cons_succ, List.getElem_cons_zero, Act.put, List.setIfInBounds_toArray, List.set_cons_succ, List.set_cons_zero]
              refine wpAnyH_all (rs := [13]) (by kernel_rfl) (by simp) ?_
              intro k hk
              simp only [List.mem_cons, List.mem_nil_iff, or_false] at hk
              subst hk
              refine wpOp_runw rfl rfl (wp_call_fn 32 #[.slice (some ad) n cv] (by simp [execOp, go_sem, Act.eval, resolve, invoke, enRC]) ?_)
              refine hCr.mono ?_
              rintro e w1 ⟨rfl, hw1⟩
              rw [hw1]
              clear hw1 w1
              refine ⟨S1, ?_⟩
              simp only [List.getElem_toArray, List.getElem_cons_succ, List.getElem_cons_zero, Act.put, List.setIfInBounds_toArray, List.set_cons_succ, List.set_cons_zero]
              refine wpAnyH_take (i := 14) (v := (.int .i64 (cr : Int))) rfl (by kernel_rfl) (by kernel_rfl) (by kernel_rfl) (fun _ _ _ h => h) (.inl ⟨rfl, fun _ hS => exec_conv16 rfl rfl hcl _⟩) S1 ?_
              simp only [List.getElem_toArray, List.getElem_cons_succ, List.getElem_cons_zero, Act.put, List.setIfInBounds_toArray, List.set_cons_succ, List.set_cons_zero]
              refine wpAnyH_take (i := 23) (v := (.bool false)) rfl (by kernel_rfl) (by kernel_rfl) (by kernel_rfl) (fun _ _ _ h => h) (.inl ⟨rfl, fun _ hS => exec_neqB rfl rfl rfl d7 _⟩) S1 ?_
              simp only [List.getElem_toArray, List.getElem_cons_succ, List.getElem_cons_zero, Act.put, List.setIfInBounds_toArray, List.set_cons_succ, List.set_cons_zero]
              refine wpAnyH_take (i := 24) (v := (.bool false)) rfl (by kernel_rfl) (by kernel_rfl) (by kernel_rfl) (fun _ _ _ h => h) (.inl ⟨rfl, fun _ hS => exec_pickF (.bool false) rfl rfl rfl _⟩) S1 ?_
              simp only [List.getElem_toArray, List.getElem_cons_succ, List.getElem_cons_zero, Act.put, List.setIfInBounds_toArray, List.set_cons_succ, List.set_cons_zero]
              refine wpAnyH_done (by kernel_rfl) ?_ _
              go_upto_region 10 with fail
              refine wp_region_held (S := fun y : World => Qb p f y) (by kernel_rfl) ?_
              change wpAnyH _ _ _ _ _ _ _ _ W.drew.drew.drew
              refine wpAnyH_take (i := 0) (v := (.pointer (some ⟨D, 0, none⟩))) rfl (by kernel_rfl) (by kernel_rfl) (by kernel_rfl) (fun _ _ _ h => h) (.inl ⟨rfl, fun _ hS => rfl⟩) S2 ?_
              simp only [List.getElem_toArray, List.getElem_cons_succ, List.getElem_cons_zero, Act.put, List.setIfInBounds_toArray, List.set_cons_succ, List.set_cons_zero]
              refine wpAnyH_take (i := 1) (v := (.pointer (some ⟨D, 0, none⟩))) rfl (by kernel_rfl) (by kernel_rfl) (by kernel_rfl) (fun _ _ _ h => h) (.inl ⟨rfl, fun _ hS => rfl⟩) S2 ?_
              simp only [List.getElem_toArray, List.getElem_cons_succ, List.getElem_cons_zero, Act.put, List.setIfInBounds_toArray, List.set_cons_succ, List.set_cons_zero]
              refine wpAnyH_take (i := 2) (v := (.pointer (some ⟨D, 0, none⟩))) rfl (by kernel_rfl) (by kernel_rfl) (by kernel_rfl) (fun _ _ _ h => h) (.inl ⟨rfl, fun _ hS => rfl⟩) S2 ?_
              simp only [List.getElem_toArray, List.getElem_cons_succ, List.getElem_cons_zero, Act.put, List.setIfInBounds_toArray, List.set_cons_succ, List.set_cons_zero]
              refine wpAnyH_take (i := 3) (v := (.pointer (some ⟨D, 0, none⟩))) rfl (by kernel_rfl) (by kernel_rfl) (by kernel_rfl) (fun _ _ _ h => h) (.inl ⟨rfl, fun _ hS => by simp [execOp, go_sem, Act.eval]⟩) S2 ?_
              simp only [List.getElem_toArray, List.getElem_cons_succ, List.getElem_cons_zero, Act.put, List.setIfInBounds_toArray, List.set_cons_succ, List.set_cons_zero]
              refine wpAnyH_take (i := 4) (v := (.pointer (some ⟨D, 11, none⟩))) rfl (by kernel_rfl) (by kernel_rfl) (by kernel_rfl) (fun _ _ _ h => h) (.inl ⟨rfl, fun _ hS => by simp [execOp, go_sem, Act.eval]⟩) S2 ?_
              simp only [List.getElem_toArray, List.getElem_cons_succ, List.getElem_cons_zero, Act.put, List.setIfInBounds_toArray, List.set_cons_succ, List.set_cons_zero]
              refine wpAnyH_take (i := 6) (v := (.int .i64 (n : Int))) rfl (by kernel_rfl) (by kernel_rfl) (by kernel_rfl) (fun _ _ _ h => h) (.inl ⟨rfl, fun _ hS => rfl⟩) S2 ?_
              simp only [List.getElem_toArray, List.getElem_cons_succ, List.getElem_cons_zero, Act.put, List.setIfInBounds_toArray, List.set_cons_succ, List.set_cons_zero]
              refine wpAnyH_all (rs := [5]) (by kernel_rfl) (by simp) ?_
              intro k hk
              simp only [List.mem_cons, List.mem_nil_iff, or_false] at hk
              subst hk
              refine wpOp_run rfl rfl (wp_loadG rfl rfl (load_bytes _ _ _ _ _ _ y11d) ?_)
              refine ⟨S2, ?_⟩
              simp only [List.getElem_toArray, List.getElem_cons_succ, List.getElem_cons_zero, Act.put, List.setIfInBounds_toArray, List.set_cons_succ, List.set_cons_zero]
              refine wpAnyH_take (i := 7) (v := (.slice (some ad) n cv)) rfl (by kernel_rfl) (by kernel_rfl) (by kernel_rfl) (fun _ _ _ h => h) (.inl ⟨rfl, fun _ hS => exec_cutA rfl rfl rfl hncv _⟩) S2 ?_
              simp only [List.getElem_toArray, List.getElem_cons_succ, List.getElem_cons_zero, Act.put, List.setIfInBounds_toArray, List.set_cons_succ, List.set_cons_zero]
              refine wpAnyH_take (i := 8) (v := (.pointer (some ⟨D, 0, none⟩))) rfl (by kernel_rfl) (by kernel_rfl) (by kernel_rfl) (fun _ _ _ h => h) (.inl ⟨rfl, fun _ hS => by simp [execOp, go_sem, Act.eval]⟩) S2 ?_
              simp only [List.getElem_toArray, List.getElem_cons_succ, List.getElem_cons_zero, Act.put, List.setIfInBounds_toArray, List.set_cons_succ, List.set_cons_zero]
              refine wpAnyH_take (i := 9) (v := (.pointer (some ⟨D, 1, none⟩))) rfl (by kernel_rfl) (by kernel_rfl) (by kernel_rfl) (fun _ _ _ h => h) (.inl ⟨rfl, fun _ hS => by simp [execOp, go_sem, Act.eval]⟩) S2 ?_
              simp only [List.getElem_toArray, List.getElem_cons_succ, List.getElem_cons_zero, Act.put, List.setIfInBounds_toArray, List.set_cons_succ, List.set_cons_zero]
              refine wpAnyH_all (rs := [10]) (by kernel_rfl) (by simp) ?_
              intro k hk
              simp only [List.mem_cons, List.mem_nil_iff, or_false] at hk
              subst hk
              refine wpOp_run rfl rfl (wp_store_cell 3 _ _ rfl D 1 rfl (.int .i64 2) rfl (store_int _ D 1 _ _ y1d f1d) ?_)
              refine ⟨S3, ?_⟩
              simp only [List.getElem_toArray, List.getElem_cons_succ, List.getElem_cons_zero, Act.put, List.setIfInBounds_toArray, List.set_cons_succ, List.set_cons_zero]
              refine wpAnyH_take (i := 11) (v := (.pointer (some ⟨D, 0, none⟩))) rfl (by kernel_rfl) (by kernel_rfl) (by kernel_rfl) (fun _ _ _ h => h) (.inl ⟨rfl, fun _ hS => by simp [execOp, go_sem, Act.eval]⟩) S3 ?_
              simp only [List.getElem_toArray, List.getElem_cons_succ, List.getElem_cons_zero, Act.put, List.setIfInBounds_toArray, List.set_cons_succ, List.set_cons_zero]
              refine wpAnyH_take (i := 12) (v := (.pointer (some ⟨D, 11, none⟩))) rfl (by kernel_rfl) (by kernel_rfl) (by kernel_rfl) (fun _ _ _ h => h) (.inl ⟨rfl, fun _ hS => by simp [execOp, go_sem, Act.eval]⟩) S3 ?_
              simp only [List.getElem_toArray, List.getElem_cons_succ, List.getElem_cons_zero, Act.put, List.setIfInBounds_toArray, List.set_cons_succ, List.set_cons_zero]
              refine wpAnyH_all (rs := [13]) (by kernel_rfl) (by simp) ?_
              intro k hk
              simp only [List.mem_cons, List.mem_nil_iff, or_false] at hk
              subst hk
              refine wpOp_run rfl rfl (wp_store_cell 22 _ _ rfl D 11 rfl (.slice (some ad) n cv) rfl (store_bytes _ D 11 _ _ _ _ y11s f11s) ?_)
              refine ⟨S4, ?_⟩
              simp only [List.getElem_toArray, List.getElem_cons_succ, List.getElem_cons_zero, Act.put, List.setIfInBounds_toArray, List.set_cons_succ, List.set_cons_zero]
              refine wpAnyH_done (by kernel_rfl) ?_ _
              obtain ⟨X, hX⟩ : ∃ X, (W.drew.drew.drew.setCell ⟨D, 1, none⟩ (.int .i64 2)).setCell ⟨D, 11, none⟩ (.slice (some ad) n cv) = X := ⟨_, rfl⟩
              rw [hX]
              obtain ⟨qX, HZ⟩ := HX.out X hX.symm
              have HZ := hidOf2 HZ
              clear HX hX S0 S1 S2 S3 S4 y11d y1d f1d y11s f11s
              go_wp2_with (first | (refine sdF (g := ga) qX rfl _ _ rfl rfl (by rw [h161.out]; first | rfl | (simp [Act.eval]; done)) ?_))
              obtain ⟨r1, r2⟩ := HZ.out _ rfl
              exact bodyPost_ret (dfeedR_results r1 _ rfl rfl) rfl r2
            · have d7 : ((cr : Int) != (sm : Int)) = true := by simp; omega
              have hG := HG.out 84148228 (by decide) (by rw [HE.out, if_pos (.inr c7)]) W.drew.drew _ _ _ _ _ _ _ (HD.out.drawn 2) hK2
              clear HG HE HCR HBN
              generalize frm 128 0 0 84148228 = ga at *
              go_enter Try.func16, Try.ntmps16
              go_upto_region 1 with fail
              first | (change Code.wp Try.prog _ _ _ ((w.alloc (.cells f.arr 30)).alloc (.cells zA8 30)); rw [hW0, hW]) | (change Code.wp Try.prog _ _ _ (W0.alloc (.cells zA8 30)); rw [hW]) | (change Code.wp Try.prog _ _ _ W)
              go_upto_region 7 with fail
              refine wp_region_held (S := fun y : World => y.cell? ⟨D, 11, none⟩ = some (.slice (some ad) nv cv) ∧ Qb p f y) (by kernel_rfl) ?_
              change wpAnyH _ _ _ _ _ _ _ _ W.drew
              refine wpAnyH_take (i := 0) (v := (.pointer (some ⟨D, 0, none⟩))) rfl (by kernel_rfl) (by kernel_rfl) (by kernel_rfl) (fun _ _ _ h => h) (.inl ⟨rfl, fun _ hS => rfl⟩) S0 ?_
              simp only [List.getElem_toArray, List.getElem_cons_succ, List.getElem_cons_zero, Act.put, List.setIfInBounds_toArray, List.set_cons_succ, List.set_cons_zero]
              refine wpAnyH_take (i := 1) (v := (.pointer (some ⟨D, 0, none⟩))) rfl (by kernel_rfl) (by kernel_rfl) (by kernel_rfl) (fun _ _ _ h => h) (.inl ⟨rfl, fun _ hS => by simp [execOp, go_sem, Act.eval]⟩) S0 ?_
              simp only [List.getElem_toArray, List.getElem_cons_succ, List.getElem_cons_zero, Act.put, List.setIfInBounds_toArray, List.set_cons_succ, List.set_cons_zero]
              refine wpAnyH_take (i := 2) (v := (.pointer (some ⟨D, 11, none⟩))) rfl (by kernel_rfl) (by kernel_rfl) (by kernel_rfl) (fun _ _ _ h => h) (.inl ⟨rfl, fun _ hS => by simp [execOp, go_sem, Act.eval]⟩) S0 ?_
              simp only [List.getElem_toArray, List.getElem_cons_succ, List.getElem_cons_zero, Act.put, List.setIfInBounds_toArray, List.set_cons_succ, List.set_cons_zero]
              refine wpAnyH_take (i := 3) (v := (.slice (some ad) nv cv)) rfl (by kernel_rfl) (by kernel_rfl) (by kernel_rfl) (fun _ _ _ h => h) (.inl ⟨rfl, fun _ hS => exec_load rfl rfl (load_bytes _ _ _ _ _ _ hS.1)⟩) S0 ?_
              simp only [List.getElem_toArray, List.getElem_cons_succ, List.getElem_cons_zero, Act.put, List.setIfInBounds_toArray, List.set_cons_succ, List.set_cons_zero]
              refine wpAnyH_take (i := 4) (v := (.int .i64 (nv : Int))) rfl (by kernel_rfl) (by kernel_rfl) (by kernel_rfl) (fun _ _ _ h => h) (.inl ⟨rfl, fun _ hS => exec_lenB rfl rfl _⟩) S0 ?_
              simp only [List.getElem_toArray, List.getElem_cons_succ, List.getElem_cons_zero, Act.put, List.setIfInBounds_toArray, List.set_cons_succ, List.set_cons_zero]
              refine wpAnyH_take (i := 5) (v := (.pointer (some ⟨p, 0, none⟩))) rfl (by kernel_rfl) (by kernel_rfl) (by kernel_rfl) (fun _ _ _ h => h) (.inl ⟨rfl, fun _ hS => exec_idx8 (k := 0) rfl rfl rfl (by decide) _⟩) S0 ?_
              simp only [List.getElem_toArray, List.getElem_cons_succ, List.getElem_cons_zero, Act.put, List.setIfInBounds_toArray, List.set_cons_succ, List.set_cons_zero]
              refine wpAnyH_take (i := 6) (v := (.int .u8 (f.b0.toNat : Int))) rfl (by kernel_rfl) (by kernel_rfl) (by kernel_rfl) (fun _ _ _ h => h) (.inl ⟨rfl, fun _ hS => exec_load rfl rfl (load_u8 _ _ _ _ hS.2.c0)⟩) S0 ?_
              simp only [List.getElem_toArray, List.getElem_cons_succ, List.getElem_cons_zero, Act.put, List.setIfInBounds_toArray, List.set_cons_succ, List.set_cons_zero]
              refine wpAnyH_take (i := 7) (v := (.int .u8 ((f.b0.toNat / 4 : Nat) : Int))) rfl (by kernel_rfl) (by kernel_rfl) (by kernel_rfl) (fun _ _ _ h => h) (.inl ⟨rfl, fun _ hS => exec_quoU (k := 4) rfl rfl rfl l0 (by decide) (by decide) _⟩) S0 ?_
              simp only [List.getElem_toArray, List.getElem_cons_succ, List.getElem_cons_zero, Act.put, List.setIfInBounds_toArray, List.set_cons_succ, List.set_cons_zero]
              refine wpAnyH_take (i := 8) (v := (.int .u8 (sp : Int))) rfl (by kernel_rfl) (by kernel_rfl) (by kernel_rfl) (fun _ _ _ h => h) (.inl ⟨rfl, fun _ hS => by rw [← hsp]; exact exec_remU (k := 8) rfl rfl rfl hq4 (by decide) (by decide) _⟩) S0 ?_
              simp only [List.getElem_toArray, List.getElem_cons_succ, List.getElem_cons_zero, Act.put, List.setIfInBounds_toArray, List.set_cons_succ, List.set_cons_zero]
              refine wpAnyH_take (i := 9) (v := (.int .i64 (sp : Int))) rfl (by kernel_rfl) (by kernel_rfl) (by kernel_rfl) (fun _ _ _ h => h) (.inl ⟨rfl, fun _ hS => exec_convI rfl rfl (by omega) _⟩) S0 ?_
              simp only [List.getElem_toArray, List.getElem_cons_succ, List.getElem_cons_zero, Act.put, List.setIfInBounds_toArray, List.set_cons_succ, List.set_cons_zero]
              refine wpAnyH_take (i := 10) (v := (.int .i64 (n : Int))) rfl (by kernel_rfl) (by kernel_rfl) (by kernel_rfl) (fun _ _ _ h => h) (.inl ⟨rfl, fun _ hS => exec_subI rfl rfl rfl hLn hL6 _⟩) S0 ?_
              simp only [List.getElem_toArray, List.getElem_cons_succ, List.getElem_cons_zero, Act.put, List.setIfInBounds_toArray, List.set_cons_succ, List.set_cons_zero]
              refine wpAnyH_take (i := 11) (v := (.int .i64 (n : Int))) rfl (by kernel_rfl) (by kernel_rfl) (by kernel_rfl) (fun _ _ _ h => h) (.inl ⟨rfl, fun _ hS => rfl⟩) S0 ?_
              simp only [List.getElem_toArray, List.getElem_cons_succ, List.getElem_cons_zero, Act.put, List.setIfInBounds_toArray, List.set_cons_succ, List.set_cons_zero]
              refine wpAnyH_done (by kernel_rfl) ?_ _
              go_upto_region 8 with fail
              refine wp_region_held (S := fun y : World => y.cell? ⟨D, 11, none⟩ = some (.slice (some ad) nv cv) ∧ Qb p f y) (by kernel_rfl) ?_
              change wpAnyH _ _ _ _ _ _ _ _ W.drew.drew
              refine wpAnyH_take (i := 0) (v := (.int .i64 (n : Int))) rfl (by kernel_rfl) (by kernel_rfl) (by kernel_rfl) (fun _ _ _ h => h) (.inl ⟨rfl, fun _ hS => rfl⟩) S1 ?_
              simp only [List.getElem_toArray, List.getElem_cons_succ, List.getElem_cons_zero, Act.put, List.setIfInBounds_toArray, List.set_cons_succ, List.set_cons_zero]
              refine wpAnyH_take (i := 1) (v := (.bool false)) rfl (by kernel_rfl) (by kernel_rfl) (by kernel_rfl) (fun _ _ _ h => h) (.inl ⟨rfl, fun _ hS => exec_lssF rfl rfl rfl _⟩) S1 ?_
              simp only [List.getElem_toArray, List.getElem_cons_succ, List.getElem_cons_zero, Act.put, List.setIfInBounds_toArray, List.set_cons_succ, List.set_cons_zero]
              refine wpAnyH_take (i := 2) (v := (.bool false)) rfl (by kernel_rfl) (by kernel_rfl) (by kernel_rfl) (fun _ _ _ h => h) (.inl ⟨rfl, fun _ hS => rfl⟩) S1 ?_
              simp only [List.getElem_toArray, List.getElem_cons_succ, List.getElem_cons_zero, Act.put, List.setIfInBounds_toArray, List.set_cons_succ, List.set_cons_zero]
              refine wpAnyH_take (i := 3) (v := (.int .i64 (n : Int))) rfl (by kernel_rfl) (by kernel_rfl) (by kernel_rfl) (fun _ _ _ h => h) (.inl ⟨rfl, fun _ hS => rfl⟩) S1 ?_
              simp only [List.getElem_toArray, List.getElem_cons_succ, List.getElem_cons_zero, Act.put, List.setIfInBounds_toArray, List.set_cons_succ, List.set_cons_zero]
              refine wpAnyH_take (i := 4) (v := (.bool false)) rfl (by kernel_rfl) (by kernel_rfl) (by kernel_rfl) (fun _ _ _ h => h) (.inl ⟨rfl, fun _ hS => exec_gtrB (k := 65536) rfl rfl rfl d6 _⟩) S1 ?_
              simp only [List.getElem_toArray, List.getElem_cons_succ, List.getElem_cons_zero, Act.put, List.setIfInBounds_toArray, List.set_cons_succ, List.set_cons_zero]
              refine wpAnyH_take (i := 5) (v := (.bool false)) rfl (by kernel_rfl) (by kernel_rfl) (by kernel_rfl) (fun _ _ _ h => h) (.inl ⟨rfl, fun _ hS => exec_pickF (.bool false) rfl rfl rfl _⟩) S1 ?_
              simp only [List.getElem_toArray, List.getElem_cons_succ, List.getElem_cons_zero, Act.put, List.setIfInBounds_toArray, List.set_cons_succ, List.set_cons_zero]
              refine wpAnyH_take (i := 6) (v := (.bool false)) rfl (by kernel_rfl) (by kernel_rfl) (by kernel_rfl) (fun _ _ _ h => h) (.inl ⟨rfl, fun _ hS => rfl⟩) S1 ?_
              simp only [List.getElem_toArray, List.getElem_cons_succ, List.getElem_cons_zero, Act.put, List.setIfInBounds_toArray, List.set_cons_succ, List.set_cons_zero]
              refine wpAnyH_take (i := 7) (v := (.pointer (some ⟨D, 0, none⟩))) rfl (by kernel_rfl) (by kernel_rfl) (by kernel_rfl) (fun _ _ _ h => h) (.inl ⟨rfl, fun _ hS => rfl⟩) S1 ?_
              simp only [List.getElem_toArray, List.getElem_cons_succ, List.getElem_cons_zero, Act.put, List.setIfInBounds_toArray, List.set_cons_succ, List.set_cons_zero]
              refine wpAnyH_take (i := 8) (v := (.pointer (some ⟨D, 0, none⟩))) rfl (by kernel_rfl) (by kernel_rfl) (by kernel_rfl) (fun _ _ _ h => h) (.inl ⟨rfl, fun _ hS => by simp [execOp, go_sem, Act.eval]⟩) S1 ?_
              simp only [List.getElem_toArray, List.getElem_cons_succ, List.getElem_cons_zero, Act.put, List.setIfInBounds_toArray, List.set_cons_succ, List.set_cons_zero]
              refine wpAnyH_take (i := 9) (v := (.pointer (some ⟨D, 11, none⟩))) rfl (by kernel_rfl) (by kernel_rfl) (by kernel_rfl) (fun _ _ _ h => h) (.inl ⟨rfl, fun _ hS => by simp [execOp, go_sem, Act.eval]⟩) S1 ?_
              simp only [List.getElem_toArray, List.getElem_cons_succ, List.getElem_cons_zero, Act.put, List.setIfInBounds_toArray, List.set_cons_succ, List.set_cons_zero]
              refine wpAnyH_take (i := 10) (v := (.slice (some ad) nv cv)) rfl (by kernel_rfl) (by kernel_rfl) (by kernel_rfl) (fun _ _ _ h => h) (.inl ⟨rfl, fun _ hS => exec_load rfl rfl (load_bytes _ _ _ _ _ _ hS.1)⟩) S1 ?_
              simp only [List.getElem_toArray, List.getElem_cons_succ, List.getElem_cons_zero, Act.put, List.setIfInBounds_toArray, List.set_cons_succ, List.set_cons_zero]
              refine wpAnyH_take (i := 11) (v := (.int .i64 (n : Int))) rfl (by kernel_rfl) (by kernel_rfl) (by kernel_rfl) (fun _ _ _ h => h) (.inl ⟨rfl, fun _ hS => rfl⟩) S1 ?_
              simp only [List.getElem_toArray, List.getElem_cons_succ, List.getElem_cons_zero, Act.put, List.setIfInBounds_toArray, List.set_cons_succ, List.set_cons_zero]
              refine wpAnyH_take (i := 12) (v := (.slice (some ad) n cv)) rfl (by kernel_rfl) (by kernel_rfl) (by kernel_rfl) (fun _ _ _ h => h) (.inl ⟨rfl, fun _ hS => exec_cutA rfl rfl rfl hncv _⟩) S1 ?_
              simp only [List.getElem_toArray, List.getElem_cons_succ, List.getElem_cons_zero, Act.put, List.setIfInBounds_toArray, List.set_cons_succ, List.set_cons_zero]
              refine wpAnyH_take (i := 15) (v := (.pointer (some ⟨p, 1, none⟩))) rfl (by kernel_rfl) (by kernel_rfl) (by kernel_rfl) (fun _ _ _ h => h) (.inl ⟨rfl, fun _ hS => exec_idx8 (k := 1) rfl rfl rfl (by decide) _⟩) S1 ?_
              simp only [List.getElem_toArray, List.getElem_cons_succ, List.getElem_cons_zero, Act.put, List.setIfInBounds_toArray, List.set_cons_succ, List.set_cons_zero]
              refine wpAnyH_take (i := 16) (v := (.int .u8 (f.b1.toNat : Int))) rfl (by kernel_rfl) (by kernel_rfl) (by kernel_rfl) (fun _ _ _ h => h) (.inl ⟨rfl, fun _ hS => exec_load rfl rfl (load_u8 _ _ _ _ hS.2.c1)⟩) S1 ?_
              simp only [List.getElem_toArray, List.getElem_cons_succ, List.getElem_cons_zero, Act.put, List.setIfInBounds_toArray, List.set_cons_succ, List.set_cons_zero]
              refine wpAnyH_take (i := 17) (v := (.int .i64 (f.b1.toNat : Int))) rfl (by kernel_rfl) (by kernel_rfl) (by kernel_rfl) (fun _ _ _ h => h) (.inl ⟨rfl, fun _ hS => exec_convI rfl rfl l1 _⟩) S1 ?_
              simp only [List.getElem_toArray, List.getElem_cons_succ, List.getElem_cons_zero, Act.put, List.setIfInBounds_toArray, List.set_cons_succ, List.set_cons_zero]
              refine wpAnyH_take (i := 18) (v := (.pointer (some ⟨p, 2, none⟩))) rfl (by kernel_rfl) (by kernel_rfl) (by kernel_rfl) (fun _ _ _ h => h) (.inl ⟨rfl, fun _ hS => exec_idx8 (k := 2) rfl rfl rfl (by decide) _⟩) S1 ?_
              simp only [List.getElem_toArray, List.getElem_cons_succ, List.getElem_cons_zero, Act.put, List.setIfInBounds_toArray, List.set_cons_succ, List.set_cons_zero]
              refine wpAnyH_take (i := 19) (v := (.int .u8 (f.b2.toNat : Int))) rfl (by kernel_rfl) (by kernel_rfl) (by kernel_rfl) (fun _ _ _ h => h) (.inl ⟨rfl, fun _ hS => exec_load rfl rfl (load_u8 _ _ _ _ hS.2.c2)⟩) S1 ?_
              simp only [List.getElem_toArray, List.getElem_cons_succ, List.getElem_cons_zero, Act.put, List.setIfInBounds_toArray, List.set_cons_succ, List.set_cons_zero]
              refine wpAnyH_take (i := 20) (v := (.int .i64 (f.b2.toNat : Int))) rfl (by kernel_rfl) (by kernel_rfl) (by kernel_rfl) (fun _ _ _ h => h) (.inl ⟨rfl, fun _ hS => exec_convI rfl rfl l2 _⟩) S1 ?_
              simp only [List.getElem_toArray, List.getElem_cons_succ, List.getElem_cons_zero, Act.put, List.setIfInBounds_toArray, List.set_cons_succ, List.set_cons_zero]
              refine wpAnyH_take (i := 21) (v := (.int .i64 ((256 * f.b2.toNat : Nat) : Int))) rfl (by kernel_rfl) (by kernel_rfl) (by kernel_rfl) (fun _ _ _ h => h) (.inl ⟨rfl, fun _ hS => exec_256mul rfl rfl rfl (by omega) _⟩) S1 ?_
              simp only [List.getElem_toArray, List.getElem_cons_succ, List.getElem_cons_zero, Act.put, List.setIfInBounds_toArray, List.set_cons_succ, List.set_cons_zero]
              refine wpAnyH_take (i := 22) (v := (.int .i64 (sm : Int))) rfl (by kernel_rfl) (by kernel_rfl) (by kernel_rfl) (fun _ _ _ h => h) (.inl ⟨rfl, fun _ hS => exec_addN rfl rfl rfl hbx (by omega) (by omega) _⟩) S1 ?_
              simp only [List.getElem_toArray, List.getElem_cons_succ, List.getElem_cons_zero, Act.put, List.setIfInBounds_toArray, List.set_cons_succ, List.set_cons_zero]
              refine wpAnyH_all (rs := [13]) (by kernel_rfl) (by simp) ?_
              intro k hk
              simp only [List.mem_cons, List.mem_nil_iff, or_false] at hk
              subst hk
              refine wpOp_runw rfl rfl (wp_call_fn 32 #[.slice (some ad) n cv] (by simp [execOp, go_sem, Act.eval, resolve, invoke, enRC]) ?_)
              refine hCr.mono ?_
              rintro e w1 ⟨rfl, hw1⟩
              rw [hw1]
              clear hw1 w1
              refine ⟨S1, ?_⟩
              simp only [List.getElem_toArray, List.getElem_cons_succ, List.getElem_cons_zero, Act.put, List.setIfInBounds_toArray, List.set_cons_succ, List.set_cons_zero]
              refine wpAnyH_take (i := 14) (v := (.int .i64 (cr : Int))) rfl (by kernel_rfl) (by kernel_rfl) (by kernel_rfl) (fun _ _ _ h => h) (.inl ⟨rfl, fun _ hS => exec_conv16 rfl rfl hcl _⟩) S1 ?_
              simp only [List.getElem_toArray, List.getElem_cons_succ, List.getElem_cons_zero, Act.put, List.setIfInBounds_toArray, List.set_cons_succ, List.set_cons_zero]
              refine wpAnyH_take (i := 23) (v := (.bool true)) rfl (by kernel_rfl) (by kernel_rfl) (by kernel_rfl) (fun _ _ _ h => h) (.inl ⟨rfl, fun _ hS => exec_neqB rfl rfl rfl d7 _⟩) S1 ?_
              simp only [List.getElem_toArray, List.getElem_cons_succ, List.getElem_cons_zero, Act.put, List.setIfInBounds_toArray, List.set_cons_succ, List.set_cons_zero]
              refine wpAnyH_take (i := 24) (v := (.bool true)) rfl (by kernel_rfl) (by kernel_rfl) (by kernel_rfl) (fun _ _ _ h => h) (.inl ⟨rfl, fun _ hS => exec_pickF (.bool true) rfl rfl rfl _⟩) S1 ?_
              simp only [List.getElem_toArray, List.getElem_cons_succ, List.getElem_cons_zero, Act.put, List.setIfInBounds_toArray, List.set_cons_succ, List.set_cons_zero]
              refine wpAnyH_done (by kernel_rfl) ?_ _
              clear S0 S1
              go_wp2_with (first | (go_at_call 37; refine hG.mono ?_; rintro e w3 ⟨rfl, q3, hz3⟩; have HZ := hidOf2 hz3; clear hz3) | (refine sdF (g := ga) q3 rfl _ _ rfl rfl rfl ?_))
              obtain ⟨r1, r2⟩ := HZ.out _ rfl
              exact bodyPost_ret (dfeedR_results r1 _ rfl rfl) rfl r2
        · have HP := hidOf2 (HN.out (by rw [HR.out, if_neg c1, if_neg (fun h => c4 h.2), if_neg (fun h => c5 h.2)]) 0)
          clear HD HK d0 b0 hq HR HN HG HBT
          generalize f.b0.toNat = f0 at *
          by_cases c6 : f0 / 32 = 6
          · have e6 : ((f0 : Int) / 32 == 6) = true := by simp; omega
            have e7 : ((f0 : Int) % 2 == 1) = false := by simp; omega
            go_enter Try.func16, Try.ntmps16
            go_upto_region 1 with fail
            first | (change Code.wp Try.prog _ _ _ ((w.alloc (.cells f.arr 30)).alloc (.cells zA8 30)); rw [hW0, hW]) | (change Code.wp Try.prog _ _ _ (W0.alloc (.cells zA8 30)); rw [hW]) | (change Code.wp Try.prog _ _ _ W)
            go_wp2_with (first | (refine sdF (g := F8.nul) q0 rfl _ _ rfl rfl (by rw [hna]; first | rfl | (simp [Act.eval]; done)) ?_))
            obtain ⟨r1, r2⟩ := HP.out _ rfl
            exact bodyPost_ret (dfeedR_results r1 _ rfl rfl) rfl r2
          · have e6 : ((f0 : Int) / 32 == 6) = false := by simp; omega
            go_enter Try.func16, Try.ntmps16
            go_upto_region 1 with fail
            first | (change Code.wp Try.prog _ _ _ ((w.alloc (.cells f.arr 30)).alloc (.cells zA8 30)); rw [hW0, hW]) | (change Code.wp Try.prog _ _ _ (W0.alloc (.cells zA8 30)); rw [hW]) | (change Code.wp Try.prog _ _ _ W)
            go_wp2_with (first | (refine sdF (g := F8.nul) q0 rfl _ _ rfl rfl (by rw [hna]; first | rfl | (simp [Act.eval]; done)) ?_))
            obtain ⟨r1, r2⟩ := HP.out _ rfl
            exact bodyPost_ret (dfeedR_results r1 _ rfl rfl) rfl r2
end
end Go.Proofs.Ytebjofkblfmkmaa
