/- What is raised. -/
import Derived.Test.YtlkocebgkmdeoaaEmJ
import Derived.Deep.DeepCutAuto
namespace Go.Proofs.Ytlkocebgkmdeoaa
open Go.RowKit
set_option linter.unusedVariables false
set_option maxRecDepth 1000000
set_option linter.unusedSimpArgs false
section
variable {g : Nat} {P : Nat → Prop} {s : Te} {vn vp vw v : Value} {w x y : World}
theorem cap_le {w : World} {B n c : Nat} {e : TypeId} {k : Nat} {ao : Option Addr} {xs : List Value} (h : w.ownsRow B e k (.slice ao n c) n xs) : n ≤ c := by
  rcases h.2 with ⟨e1, h0⟩ | ⟨g', cap, cur, e1, _, _, h1, _⟩
  · omega
  · injection e1 with _ _ e3; omega
theorem Te.can_small {s : Te} {x : Tr} (h : x.c < 256) : s.can x = false := by unfold Te.can; rw [decide_eq_false (by omega)]; rfl
theorem Te.can_big {s : Te} {x : Tr} (h : 256 ≤ x.c) : s.can x = decide (ix s.now x.c < 0) := by unfold Te.can; rw [decide_eq_true h]; rfl
set_option maxHeartbeats 4000000 in
theorem raise_any (h : Ptv g P s vn vp vw w) (hP : ∀ k, w.heap.size ≤ k → P k) (hl : (s.now.length + 1) * 8 ≤ 140737488355328) (hf : s.Fit) (x : Tr) :
    Calls Try.prog 9 #[.pointer (some ⟨g, 0, none⟩), .agg x.arr] w fun e w' => e = .returned (.bool (s.can x)) ∧ Pt g P (s.raise x) w' ∧ Kq P w w' := by
  obtain ⟨q, hq⟩ : ∃ q, w.heap.size = q := ⟨_, rfl⟩
  obtain ⟨w0, hw0⟩ : ∃ y, w.alloc (.cells #[.int .u16 x.c, .int .u8 x.r, .int .u8 x.x0, .int .u8 x.x1, .int .u8 x.x2, .int .u8 x.x3, .int .u8 x.x4] 37) = y := ⟨_, rfl⟩
  have b0 : Below w.heap.size w w0 := by rw [← hw0]; exact (Below.refl _ _).alloc (Nat.le_refl _) _
  have S0 : Bc 37 q x.arr w0 := by rw [← hw0, ← hq]; exact heap_alloc_new w _
  have h0 := h.below b0
  have k0 := Kq.of_below (P := P) b0
  have hgq : g ≠ q := by have := h.blk.lt; omega
  have hnq : ∀ k, vn.ownBlock = some k → k ≠ q := fun k e => by have := (own_lt2 h.rn e).2; omega
  have hpq : ∀ k, vp.ownBlock = some k → k ≠ q := fun k e => by have := (own_lt2 h.rp e).2; omega
  have HSS : Hid (∀ (u u' : World), Bc 37 q x.arr u → Below u.heap.size u u' → Bc 37 q x.arr u') := fun u u' h1 h2 => Bc.below h1 h2
  have HSC : Hid (∀ (u : World) (i : Nat) (v : Value), Bc 37 q x.arr u → Bc 37 q x.arr (u.setCell ⟨g, i, none⟩ v)) := fun u i v h1 => Bc.kq h1 (Kq.one u g i v) (fun e => hgq e.symm)
  have x0 : w0.cell? ⟨q, 0, none⟩ = some (.int .u16 x.c) := S0.cell 0
  unfold Tr.arr
  by_cases h256 : x.c < 256
  · have hr : s.raise x = s := by unfold Te.raise; rw [Te.can_small h256]; rfl
    rw [Te.can_small h256, hr]
    have HH := hidOf2 (And.intro h0 k0)
    have hd : decide ((x.c : Int) < 256) = true := by simp; omega
    generalize x.c = c at *
    clear hr h h0 k0 b0 S0 HSS HSC h256
    go_enter Try.func9, Try.ntmps9
    go_wp2
    go_ret
    exact ⟨rfl, ⟨_, _, _, HH.out.1⟩, HH.out.2⟩
  · have hd : decide ((x.c : Int) < 256) = false := by simp; omega
    have hF := find_any h0 (by omega) x.c
    rw [Te.can_big (by omega)]
    by_cases hi : ix s.now x.c < 0
    · have hr : s.raise x = s.rs x := by unfold Te.raise; rw [Te.can_big (by omega), decide_eq_true hi]; rfl
      rw [hr, decide_eq_true hi]
      have hd2 : decide (0 ≤ ix s.now x.c) = false := by simp; omega
      have HH := hidOf2 h0
      have HK := hidOf2 k0
      have HS := hidOf2 S0
      generalize ix s.now x.c = I at *
      obtain ⟨an, cn, hv⟩ := own_shapeT h.rn
      subst hv
      clear hr h256 hi h0 k0 S0 h
      go_enter Try.func9, Try.ntmps9
      go_upto_region 3 with (go_at_call 24; refine hF.mono ?_; rintro e w1 ⟨rfl, b1⟩)
      have h0 := HH.out.below b1
      have k0 := HK.out.trans (Kq.of_below (P := P) b1)
      have S0 := HSS.out _ _ HS.out b1
      clear HH HK HS hF x0 hw0 b0 b1
      go_cut [] (fun wx => ∃ v', Ptv g P { s with now := s.now ++ [x] } v' vp vw wx ∧ Kq P w wx ∧ Bc 37 q x.arr wx)
      case first =>
        have HSG : Hid (∀ (u u' : World), Bc 37 q x.arr u → u.grownBy u' (Value.slice an s.now.length cn).ownBlock → Bc 37 q x.arr u') := fun u u' h1 h2 => Bc.kq h1 ((Kq.refl (fun k => (Value.slice an s.now.length cn).ownBlock = some k) _).grown h2 (fun k e => e)) (fun e => hnq q e rfl)
        refine wp_region_held (S := fun y => Bc 37 q x.arr y) (by kernel_rfl) ?_
        change wpAnyH _ _ _ _ _ _ _ _ w1.drew
        replace h0 : Ptv g P s (.slice an s.now.length cn) vp vw w1.drew := h0.kq (Q := fun _ => False) ((Kq.refl _ w1).drawn 1) (fun _ _ _ h => h)
        replace k0 : Kq P w w1.drew := k0.drawn 1
        replace S0 : Bc 37 q x.arr w1.drew := S0
        generalize w1.drew = w1 at *
        refine wpAnyH_take (i := 0) (v := (.pointer (some ⟨g, 0, none⟩))) rfl (by kernel_rfl) (by kernel_rfl) (by kernel_rfl) (fun _ _ _ h => h) (.inl ⟨rfl, fun _ hS => rfl⟩) S0 ?_
        simp only [List.getElem_toArray, List.getElem_cons_succ, List.getElem_cons_zero, Act.put, List.setIfInBounds_toArray, List.set_cons_succ, List.set_cons_zero]
        refine wpAnyH_take (i := 1) (v := (.pointer (some ⟨g, 0, none⟩))) rfl (by kernel_rfl) (by kernel_rfl) (by kernel_rfl) (fun _ _ _ h => h) (.inl ⟨rfl, fun _ hS => rfl⟩) S0 ?_
        simp only [List.getElem_toArray, List.getElem_cons_succ, List.getElem_cons_zero, Act.put, List.setIfInBounds_toArray, List.set_cons_succ, List.set_cons_zero]
        refine wpAnyH_take (i := 2) (v := (.pointer (some ⟨g, 0, none⟩))) rfl (by kernel_rfl) (by kernel_rfl) (by kernel_rfl) (fun _ _ _ h => h) (.inl ⟨rfl, fun _ hS => by simp [execOp, go_sem, Act.eval]⟩) S0 ?_
        simp only [List.getElem_toArray, List.getElem_cons_succ, List.getElem_cons_zero, Act.put, List.setIfInBounds_toArray, List.set_cons_succ, List.set_cons_zero]
        refine wpAnyH_take (i := 3) (v := (.pointer (some ⟨g, 2, none⟩))) rfl (by kernel_rfl) (by kernel_rfl) (by kernel_rfl) (fun _ _ _ h => h) (.inl ⟨rfl, fun _ hS => by simp [execOp, go_sem, Act.eval]⟩) S0 ?_
        simp only [List.getElem_toArray, List.getElem_cons_succ, List.getElem_cons_zero, Act.put, List.setIfInBounds_toArray, List.set_cons_succ, List.set_cons_zero]
        refine wpAnyH_take (i := 5) (v := (.agg x.arr)) rfl (by kernel_rfl) (by kernel_rfl) (by kernel_rfl) (fun _ _ _ h => h) (.inl ⟨rfl, fun _ hS => exec_load rfl rfl (Bc.ldT hS rfl)⟩) S0 ?_
        simp only [List.getElem_toArray, List.getElem_cons_succ, List.getElem_cons_zero, Act.put, List.setIfInBounds_toArray, List.set_cons_succ, List.set_cons_zero]
        refine wpAnyH_all (rs := [4, 6]) (by kernel_rfl) (by simp) ?_
        intro k hk
        simp only [List.mem_cons, List.mem_nil_iff, or_false] at hk
        rcases hk with rfl | rfl
        · refine wpOp_run rfl rfl (wp_load_run 30 _ rfl ⟨g, 2, none⟩ rfl _ (load_ts h0.cells.2.2.1) ?_)
          refine ⟨S0, ?_⟩
          simp only [List.getElem_toArray, List.getElem_cons_succ, List.getElem_cons_zero, Act.put, List.setIfInBounds_toArray, List.set_cons_succ, List.set_cons_zero]
          refine wpAnyH_all (rs := [6]) (by kernel_rfl) (by simp) ?_
          intro k hk
          simp only [List.mem_cons, List.mem_nil_iff, or_false] at hk
          subst hk
          refine wpOp_run rfl rfl (wp_one DT x 30 37 _ 8 _ rfl rfl Try.underlying30 infoT (by decide) ?_)
          obtain ⟨qb, hqb⟩ : ∃ q, w1.heap.size = q := ⟨_, rfl⟩
          have b1 : Below w1.heap.size w1 (w1.alloc (.cells (DT.dec x).toArray 37)) := (Below.refl _ _).alloc (Nat.le_refl _) _
          have t1 : Bc 37 qb (DT.dec x).toArray (w1.alloc (.cells (DT.dec x).toArray 37)) := by rw [← hqb]; exact heap_alloc_new _ _
          have h1 := h0.below b1
          have s1 := HSS.out _ _ S0 b1
          have k1 := k0.trans (Kq.of_below (P := P) b1)
          rw [hqb]
          clear hqb
          generalize w1.alloc (.cells (DT.dec x).toArray 37) = u1 at *
          refine ⟨s1, ?_⟩
          simp only [List.getElem_toArray, List.getElem_cons_succ, List.getElem_cons_zero, Act.put, List.setIfInBounds_toArray, List.set_cons_succ, List.set_cons_zero]
          refine wpAnyH_all (rs := [7]) (by kernel_rfl) (by simp) ?_
          intro k hk
          simp only [List.mem_cons, List.mem_nil_iff, or_false] at hk
          subst hk
          refine wpOp_run rfl rfl (wp_app DT _ _ 30 37 _ 8 Try.underlying30 infoT rfl rfl _ s.now rfl h1.rn qb x rfl t1 (by unfold maxLen; omega) (by omega) ?_)
          intro v9 y9 o9 g9 b9
          obtain ⟨a9, c9, hv9⟩ := own_shape5 o9
          subst hv9
          have z9 := h1.grownN (s.now ++ [x]) o9 g9 b9 (fun k hk => hP k (Nat.le_trans k1.size hk))
          have s9 := HSG.out _ _ s1 g9
          have k9 := k1.trans z9.2.1
          refine ⟨s9, ?_⟩
          simp only [List.getElem_toArray, List.getElem_cons_succ, List.getElem_cons_zero, Act.put, List.setIfInBounds_toArray, List.set_cons_succ, List.set_cons_zero]
          refine wpAnyH_take (i := 8) (v := (.pointer (some ⟨g, 0, none⟩))) rfl (by kernel_rfl) (by kernel_rfl) (by kernel_rfl) (fun _ _ _ h => h) (.inl ⟨rfl, fun _ hS => by simp [execOp, go_sem, Act.eval]⟩) s9 ?_
          simp only [List.getElem_toArray, List.getElem_cons_succ, List.getElem_cons_zero, Act.put, List.setIfInBounds_toArray, List.set_cons_succ, List.set_cons_zero]
          refine wpAnyH_take (i := 9) (v := (.pointer (some ⟨g, 2, none⟩))) rfl (by kernel_rfl) (by kernel_rfl) (by kernel_rfl) (fun _ _ _ h => h) (.inl ⟨rfl, fun _ hS => by simp [execOp, go_sem, Act.eval]⟩) s9 ?_
          simp only [List.getElem_toArray, List.getElem_cons_succ, List.getElem_cons_zero, Act.put, List.setIfInBounds_toArray, List.set_cons_succ, List.set_cons_zero]
          refine wpAnyH_all (rs := [10]) (by kernel_rfl) (by simp) ?_
          intro k hk
          simp only [List.mem_cons, List.mem_nil_iff, or_false] at hk
          subst hk
          refine wpOp_run rfl rfl (wp_store_run 30 _ _ rfl ⟨g, 2, none⟩ rfl _ rfl (store_ts z9.2.2.1 z9.2.2.2) ?_)
          have s10 := HSC.out _ 2 (.slice a9 (s.now ++ [x]).length c9) s9
          refine ⟨s10, ?_⟩
          simp only [List.getElem_toArray, List.getElem_cons_succ, List.getElem_cons_zero, Act.put, List.setIfInBounds_toArray, List.set_cons_succ, List.set_cons_zero]
          refine wpAnyH_done (by kernel_rfl) ?_ _
          go_wp2_with fail
          go_meet
          case rel => exact ⟨_, z9.1, k9, s10⟩
        · refine wpOp_run rfl rfl (wp_one DT x 30 37 _ 8 _ rfl rfl Try.underlying30 infoT (by decide) ?_)
          obtain ⟨qb, hqb⟩ : ∃ q, w1.heap.size = q := ⟨_, rfl⟩
          have b1 : Below w1.heap.size w1 (w1.alloc (.cells (DT.dec x).toArray 37)) := (Below.refl _ _).alloc (Nat.le_refl _) _
          have t1 : Bc 37 qb (DT.dec x).toArray (w1.alloc (.cells (DT.dec x).toArray 37)) := by rw [← hqb]; exact heap_alloc_new _ _
          have h1 := h0.below b1
          have s1 := HSS.out _ _ S0 b1
          have k1 := k0.trans (Kq.of_below (P := P) b1)
          rw [hqb]
          clear hqb
          generalize w1.alloc (.cells (DT.dec x).toArray 37) = u1 at *
          refine ⟨s1, ?_⟩
          simp only [List.getElem_toArray, List.getElem_cons_succ, List.getElem_cons_zero, Act.put, List.setIfInBounds_toArray, List.set_cons_succ, List.set_cons_zero]
          refine wpAnyH_all (rs := [4]) (by kernel_rfl) (by simp) ?_
          intro k hk
          simp only [List.mem_cons, List.mem_nil_iff, or_false] at hk
          subst hk
          refine wpOp_run rfl rfl (wp_load_run 30 _ rfl ⟨g, 2, none⟩ rfl _ (load_ts h1.cells.2.2.1) ?_)
          refine ⟨s1, ?_⟩
          simp only [List.getElem_toArray, List.getElem_cons_succ, List.getElem_cons_zero, Act.put, List.setIfInBounds_toArray, List.set_cons_succ, List.set_cons_zero]
          refine wpAnyH_all (rs := [7]) (by kernel_rfl) (by simp) ?_
          intro k hk
          simp only [List.mem_cons, List.mem_nil_iff, or_false] at hk
          subst hk
          refine wpOp_run rfl rfl (wp_app DT _ _ 30 37 _ 8 Try.underlying30 infoT rfl rfl _ s.now rfl h1.rn qb x rfl t1 (by unfold maxLen; omega) (by omega) ?_)
          intro v9 y9 o9 g9 b9
          obtain ⟨a9, c9, hv9⟩ := own_shape5 o9
          subst hv9
          have z9 := h1.grownN (s.now ++ [x]) o9 g9 b9 (fun k hk => hP k (Nat.le_trans k1.size hk))
          have s9 := HSG.out _ _ s1 g9
          have k9 := k1.trans z9.2.1
          refine ⟨s9, ?_⟩
          simp only [List.getElem_toArray, List.getElem_cons_succ, List.getElem_cons_zero, Act.put, List.setIfInBounds_toArray, List.set_cons_succ, List.set_cons_zero]
          refine wpAnyH_take (i := 8) (v := (.pointer (some ⟨g, 0, none⟩))) rfl (by kernel_rfl) (by kernel_rfl) (by kernel_rfl) (fun _ _ _ h => h) (.inl ⟨rfl, fun _ hS => by simp [execOp, go_sem, Act.eval]⟩) s9 ?_
          simp only [List.getElem_toArray, List.getElem_cons_succ, List.getElem_cons_zero, Act.put, List.setIfInBounds_toArray, List.set_cons_succ, List.set_cons_zero]
          refine wpAnyH_take (i := 9) (v := (.pointer (some ⟨g, 2, none⟩))) rfl (by kernel_rfl) (by kernel_rfl) (by kernel_rfl) (fun _ _ _ h => h) (.inl ⟨rfl, fun _ hS => by simp [execOp, go_sem, Act.eval]⟩) s9 ?_
          simp only [List.getElem_toArray, List.getElem_cons_succ, List.getElem_cons_zero, Act.put, List.setIfInBounds_toArray, List.set_cons_succ, List.set_cons_zero]
          refine wpAnyH_all (rs := [10]) (by kernel_rfl) (by simp) ?_
          intro k hk
          simp only [List.mem_cons, List.mem_nil_iff, or_false] at hk
          subst hk
          refine wpOp_run rfl rfl (wp_store_run 30 _ _ rfl ⟨g, 2, none⟩ rfl _ rfl (store_ts z9.2.2.1 z9.2.2.2) ?_)
          have s10 := HSC.out _ 2 (.slice a9 (s.now ++ [x]).length c9) s9
          refine ⟨s10, ?_⟩
          simp only [List.getElem_toArray, List.getElem_cons_succ, List.getElem_cons_zero, Act.put, List.setIfInBounds_toArray, List.set_cons_succ, List.set_cons_zero]
          refine wpAnyH_done (by kernel_rfl) ?_ _
          go_wp2_with fail
          go_meet
          case rel => exact ⟨_, z9.1, k9, s10⟩
      case rest =>
      obtain ⟨v1, h0, k0, S0⟩ := hcut
      obtain ⟨st1, hs1⟩ : ∃ t : Te, { s with now := s.now ++ [x] } = t := ⟨_, rfl⟩
      have e1 : s.past.length = st1.past.length := by rw [← hs1]
      have e2 : s.hist = st1.hist := by rw [← hs1]
      have hf1 : st1.past.length ≤ st1.hist := by rw [← e1, ← e2]; exact hf
      have hh1 : st1.hist ≤ 254 := h0.ok.h2 |> fun h => by rw [← e2]; exact h
      rw [hs1] at h0
      obtain ⟨ap, cp, hv⟩ := own_shapeT h0.rp
      subst hv
      have HS1 := hidOf2 hs1
      clear e1 e2 hs1 hf
      obtain ⟨w2, hw2⟩ : ∃ x, x = wc := ⟨_, rfl⟩
      subst hw2
      go_upto_region 4 with fail
      go_cut [] (fun wx => ∃ v', Ptv g P { st1 with past := x :: st1.past } v1 v' vw wx ∧ Kq P w wx ∧ Bc 37 q x.arr wx)
      case first =>
        have HSG : Hid (∀ (u u' : World), Bc 37 q x.arr u → u.grownBy u' (Value.slice ap st1.past.length cp).ownBlock → Bc 37 q x.arr u') := fun u u' h1 h2 => Bc.kq h1 ((Kq.refl (fun k => (Value.slice ap st1.past.length cp).ownBlock = some k) _).grown h2 (fun k e => e)) (fun e => hpq q e rfl)
        refine wp_region_held (S := fun y => Bc 37 q x.arr y) (by kernel_rfl) ?_
        change wpAnyH _ _ _ _ _ _ _ _ w2.drew
        replace h0 : Ptv g P st1 v1 (.slice ap st1.past.length cp) vw w2.drew := h0.kq (Q := fun _ => False) ((Kq.refl _ w2).drawn 1) (fun _ _ _ h => h)
        replace k0 : Kq P w w2.drew := k0.drawn 1
        replace S0 : Bc 37 q x.arr w2.drew := S0
        generalize w2.drew = w2 at *
        refine wpAnyH_take (i := 0) (v := (.pointer (some ⟨g, 0, none⟩))) rfl (by kernel_rfl) (by kernel_rfl) (by kernel_rfl) (fun _ _ _ h => h) (.inl ⟨rfl, fun _ hS => rfl⟩) S0 ?_
        simp only [List.getElem_toArray, List.getElem_cons_succ, List.getElem_cons_zero, Act.put, List.setIfInBounds_toArray, List.set_cons_succ, List.set_cons_zero]
        refine wpAnyH_take (i := 1) (v := (.pointer (some ⟨g, 0, none⟩))) rfl (by kernel_rfl) (by kernel_rfl) (by kernel_rfl) (fun _ _ _ h => h) (.inl ⟨rfl, fun _ hS => rfl⟩) S0 ?_
        simp only [List.getElem_toArray, List.getElem_cons_succ, List.getElem_cons_zero, Act.put, List.setIfInBounds_toArray, List.set_cons_succ, List.set_cons_zero]
        refine wpAnyH_take (i := 2) (v := (.pointer (some ⟨g, 0, none⟩))) rfl (by kernel_rfl) (by kernel_rfl) (by kernel_rfl) (fun _ _ _ h => h) (.inl ⟨rfl, fun _ hS => by simp [execOp, go_sem, Act.eval]⟩) S0 ?_
        simp only [List.getElem_toArray, List.getElem_cons_succ, List.getElem_cons_zero, Act.put, List.setIfInBounds_toArray, List.set_cons_succ, List.set_cons_zero]
        refine wpAnyH_take (i := 3) (v := (.pointer (some ⟨g, 3, none⟩))) rfl (by kernel_rfl) (by kernel_rfl) (by kernel_rfl) (fun _ _ _ h => h) (.inl ⟨rfl, fun _ hS => by simp [execOp, go_sem, Act.eval]⟩) S0 ?_
        simp only [List.getElem_toArray, List.getElem_cons_succ, List.getElem_cons_zero, Act.put, List.setIfInBounds_toArray, List.set_cons_succ, List.set_cons_zero]
        refine wpAnyH_take (i := 5) (v := (.agg x.arr)) rfl (by kernel_rfl) (by kernel_rfl) (by kernel_rfl) (fun _ _ _ h => h) (.inl ⟨rfl, fun _ hS => exec_load rfl rfl (Bc.ldT hS rfl)⟩) S0 ?_
        simp only [List.getElem_toArray, List.getElem_cons_succ, List.getElem_cons_zero, Act.put, List.setIfInBounds_toArray, List.set_cons_succ, List.set_cons_zero]
        refine wpAnyH_all (rs := [4, 6]) (by kernel_rfl) (by simp) ?_
        intro k hk
        simp only [List.mem_cons, List.mem_nil_iff, or_false] at hk
        rcases hk with rfl | rfl
        · refine wpOp_run rfl rfl (wp_load_run 30 _ rfl ⟨g, 3, none⟩ rfl _ (load_ts h0.cells.2.2.2.1) ?_)
          refine ⟨S0, ?_⟩
          simp only [List.getElem_toArray, List.getElem_cons_succ, List.getElem_cons_zero, Act.put, List.setIfInBounds_toArray, List.set_cons_succ, List.set_cons_zero]
          refine wpAnyH_all (rs := [6]) (by kernel_rfl) (by simp) ?_
          intro k hk
          simp only [List.mem_cons, List.mem_nil_iff, or_false] at hk
          subst hk
          refine wpOp_run rfl rfl (wp_one DT x 30 37 _ 8 _ rfl rfl Try.underlying30 infoT (by decide) ?_)
          obtain ⟨qb, hqb⟩ : ∃ q, w2.heap.size = q := ⟨_, rfl⟩
          have b1 : Below w2.heap.size w2 (w2.alloc (.cells (DT.dec x).toArray 37)) := (Below.refl _ _).alloc (Nat.le_refl _) _
          have t1 : Bc 37 qb (DT.dec x).toArray (w2.alloc (.cells (DT.dec x).toArray 37)) := by rw [← hqb]; exact heap_alloc_new _ _
          have h1 := h0.below b1
          have s1 := HSS.out _ _ S0 b1
          have k1 := k0.trans (Kq.of_below (P := P) b1)
          have hnb : ∀ k, (Value.slice ap st1.past.length cp).ownBlock = some k → k ≠ qb := fun k e => by have := (own_lt2 h0.rp e).2; omega
          rw [hqb]
          clear hqb
          generalize w2.alloc (.cells (DT.dec x).toArray 37) = u1 at *
          refine ⟨s1, ?_⟩
          simp only [List.getElem_toArray, List.getElem_cons_succ, List.getElem_cons_zero, Act.put, List.setIfInBounds_toArray, List.set_cons_succ, List.set_cons_zero]
          refine wpAnyH_all (rs := [7]) (by kernel_rfl) (by simp) ?_
          intro k hk
          simp only [List.mem_cons, List.mem_nil_iff, or_false] at hk
          subst hk
          refine wpOp_run rfl rfl (wp_call_fn 25 #[.slice ap st1.past.length cp, .int .i64 0, .slice (some ⟨qb, 0, none⟩) 1 1] (by simp [execOp, go_sem, Act.eval, resolve, invoke, enterIns]) ?_)
          refine (ins_any h1.rp (Nat.zero_le _) t1 (fun e => hnb qb e rfl) (by omega)).mono ?_
          rintro e y9 ⟨v9, rfl, o9, g9, b9⟩
          obtain ⟨a9, c9, hv9⟩ := own_shape5 o9
          subst hv9
          have z9 := h1.grownP (x :: st1.past) (by simp; omega) o9 g9 b9 (fun k hk => hP k (Nat.le_trans k1.size hk))
          have s9 := HSG.out _ _ s1 g9
          have k9 := k1.trans z9.2.1
          refine ⟨s9, ?_⟩
          simp only [List.getElem_toArray, List.getElem_cons_succ, List.getElem_cons_zero, Act.put, List.setIfInBounds_toArray, List.set_cons_succ, List.set_cons_zero]
          refine wpAnyH_take (i := 8) (v := (.pointer (some ⟨g, 0, none⟩))) rfl (by kernel_rfl) (by kernel_rfl) (by kernel_rfl) (fun _ _ _ h => h) (.inl ⟨rfl, fun _ hS => by simp [execOp, go_sem, Act.eval]⟩) s9 ?_
          simp only [List.getElem_toArray, List.getElem_cons_succ, List.getElem_cons_zero, Act.put, List.setIfInBounds_toArray, List.set_cons_succ, List.set_cons_zero]
          refine wpAnyH_take (i := 9) (v := (.pointer (some ⟨g, 3, none⟩))) rfl (by kernel_rfl) (by kernel_rfl) (by kernel_rfl) (fun _ _ _ h => h) (.inl ⟨rfl, fun _ hS => by simp [execOp, go_sem, Act.eval]⟩) s9 ?_
          simp only [List.getElem_toArray, List.getElem_cons_succ, List.getElem_cons_zero, Act.put, List.setIfInBounds_toArray, List.set_cons_succ, List.set_cons_zero]
          refine wpAnyH_all (rs := [10]) (by kernel_rfl) (by simp) ?_
          intro k hk
          simp only [List.mem_cons, List.mem_nil_iff, or_false] at hk
          subst hk
          refine wpOp_run rfl rfl (wp_store_run 30 _ _ rfl ⟨g, 3, none⟩ rfl _ rfl (store_ts z9.2.2.1 z9.2.2.2) ?_)
          have s10 := HSC.out _ 3 (.slice a9 (x :: st1.past).length c9) s9
          refine ⟨s10, ?_⟩
          simp only [List.getElem_toArray, List.getElem_cons_succ, List.getElem_cons_zero, Act.put, List.setIfInBounds_toArray, List.set_cons_succ, List.set_cons_zero]
          refine wpAnyH_done (by kernel_rfl) ?_ _
          go_wp2_with fail
          go_meet
          case rel => exact ⟨_, z9.1, k9, s10⟩
        · refine wpOp_run rfl rfl (wp_one DT x 30 37 _ 8 _ rfl rfl Try.underlying30 infoT (by decide) ?_)
          obtain ⟨qb, hqb⟩ : ∃ q, w2.heap.size = q := ⟨_, rfl⟩
          have b1 : Below w2.heap.size w2 (w2.alloc (.cells (DT.dec x).toArray 37)) := (Below.refl _ _).alloc (Nat.le_refl _) _
          have t1 : Bc 37 qb (DT.dec x).toArray (w2.alloc (.cells (DT.dec x).toArray 37)) := by rw [← hqb]; exact heap_alloc_new _ _
          have h1 := h0.below b1
          have s1 := HSS.out _ _ S0 b1
          have k1 := k0.trans (Kq.of_below (P := P) b1)
          have hnb : ∀ k, (Value.slice ap st1.past.length cp).ownBlock = some k → k ≠ qb := fun k e => by have := (own_lt2 h0.rp e).2; omega
          rw [hqb]
          clear hqb
          generalize w2.alloc (.cells (DT.dec x).toArray 37) = u1 at *
          refine ⟨s1, ?_⟩
          simp only [List.getElem_toArray, List.getElem_cons_succ, List.getElem_cons_zero, Act.put, List.setIfInBounds_toArray, List.set_cons_succ, List.set_cons_zero]
          refine wpAnyH_all (rs := [4]) (by kernel_rfl) (by simp) ?_
          intro k hk
          simp only [List.mem_cons, List.mem_nil_iff, or_false] at hk
          subst hk
          refine wpOp_run rfl rfl (wp_load_run 30 _ rfl ⟨g, 3, none⟩ rfl _ (load_ts h1.cells.2.2.2.1) ?_)
          refine ⟨s1, ?_⟩
          simp only [List.getElem_toArray, List.getElem_cons_succ, List.getElem_cons_zero, Act.put, List.setIfInBounds_toArray, List.set_cons_succ, List.set_cons_zero]
          refine wpAnyH_all (rs := [7]) (by kernel_rfl) (by simp) ?_
          intro k hk
          simp only [List.mem_cons, List.mem_nil_iff, or_false] at hk
          subst hk
          refine wpOp_run rfl rfl (wp_call_fn 25 #[.slice ap st1.past.length cp, .int .i64 0, .slice (some ⟨qb, 0, none⟩) 1 1] (by simp [execOp, go_sem, Act.eval, resolve, invoke, enterIns]) ?_)
          refine (ins_any h1.rp (Nat.zero_le _) t1 (fun e => hnb qb e rfl) (by omega)).mono ?_
          rintro e y9 ⟨v9, rfl, o9, g9, b9⟩
          obtain ⟨a9, c9, hv9⟩ := own_shape5 o9
          subst hv9
          have z9 := h1.grownP (x :: st1.past) (by simp; omega) o9 g9 b9 (fun k hk => hP k (Nat.le_trans k1.size hk))
          have s9 := HSG.out _ _ s1 g9
          have k9 := k1.trans z9.2.1
          refine ⟨s9, ?_⟩
          simp only [List.getElem_toArray, List.getElem_cons_succ, List.getElem_cons_zero, Act.put, List.setIfInBounds_toArray, List.set_cons_succ, List.set_cons_zero]
          refine wpAnyH_take (i := 8) (v := (.pointer (some ⟨g, 0, none⟩))) rfl (by kernel_rfl) (by kernel_rfl) (by kernel_rfl) (fun _ _ _ h => h) (.inl ⟨rfl, fun _ hS => by simp [execOp, go_sem, Act.eval]⟩) s9 ?_
          simp only [List.getElem_toArray, List.getElem_cons_succ, List.getElem_cons_zero, Act.put, List.setIfInBounds_toArray, List.set_cons_succ, List.set_cons_zero]
          refine wpAnyH_take (i := 9) (v := (.pointer (some ⟨g, 3, none⟩))) rfl (by kernel_rfl) (by kernel_rfl) (by kernel_rfl) (fun _ _ _ h => h) (.inl ⟨rfl, fun _ hS => by simp [execOp, go_sem, Act.eval]⟩) s9 ?_
          simp only [List.getElem_toArray, List.getElem_cons_succ, List.getElem_cons_zero, Act.put, List.setIfInBounds_toArray, List.set_cons_succ, List.set_cons_zero]
          refine wpAnyH_all (rs := [10]) (by kernel_rfl) (by simp) ?_
          intro k hk
          simp only [List.mem_cons, List.mem_nil_iff, or_false] at hk
          subst hk
          refine wpOp_run rfl rfl (wp_store_run 30 _ _ rfl ⟨g, 3, none⟩ rfl _ rfl (store_ts z9.2.2.1 z9.2.2.2) ?_)
          have s10 := HSC.out _ 3 (.slice a9 (x :: st1.past).length c9) s9
          refine ⟨s10, ?_⟩
          simp only [List.getElem_toArray, List.getElem_cons_succ, List.getElem_cons_zero, Act.put, List.setIfInBounds_toArray, List.set_cons_succ, List.set_cons_zero]
          refine wpAnyH_done (by kernel_rfl) ?_ _
          go_wp2_with fail
          go_meet
          case rel => exact ⟨_, z9.1, k9, s10⟩
      case rest =>
      obtain ⟨v2, h0, k0, S0⟩ := hcut
      obtain ⟨st2, hs2⟩ : ∃ t : Te, { st1 with past := x :: st1.past } = t := ⟨_, rfl⟩
      have e1 : st2.past.length = st1.past.length + 1 := by rw [← hs2]; rfl
      have e2 : st2.hist = st1.hist := by rw [← hs2]
      have hf2 : st2.past.length ≤ st2.hist + 1 := by omega
      rw [hs2] at h0
      obtain ⟨aq, cq, hv⟩ := own_shapeT h0.rp
      subst hv
      have HS2 := hidOf2 hs2
      have hq1 := cap_le h0.rp
      clear e1 e2 hs2 hf1 hh1
      obtain ⟨w3, hw3⟩ : ∃ x, x = wc := ⟨_, rfl⟩
      subst hw3
      have c3 := h0.cells.2.2.2.1
      have c0 := h0.cells.1
      have f3 := h0.cells.2.2.2.2.2.2 3
      have HH := hidOf2 h0
      have HK := hidOf2 k0
      have HC3 : Hid (∀ m : Nat, m ≤ st2.past.length → m = min st2.past.length st2.hist → Ptv g P { st2 with past := st2.past.take st2.hist } v1 (.slice aq m cq) vw (w3.setCell ⟨g, 3, none⟩ (.slice aq m cq)).drew ∧ Kq P w (w3.setCell ⟨g, 3, none⟩ (.slice aq m cq)).drew) := fun m hm hm2 => by
        have h1 := HH.out.cutP m hm
        have ht : st2.past.take m = st2.past.take st2.hist := by
          rw [hm2]
          rcases Nat.le_total st2.past.length st2.hist with h | h
          · rw [Nat.min_eq_left h, List.take_of_length_le (Nat.le_refl _), List.take_of_length_le h]
          · rw [Nat.min_eq_right h]
        rw [ht] at h1
        exact ⟨h1.kq (Q := fun _ => False) ((Kq.refl _ _).drawn 1) (fun _ _ _ h => h), (HK.out.setCell ⟨g, 3, none⟩ HH.out.pg _).drawn 1⟩
      have s0 : Hid (Bc 37 q x.arr w3) := S0
      have HT : Hid (∀ z : World, Ptv g P { st2 with past := st2.past.take st2.hist } v1 (.slice aq (min st2.past.length st2.hist) cq) vw z → Kq P w z → Calls Try.prog 26 #[.pointer (some ⟨g, 0, none⟩), .int .u16 x.c, .agg #[.int .u8 x.x0, .int .u8 x.x1, .int .u8 x.x2, .int .u8 x.x3, .int .u8 x.x4]] z fun e w' => e = .returned (.tuple #[]) ∧ Pt g P (s.rs x) w' ∧ Kq P w w') := fun z hz kz => by
        have hn : st2.now = s.now ++ [x] := by rw [← HS2.out, ← HS1.out]
        have := tell_any hz (fun k hk => hP k (Nat.le_trans kz.size hk)) (by show st2.now.length ≤ _; rw [hn]; simp; omega) x.c x.hc x.x0 x.x1 x.x2 x.x3 x.x4
        refine this.mono ?_
        rintro e w' ⟨rfl, vw', h9, k9⟩
        have e9 : { st2 with past := st2.past.take st2.hist, waits := push st2.waits (tl x.c x.hc st2.now x.x0 x.x1 x.x2 x.x3 x.x4) } = s.rs x := by rw [← HS2.out, ← HS1.out]; rfl
        refine ⟨rfl, ?_, kz.trans k9⟩
        rw [← e9]
        exact ⟨_, _, _, h9⟩
      obtain ⟨n, hn⟩ : ∃ n, st2.past.length = n := ⟨_, rfl⟩
      obtain ⟨hh, hhh⟩ : ∃ n, st2.hist = n := ⟨_, rfl⟩
      have hb1 : n ≤ 255 := by have := HH.out.ok.h4; omega
      have hb2 : hh ≤ 254 := by have := HH.out.ok.h2; omega
      have HB : Hid (∀ z : World, Kq (fun k => k = g) w3 z → Bc 37 q x.arr z) := fun z hz => Bc.kq s0.out hz (fun e => hgq e.symm)
      have HK3 : Hid (∀ v : Value, Kq (fun k => k = g) w3 (w3.setCell ⟨g, 3, none⟩ v).drew) := fun v => (Kq.one w3 g 3 v).drawn 1
      rw [hn] at HC3 HT c3 hq1
      rw [hhh] at HC3 HT c0
      clear S0 h0 k0 HH HK s0 hf2 hn hhh
      by_cases hm : n ≤ hh
      all_goals
        first
          | (rw [Nat.min_eq_left hm] at HC3 HT; have H3 := hidOf2 (HC3.out n (Nat.le_refl _) rfl); have HB3 := HB.out _ (HK3.out (.slice aq n cq)); have hm1 : (n : Int) ≤ (hh : Int) := by omega)
          | (rw [Nat.min_eq_right (by omega)] at HC3 HT; have H3 := hidOf2 (HC3.out hh (by omega) rfl); have HB3 := HB.out _ (HK3.out (.slice aq hh cq)); have hm1 : ¬ (n : Int) ≤ (hh : Int) := by omega)
        go_upto_region 5 with fail
        go_region
        clear HC3 HB HK3 c3 c0 f3
        have hT := HT.out _ H3.out.1 H3.out.2
        have q0 := HB3.cell 0
        have q2 := HB3.cell 2
        have q3 := HB3.cell 3
        have q4 := HB3.cell 4
        have q5 := HB3.cell 5
        have q6 := HB3.cell 6
        generalize (w3.setCell ⟨g, 3, none⟩ _).drew = z at *
        replace q0 : z.cell? ⟨q, 0, none⟩ = some (.int .u16 x.c) := q0
        replace q2 : z.cell? ⟨q, 2, none⟩ = some (.int .u8 x.x0) := q2
        replace q3 : z.cell? ⟨q, 3, none⟩ = some (.int .u8 x.x1) := q3
        replace q4 : z.cell? ⟨q, 4, none⟩ = some (.int .u8 x.x2) := q4
        replace q5 : z.cell? ⟨q, 5, none⟩ = some (.int .u8 x.x3) := q5
        replace q6 : z.cell? ⟨q, 6, none⟩ = some (.int .u8 x.x4) := q6
        go_wp2_with (go_at_call 26; refine hT.mono ?_; rintro e w' ⟨rfl, h9, k9⟩)
        go_ret
        exact ⟨rfl, h9, k9⟩
    · have hr : s.raise x = s := by unfold Te.raise; rw [Te.can_big (by omega), decide_eq_false hi]; rfl
      rw [hr, decide_eq_false hi]
      have hd2 : decide (0 ≤ ix s.now x.c) = true := by simp; omega
      have HH := hidOf2 (fun (u : World) (b : Below w0.heap.size w0 u) => And.intro (h0.below b) (k0.trans (Kq.of_below (P := P) b)))
      generalize ix s.now x.c = I at *
      generalize x.c = c at *
      clear hr h h0 k0 b0 S0 HSS HSC h256 hi
      go_enter Try.func9, Try.ntmps9
      go_wp2_with (go_at_call 24; refine hF.mono ?_; rintro e w1 ⟨rfl, b1⟩)
      go_ret
      exact ⟨rfl, ⟨_, _, _, (HH.out _ b1).1⟩, (HH.out _ b1).2⟩
end
end Go.Proofs.Ytlkocebgkmdeoaa
