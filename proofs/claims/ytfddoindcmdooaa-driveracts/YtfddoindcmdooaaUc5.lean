/- Take of the driver, with filters. Fetch of the driver: the queue's first goes out. Fetch of the driver. -/
import Derived.Test.YtfddoindcmdooaaUc4
namespace Go.Proofs.Ytfddoindcmdooaa
open Go.RowKit Go.Proofs.Bits
set_option linter.unusedVariables false
set_option maxRecDepth 1000000
set_option linter.unusedSimpArgs false

set_option maxHeartbeats 4000000 in
theorem Take_okF {w : World} {B D : Nat} {v vc : Value} {vf : Value} {cs : List Fr} {bx tk rm lo : Int} (f : Fr) (hA : Dr D (dA bx v tk rm vc lo vf) w) (h : w.ownsRow B 45 12 vc cs.length (flatW DF cs)) (hB : B ≤ w.heap.size) (hf : f.chk = 0) (hcs : (cs.length : Int) < rm) (hrm : rm ≤ 64) (HPs : Hid (∀ x, Below w.heap.size w x → Calls Try.prog 19 #[.pointer (some ⟨D, 0, none⟩), .agg f.arr] x fun e w' => e = .returned (.bool true) ∧ Below x.heap.size x w')) :
    Calls Try.prog 18 #[.pointer (some ⟨D, 0, none⟩), f.val] w fun e w' => e = .returned (.int .i64 0) ∧ ∃ x vc' w1, Below w.heap.size w x ∧ x.grownBy w1 vc.ownBlock ∧ w1.ownsRow B 45 12 vc' (cs ++ [f.plain]).length (flatW DF (cs ++ [f.plain])) ∧ w' = w1.setCell ⟨D, 4, none⟩ vc' ∧ (∀ k, k < x.heap.size → vc'.ownBlock = some k → vc.ownBlock = some k) := by
  obtain ⟨wa, hwa⟩ : ∃ wa, w.alloc (.cells f.arr 45) = wa := ⟨_, rfl⟩
  have ba : Below w.heap.size w wa := by rw [← hwa]; exact (Below.refl _ _).alloc (Nat.le_refl _) _
  have fa : Fa w.heap.size f wa := by rw [← hwa]; exact Fa.new w f
  have hC := fCheck_any f wa
  rw [hf] at hC
  obtain ⟨q, hq⟩ : ∃ q, w.heap.size = q := ⟨_, rfl⟩
  have lD : D < q := by rw [← hq]; exact (Array.getElem?_eq_some_iff.1 hA).1
  have sa : w.heap.size ≤ wa.heap.size := ba.size
  rw [hq] at fa
  obtain ⟨ac, cc, rfl⟩ := own_shape5 h
  unfold Fr.val at *
  go_enter Try.func18, Try.ntmps18
  go_upto_region 1 with fail
  go_wp2_with (refine fa.ld rfl _ rfl rfl ?_)
  refine hC.mono ?_
  rintro e w2 ⟨rfl, b2⟩
  have B2 : Below w.heap.size w w2 := ba.trans (b2.mono sa)
  have f2 := fa.below5 b2
  have hPs := HPs.out w2 B2
  clear hC fa HPs
  go_upto_region 4 with fail
  go_wp2_with (refine f2.ld rfl _ rfl rfl ?_)
  refine hPs.mono ?_
  rintro e w3 ⟨rfl, b3⟩
  have B3 : Below w.heap.size w w3 := B2.trans (b3.mono B2.size)
  have f3 := f2.below5 b3
  have A3 : Dr D (dA bx v tk rm (.slice ac cs.length cc) lo vf) w3 := (B3.block D (by omega)).trans hA
  have c3 := A3.cell (k := 3) (v := .int .i64 rm) rfl
  have c4 := A3.cell (k := 4) (v := .slice ac cs.length cc) rfl
  have hne : ((cs.length : Int) == rm) = false := by rw [beq_eq_false_iff_ne]; omega
  clear hPs f2 b2
  go_wp2_with fail
  go_quiet (fail)
  go_upto_region 9 with fail
  have B4 : Below w.heap.size w (w3.drewN nq) := below_drawn B3 nq
  have f4 : Fa q f (w3.drewN nq) := f3
  generalize w3.drewN nq = wb at *
  refine wp_region_any (by kernel_rfl) ?_
  obtain ⟨w4, hw4⟩ : ∃ x : World, { wb with drawn := wb.drawn + 1 } = x := ⟨_, rfl⟩
  rw [hw4]
  have b4 : Below wb.heap.size wb w4 := by rw [← hw4]; exact below_drawn (Below.refl _ _) 1
  have HW : Hid (∀ x, Below w4.heap.size w4 x → Dr D (dA bx v tk rm (.slice ac cs.length cc) lo vf) x ∧ x.ownsRow B 45 12 (.slice ac cs.length cc) cs.length (flatW DF cs) ∧ Fa q f x ∧ Below w.heap.size w x) := fun x hx => by
    have b5 : Below wb.heap.size wb x := b4.trans (hx.mono b4.size)
    have B5 : Below w.heap.size w x := B4.trans (b5.mono B4.size)
    exact ⟨(B5.block D (by omega)).trans hA, own_below5 h B5, f4.below5 b5, B5⟩
  have HF : Hid (∀ x, Below w4.heap.size w4 x → ∀ v' w1, w1.ownsRow B 45 12 v' (cs.length + 1) (flatW DF cs ++ f.plain.cells) → x.grownBy w1 (Value.slice ac cs.length cc).ownBlock → w1.cell? ⟨D, 4, none⟩ = some (.slice ac cs.length cc) ∧ w1.frozen? ⟨D, 4, none⟩ = false ∧ Below w.heap.size w x ∧ x.grownBy w1 (Value.slice ac cs.length cc).ownBlock ∧ w1.ownsRow B 45 12 v' (cs ++ [f.plain]).length (flatW DF (cs ++ [f.plain]))) := fun x hx v' w1 o1 g1 => by
    obtain ⟨a1, a2, a3, a4⟩ := HW.out x hx
    have A1 : Dr D _ w1 := (g1.block D (Array.getElem?_eq_some_iff.1 a1).1 (fun e => (own_typ a2 a1 (by decide)) e.symm)).trans a1
    refine ⟨A1.cell rfl, A1.free 4, a4, g1, ?_⟩
    rw [List.length_append, flatW_append]
    simpa [flatW, DF] using o1
  have HPl : Hid (∀ x, Calls Try.prog 31 #[.agg f.arr] x fun e w' => e = .returned (.agg f.plain.arr) ∧ Below x.heap.size x w') := fun x => fPlain_any f x
  obtain ⟨i0, hi0, hz0, hz1, hz2⟩ := info_parts infoFZ
  clear A3 B3 f3 b3 c3 c4 ba f4 B4 B2
  refine wpAny_take (i := 0) (v := (.pointer (some ⟨D, 0, none⟩))) rfl (by kernel_rfl) (by kernel_rfl) (by kernel_rfl) (fun _ _ _ h => h) (.inl ⟨rfl, fun _ => rfl⟩) ?_
  simp only [List.getElem_toArray, List.getElem_cons_succ, List.getElem_cons_zero, Act.put, List.setIfInBounds_toArray, List.set_cons_succ, List.set_cons_zero]
  refine wpAny_take (i := 1) (v := (.pointer (some ⟨D, 0, none⟩))) rfl (by kernel_rfl) (by kernel_rfl) (by kernel_rfl) (fun _ _ _ h => h) (.inl ⟨rfl, fun _ => rfl⟩) ?_
  simp only [List.getElem_toArray, List.getElem_cons_succ, List.getElem_cons_zero, Act.put, List.setIfInBounds_toArray, List.set_cons_succ, List.set_cons_zero]
  refine wpAny_take (i := 2) (v := (.pointer (some ⟨D, 0, none⟩))) rfl (by kernel_rfl) (by kernel_rfl) (by kernel_rfl) (fun _ _ _ h => h) (.inl ⟨rfl, fun _ => by simp [execOp, go_sem, Act.eval]⟩) ?_
  simp only [List.getElem_toArray, List.getElem_cons_succ, List.getElem_cons_zero, Act.put, List.setIfInBounds_toArray, List.set_cons_succ, List.set_cons_zero]
  refine wpAny_take (i := 3) (v := (.pointer (some ⟨D, 4, none⟩))) rfl (by kernel_rfl) (by kernel_rfl) (by kernel_rfl) (fun _ _ _ h => h) (.inl ⟨rfl, fun _ => by simp [execOp, go_sem, Act.eval]⟩) ?_
  simp only [List.getElem_toArray, List.getElem_cons_succ, List.getElem_cons_zero, Act.put, List.setIfInBounds_toArray, List.set_cons_succ, List.set_cons_zero]
  refine wpAny_all (rs := [4, 5]) (by kernel_rfl) (by simp) ?_
  intro k hk
  simp only [List.mem_cons, List.mem_nil_iff, or_false] at hk
  rcases hk with rfl | rfl
  · refine wpOp_run rfl rfl (wp_load_cell 37 _ rfl D 4 rfl (.slice ac cs.length cc) (load_frs w4 D 4 ac _ _ ((HW.out w4 (Below.refl _ _)).1.cell rfl)) ?_)
    simp only [List.getElem_toArray, List.getElem_cons_succ, List.getElem_cons_zero, Act.put, List.setIfInBounds_toArray, List.set_cons_succ, List.set_cons_zero]
    refine wpAny_all (rs := [5]) (by kernel_rfl) (by simp) ?_
    intro k hk
    simp only [List.mem_cons, List.mem_nil_iff, or_false] at hk
    subst hk
    refine wpOp_run rfl rfl (wp_load_mid 45 _ rfl q 0 rfl f.cells _ (HW.out w4 (Below.refl _ _)).2.2.1.range5 Try.underlying45 rfl (by rw [infoF]; simp [Fr.cells, f.hdata]) ?_)
    simp only [List.getElem_toArray, List.getElem_cons_succ, List.getElem_cons_zero, Act.put, List.setIfInBounds_toArray, List.set_cons_succ, List.set_cons_zero]
    refine wpAny_all (rs := [6]) (by kernel_rfl) (by simp) ?_
    intro k hk
    simp only [List.mem_cons, List.mem_nil_iff, or_false] at hk
    subst hk
    refine wpOp_run rfl rfl (wp_call_fn 31 #[.agg f.arr] (by simp [execOp, go_sem, Act.eval, resolve, invoke, enterP]; rfl) ((HPl.out w4).mono ?_))
    rintro e x5 ⟨rfl, b5⟩
    simp only [List.getElem_toArray, List.getElem_cons_succ, List.getElem_cons_zero, Act.put, List.setIfInBounds_toArray, List.set_cons_succ, List.set_cons_zero]
    refine wpAny_all (rs := [7]) (by kernel_rfl) (by simp) ?_
    intro k hk
    simp only [List.mem_cons, List.mem_nil_iff, or_false] at hk
    subst hk
    refine wpOp_run rfl rfl (wp_buildSlice 37 45 1 _ rfl f.plain.arr i0 _ Try.underlying37 hi0 hz0 (by rw [hz1]; omega) (by rw [hz1]; omega) (by rw [hz1]; simp only [List.map_toArray, List.map_cons, List.map_nil]; exact fill_fr f.plain) ?_)
    simp only [List.getElem_toArray, List.getElem_cons_succ, List.getElem_cons_zero, Act.put, List.setIfInBounds_toArray, List.set_cons_succ, List.set_cons_zero]
    refine wpAny_all (rs := [8]) (by kernel_rfl) (by simp) ?_
    intro k hk
    simp only [List.mem_cons, List.mem_nil_iff, or_false] at hk
    subst hk
    refine wpOp_run rfl rfl (wp_append_own2 _ _ _ 37 rfl B 45 i0 _ 12 24 Try.underlying37 hi0 hz0 hz1 hz2 rfl (by omega) _ cs.length (flatW DF cs) rfl (HW.out (x5.alloc (.cells f.plain.arr 45)) (b5.trans (((Below.refl _ x5).alloc (Nat.le_refl _) (.cells f.plain.arr 45)).mono b5.size))).2.1 ⟨x5.heap.size, 0, none⟩ 1 1 f.plain.cells rfl (by simp [Fr.cells, f.plain.hdata]) (news_fr x5 f.plain) (DF.one f.plain) (by unfold maxLen; omega) (by omega) (Nat.le_trans hB (HW.out (x5.alloc (.cells f.plain.arr 45)) (b5.trans (((Below.refl _ x5).alloc (Nat.le_refl _) (.cells f.plain.arr 45)).mono b5.size))).2.2.2.size) ?_)
    intro v' w1 o1 g1 nw
    simp only [List.getElem_toArray, List.getElem_cons_succ, List.getElem_cons_zero, Act.put, List.setIfInBounds_toArray, List.set_cons_succ, List.set_cons_zero]
    have HX := HF.out (x5.alloc (.cells f.plain.arr 45)) (b5.trans (((Below.refl _ x5).alloc (Nat.le_refl _) (.cells f.plain.arr 45)).mono b5.size)) v' w1 o1 g1
    obtain ⟨ao', cap', rfl⟩ := own_shape5 o1
    refine wpAny_take (i := 9) (v := (.pointer (some ⟨D, 0, none⟩))) rfl (by kernel_rfl) (by kernel_rfl) (by kernel_rfl) (fun _ _ _ h => h) (.inl ⟨rfl, fun _ => by simp [execOp, go_sem, Act.eval]⟩) ?_
    simp only [List.getElem_toArray, List.getElem_cons_succ, List.getElem_cons_zero, Act.put, List.setIfInBounds_toArray, List.set_cons_succ, List.set_cons_zero]
    refine wpAny_take (i := 10) (v := (.pointer (some ⟨D, 4, none⟩))) rfl (by kernel_rfl) (by kernel_rfl) (by kernel_rfl) (fun _ _ _ h => h) (.inl ⟨rfl, fun _ => by simp [execOp, go_sem, Act.eval]⟩) ?_
    simp only [List.getElem_toArray, List.getElem_cons_succ, List.getElem_cons_zero, Act.put, List.setIfInBounds_toArray, List.set_cons_succ, List.set_cons_zero]
    refine wpAny_all (rs := [11]) (by kernel_rfl) (by simp) ?_
    intro k hk
    simp only [List.mem_cons, List.mem_nil_iff, or_false] at hk
    subst hk
    refine wpOp_run rfl rfl (wp_store_cell 37 _ _ rfl D 4 rfl _ rfl (store_frs w1 D 4 _ ao' _ cap' HX.1 HX.2.1) ?_)
    simp only [List.getElem_toArray, List.getElem_cons_succ, List.getElem_cons_zero, Act.put, List.setIfInBounds_toArray, List.set_cons_succ, List.set_cons_zero]
    refine wpAny_done (by kernel_rfl) ?_ _
    have HZ : Hid _ := HX.2.2
    have HN : Hid _ := nw
    clear HX o1 g1 nw HF HPl HW
    go_wp2
    go_ret
    exact ⟨rfl, _, _, w1, HZ.out.1, HZ.out.2.1, HZ.out.2.2, rfl, HN.out⟩
  · refine wpOp_run rfl rfl (wp_load_mid 45 _ rfl q 0 rfl f.cells _ (HW.out w4 (Below.refl _ _)).2.2.1.range5 Try.underlying45 rfl (by rw [infoF]; simp [Fr.cells, f.hdata]) ?_)
    simp only [List.getElem_toArray, List.getElem_cons_succ, List.getElem_cons_zero, Act.put, List.setIfInBounds_toArray, List.set_cons_succ, List.set_cons_zero]
    refine wpAny_all (rs := [4, 6]) (by kernel_rfl) (by simp) ?_
    intro k hk
    simp only [List.mem_cons, List.mem_nil_iff, or_false] at hk
    rcases hk with rfl | rfl
    · refine wpOp_run rfl rfl (wp_load_cell 37 _ rfl D 4 rfl (.slice ac cs.length cc) (load_frs w4 D 4 ac _ _ ((HW.out w4 (Below.refl _ _)).1.cell rfl)) ?_)
      simp only [List.getElem_toArray, List.getElem_cons_succ, List.getElem_cons_zero, Act.put, List.setIfInBounds_toArray, List.set_cons_succ, List.set_cons_zero]
      refine wpAny_all (rs := [6]) (by kernel_rfl) (by simp) ?_
      intro k hk
      simp only [List.mem_cons, List.mem_nil_iff, or_false] at hk
      subst hk
      refine wpOp_run rfl rfl (wp_call_fn 31 #[.agg f.arr] (by simp [execOp, go_sem, Act.eval, resolve, invoke, enterP]; rfl) ((HPl.out w4).mono ?_))
      rintro e x5 ⟨rfl, b5⟩
      simp only [List.getElem_toArray, List.getElem_cons_succ, List.getElem_cons_zero, Act.put, List.setIfInBounds_toArray, List.set_cons_succ, List.set_cons_zero]
      refine wpAny_all (rs := [7]) (by kernel_rfl) (by simp) ?_
      intro k hk
      simp only [List.mem_cons, List.mem_nil_iff, or_false] at hk
      subst hk
      refine wpOp_run rfl rfl (wp_buildSlice 37 45 1 _ rfl f.plain.arr i0 _ Try.underlying37 hi0 hz0 (by rw [hz1]; omega) (by rw [hz1]; omega) (by rw [hz1]; simp only [List.map_toArray, List.map_cons, List.map_nil]; exact fill_fr f.plain) ?_)
      simp only [List.getElem_toArray, List.getElem_cons_succ, List.getElem_cons_zero, Act.put, List.setIfInBounds_toArray, List.set_cons_succ, List.set_cons_zero]
      refine wpAny_all (rs := [8]) (by kernel_rfl) (by simp) ?_
      intro k hk
      simp only [List.mem_cons, List.mem_nil_iff, or_false] at hk
      subst hk
      refine wpOp_run rfl rfl (wp_append_own2 _ _ _ 37 rfl B 45 i0 _ 12 24 Try.underlying37 hi0 hz0 hz1 hz2 rfl (by omega) _ cs.length (flatW DF cs) rfl (HW.out (x5.alloc (.cells f.plain.arr 45)) (b5.trans (((Below.refl _ x5).alloc (Nat.le_refl _) (.cells f.plain.arr 45)).mono b5.size))).2.1 ⟨x5.heap.size, 0, none⟩ 1 1 f.plain.cells rfl (by simp [Fr.cells, f.plain.hdata]) (news_fr x5 f.plain) (DF.one f.plain) (by unfold maxLen; omega) (by omega) (Nat.le_trans hB (HW.out (x5.alloc (.cells f.plain.arr 45)) (b5.trans (((Below.refl _ x5).alloc (Nat.le_refl _) (.cells f.plain.arr 45)).mono b5.size))).2.2.2.size) ?_)
      intro v' w1 o1 g1 nw
      simp only [List.getElem_toArray, List.getElem_cons_succ, List.getElem_cons_zero, Act.put, List.setIfInBounds_toArray, List.set_cons_succ, List.set_cons_zero]
      have HX := HF.out (x5.alloc (.cells f.plain.arr 45)) (b5.trans (((Below.refl _ x5).alloc (Nat.le_refl _) (.cells f.plain.arr 45)).mono b5.size)) v' w1 o1 g1
      obtain ⟨ao', cap', rfl⟩ := own_shape5 o1
      refine wpAny_take (i := 9) (v := (.pointer (some ⟨D, 0, none⟩))) rfl (by kernel_rfl) (by kernel_rfl) (by kernel_rfl) (fun _ _ _ h => h) (.inl ⟨rfl, fun _ => by simp [execOp, go_sem, Act.eval]⟩) ?_
      simp only [List.getElem_toArray, List.getElem_cons_succ, List.getElem_cons_zero, Act.put, List.setIfInBounds_toArray, List.set_cons_succ, List.set_cons_zero]
      refine wpAny_take (i := 10) (v := (.pointer (some ⟨D, 4, none⟩))) rfl (by kernel_rfl) (by kernel_rfl) (by kernel_rfl) (fun _ _ _ h => h) (.inl ⟨rfl, fun _ => by simp [execOp, go_sem, Act.eval]⟩) ?_
      simp only [List.getElem_toArray, List.getElem_cons_succ, List.getElem_cons_zero, Act.put, List.setIfInBounds_toArray, List.set_cons_succ, List.set_cons_zero]
      refine wpAny_all (rs := [11]) (by kernel_rfl) (by simp) ?_
      intro k hk
      simp only [List.mem_cons, List.mem_nil_iff, or_false] at hk
      subst hk
      refine wpOp_run rfl rfl (wp_store_cell 37 _ _ rfl D 4 rfl _ rfl (store_frs w1 D 4 _ ao' _ cap' HX.1 HX.2.1) ?_)
      simp only [List.getElem_toArray, List.getElem_cons_succ, List.getElem_cons_zero, Act.put, List.setIfInBounds_toArray, List.set_cons_succ, List.set_cons_zero]
      refine wpAny_done (by kernel_rfl) ?_ _
      have HZ : Hid _ := HX.2.2
      have HN : Hid _ := nw
      clear HX o1 g1 nw HF HPl HW
      go_wp2
      go_ret
      exact ⟨rfl, _, _, w1, HZ.out.1, HZ.out.2.1, HZ.out.2.2, rfl, HN.out⟩
    · refine wpOp_run rfl rfl (wp_call_fn 31 #[.agg f.arr] (by simp [execOp, go_sem, Act.eval, resolve, invoke, enterP]; rfl) ((HPl.out w4).mono ?_))
      rintro e x5 ⟨rfl, b5⟩
      simp only [List.getElem_toArray, List.getElem_cons_succ, List.getElem_cons_zero, Act.put, List.setIfInBounds_toArray, List.set_cons_succ, List.set_cons_zero]
      refine wpAny_all (rs := [4, 7]) (by kernel_rfl) (by simp) ?_
      intro k hk
      simp only [List.mem_cons, List.mem_nil_iff, or_false] at hk
      rcases hk with rfl | rfl
      · refine wpOp_run rfl rfl (wp_load_cell 37 _ rfl D 4 rfl (.slice ac cs.length cc) (load_frs x5 D 4 ac _ _ ((HW.out x5 b5).1.cell rfl)) ?_)
        simp only [List.getElem_toArray, List.getElem_cons_succ, List.getElem_cons_zero, Act.put, List.setIfInBounds_toArray, List.set_cons_succ, List.set_cons_zero]
        refine wpAny_all (rs := [7]) (by kernel_rfl) (by simp) ?_
        intro k hk
        simp only [List.mem_cons, List.mem_nil_iff, or_false] at hk
        subst hk
        refine wpOp_run rfl rfl (wp_buildSlice 37 45 1 _ rfl f.plain.arr i0 _ Try.underlying37 hi0 hz0 (by rw [hz1]; omega) (by rw [hz1]; omega) (by rw [hz1]; simp only [List.map_toArray, List.map_cons, List.map_nil]; exact fill_fr f.plain) ?_)
        simp only [List.getElem_toArray, List.getElem_cons_succ, List.getElem_cons_zero, Act.put, List.setIfInBounds_toArray, List.set_cons_succ, List.set_cons_zero]
        refine wpAny_all (rs := [8]) (by kernel_rfl) (by simp) ?_
        intro k hk
        simp only [List.mem_cons, List.mem_nil_iff, or_false] at hk
        subst hk
        refine wpOp_run rfl rfl (wp_append_own2 _ _ _ 37 rfl B 45 i0 _ 12 24 Try.underlying37 hi0 hz0 hz1 hz2 rfl (by omega) _ cs.length (flatW DF cs) rfl (HW.out (x5.alloc (.cells f.plain.arr 45)) (b5.trans (((Below.refl _ x5).alloc (Nat.le_refl _) (.cells f.plain.arr 45)).mono b5.size))).2.1 ⟨x5.heap.size, 0, none⟩ 1 1 f.plain.cells rfl (by simp [Fr.cells, f.plain.hdata]) (news_fr x5 f.plain) (DF.one f.plain) (by unfold maxLen; omega) (by omega) (Nat.le_trans hB (HW.out (x5.alloc (.cells f.plain.arr 45)) (b5.trans (((Below.refl _ x5).alloc (Nat.le_refl _) (.cells f.plain.arr 45)).mono b5.size))).2.2.2.size) ?_)
        intro v' w1 o1 g1 nw
        simp only [List.getElem_toArray, List.getElem_cons_succ, List.getElem_cons_zero, Act.put, List.setIfInBounds_toArray, List.set_cons_succ, List.set_cons_zero]
        have HX := HF.out (x5.alloc (.cells f.plain.arr 45)) (b5.trans (((Below.refl _ x5).alloc (Nat.le_refl _) (.cells f.plain.arr 45)).mono b5.size)) v' w1 o1 g1
        obtain ⟨ao', cap', rfl⟩ := own_shape5 o1
        refine wpAny_take (i := 9) (v := (.pointer (some ⟨D, 0, none⟩))) rfl (by kernel_rfl) (by kernel_rfl) (by kernel_rfl) (fun _ _ _ h => h) (.inl ⟨rfl, fun _ => by simp [execOp, go_sem, Act.eval]⟩) ?_
        simp only [List.getElem_toArray, List.getElem_cons_succ, List.getElem_cons_zero, Act.put, List.setIfInBounds_toArray, List.set_cons_succ, List.set_cons_zero]
        refine wpAny_take (i := 10) (v := (.pointer (some ⟨D, 4, none⟩))) rfl (by kernel_rfl) (by kernel_rfl) (by kernel_rfl) (fun _ _ _ h => h) (.inl ⟨rfl, fun _ => by simp [execOp, go_sem, Act.eval]⟩) ?_
        simp only [List.getElem_toArray, List.getElem_cons_succ, List.getElem_cons_zero, Act.put, List.setIfInBounds_toArray, List.set_cons_succ, List.set_cons_zero]
        refine wpAny_all (rs := [11]) (by kernel_rfl) (by simp) ?_
        intro k hk
        simp only [List.mem_cons, List.mem_nil_iff, or_false] at hk
        subst hk
        refine wpOp_run rfl rfl (wp_store_cell 37 _ _ rfl D 4 rfl _ rfl (store_frs w1 D 4 _ ao' _ cap' HX.1 HX.2.1) ?_)
        simp only [List.getElem_toArray, List.getElem_cons_succ, List.getElem_cons_zero, Act.put, List.setIfInBounds_toArray, List.set_cons_succ, List.set_cons_zero]
        refine wpAny_done (by kernel_rfl) ?_ _
        have HZ : Hid _ := HX.2.2
        have HN : Hid _ := nw
        clear HX o1 g1 nw HF HPl HW
        go_wp2
        go_ret
        exact ⟨rfl, _, _, w1, HZ.out.1, HZ.out.2.1, HZ.out.2.2, rfl, HN.out⟩
      · refine wpOp_run rfl rfl (wp_buildSlice 37 45 1 _ rfl f.plain.arr i0 _ Try.underlying37 hi0 hz0 (by rw [hz1]; omega) (by rw [hz1]; omega) (by rw [hz1]; simp only [List.map_toArray, List.map_cons, List.map_nil]; exact fill_fr f.plain) ?_)
        simp only [List.getElem_toArray, List.getElem_cons_succ, List.getElem_cons_zero, Act.put, List.setIfInBounds_toArray, List.set_cons_succ, List.set_cons_zero]
        refine wpAny_all (rs := [4]) (by kernel_rfl) (by simp) ?_
        intro k hk
        simp only [List.mem_cons, List.mem_nil_iff, or_false] at hk
        subst hk
        refine wpOp_run rfl rfl (wp_load_cell 37 _ rfl D 4 rfl (.slice ac cs.length cc) (load_frs (x5.alloc (.cells f.plain.arr 45)) D 4 ac _ _ ((HW.out (x5.alloc (.cells f.plain.arr 45)) (b5.trans (((Below.refl _ x5).alloc (Nat.le_refl _) (.cells f.plain.arr 45)).mono b5.size))).1.cell rfl)) ?_)
        simp only [List.getElem_toArray, List.getElem_cons_succ, List.getElem_cons_zero, Act.put, List.setIfInBounds_toArray, List.set_cons_succ, List.set_cons_zero]
        refine wpAny_all (rs := [8]) (by kernel_rfl) (by simp) ?_
        intro k hk
        simp only [List.mem_cons, List.mem_nil_iff, or_false] at hk
        subst hk
        refine wpOp_run rfl rfl (wp_append_own2 _ _ _ 37 rfl B 45 i0 _ 12 24 Try.underlying37 hi0 hz0 hz1 hz2 rfl (by omega) _ cs.length (flatW DF cs) rfl (HW.out (x5.alloc (.cells f.plain.arr 45)) (b5.trans (((Below.refl _ x5).alloc (Nat.le_refl _) (.cells f.plain.arr 45)).mono b5.size))).2.1 ⟨x5.heap.size, 0, none⟩ 1 1 f.plain.cells rfl (by simp [Fr.cells, f.plain.hdata]) (news_fr x5 f.plain) (DF.one f.plain) (by unfold maxLen; omega) (by omega) (Nat.le_trans hB (HW.out (x5.alloc (.cells f.plain.arr 45)) (b5.trans (((Below.refl _ x5).alloc (Nat.le_refl _) (.cells f.plain.arr 45)).mono b5.size))).2.2.2.size) ?_)
        intro v' w1 o1 g1 nw
        simp only [List.getElem_toArray, List.getElem_cons_succ, List.getElem_cons_zero, Act.put, List.setIfInBounds_toArray, List.set_cons_succ, List.set_cons_zero]
        have HX := HF.out (x5.alloc (.cells f.plain.arr 45)) (b5.trans (((Below.refl _ x5).alloc (Nat.le_refl _) (.cells f.plain.arr 45)).mono b5.size)) v' w1 o1 g1
        obtain ⟨ao', cap', rfl⟩ := own_shape5 o1
        refine wpAny_take (i := 9) (v := (.pointer (some ⟨D, 0, none⟩))) rfl (by kernel_rfl) (by kernel_rfl) (by kernel_rfl) (fun _ _ _ h => h) (.inl ⟨rfl, fun _ => by simp [execOp, go_sem, Act.eval]⟩) ?_
        simp only [List.getElem_toArray, List.getElem_cons_succ, List.getElem_cons_zero, Act.put, List.setIfInBounds_toArray, List.set_cons_succ, List.set_cons_zero]
        refine wpAny_take (i := 10) (v := (.pointer (some ⟨D, 4, none⟩))) rfl (by kernel_rfl) (by kernel_rfl) (by kernel_rfl) (fun _ _ _ h => h) (.inl ⟨rfl, fun _ => by simp [execOp, go_sem, Act.eval]⟩) ?_
        simp only [List.getElem_toArray, List.getElem_cons_succ, List.getElem_cons_zero, Act.put, List.setIfInBounds_toArray, List.set_cons_succ, List.set_cons_zero]
        refine wpAny_all (rs := [11]) (by kernel_rfl) (by simp) ?_
        intro k hk
        simp only [List.mem_cons, List.mem_nil_iff, or_false] at hk
        subst hk
        refine wpOp_run rfl rfl (wp_store_cell 37 _ _ rfl D 4 rfl _ rfl (store_frs w1 D 4 _ ao' _ cap' HX.1 HX.2.1) ?_)
        simp only [List.getElem_toArray, List.getElem_cons_succ, List.getElem_cons_zero, Act.put, List.setIfInBounds_toArray, List.set_cons_succ, List.set_cons_zero]
        refine wpAny_done (by kernel_rfl) ?_ _
        have HZ : Hid _ := HX.2.2
        have HN : Hid _ := nw
        clear HX o1 g1 nw HF HPl HW
        go_wp2
        go_ret
        exact ⟨rfl, _, _, w1, HZ.out.1, HZ.out.2.1, HZ.out.2.2, rfl, HN.out⟩
set_option maxHeartbeats 1000000 in
theorem Take_bad {w : World} {D : Nat} (f : Fr) (hf : f.chk ≠ 0) :
    Calls Try.prog 18 #[.pointer (some ⟨D, 0, none⟩), f.val] w fun e w' => e = .returned (.int .i64 f.chk) ∧ Below w.heap.size w w' := by
  obtain ⟨wa, hwa⟩ : ∃ wa, w.alloc (.cells f.arr 45) = wa := ⟨_, rfl⟩
  have ba : Below w.heap.size w wa := by rw [← hwa]; exact (Below.refl _ _).alloc (Nat.le_refl _) _
  have fa : Fa w.heap.size f wa := by rw [← hwa]; exact Fa.new w f
  have hC := fCheck_any f wa
  have hne : (f.chk != 0) = true := by simpa using hf
  obtain ⟨q, hq⟩ : ∃ q, w.heap.size = q := ⟨_, rfl⟩
  have sa := ba.size
  rw [hq] at fa
  unfold Fr.val at *
  generalize f.chk = z at *
  go_enter Try.func18, Try.ntmps18
  go_upto_region 1 with fail
  go_wp2_with (refine fa.ld rfl _ rfl rfl ?_)
  refine hC.mono ?_
  rintro e w2 ⟨rfl, b2⟩
  have B2 : Below w.heap.size w w2 := ba.trans (b2.mono sa)
  clear hC fa
  go_wp2
  go_ret
  exact ⟨rfl, B2⟩
set_option maxHeartbeats 1000000 in
theorem Take_none {w : World} {D : Nat} (f : Fr) (hf : f.chk = 0) (HPs : Hid (∀ x, Below w.heap.size w x → Calls Try.prog 19 #[.pointer (some ⟨D, 0, none⟩), .agg f.arr] x fun e w' => e = .returned (.bool false) ∧ Below x.heap.size x w')) :
    Calls Try.prog 18 #[.pointer (some ⟨D, 0, none⟩), f.val] w fun e w' => e = .returned (.int .i64 4) ∧ Below w.heap.size w w' := by
  obtain ⟨wa, hwa⟩ : ∃ wa, w.alloc (.cells f.arr 45) = wa := ⟨_, rfl⟩
  have ba : Below w.heap.size w wa := by rw [← hwa]; exact (Below.refl _ _).alloc (Nat.le_refl _) _
  have fa : Fa w.heap.size f wa := by rw [← hwa]; exact Fa.new w f
  have hC := fCheck_any f wa
  rw [hf] at hC
  obtain ⟨q, hq⟩ : ∃ q, w.heap.size = q := ⟨_, rfl⟩
  have sa := ba.size
  rw [hq] at fa
  unfold Fr.val at *
  go_enter Try.func18, Try.ntmps18
  go_upto_region 1 with fail
  go_wp2_with (refine fa.ld rfl _ rfl rfl ?_)
  refine hC.mono ?_
  rintro e w2 ⟨rfl, b2⟩
  have B2 : Below w.heap.size w w2 := ba.trans (b2.mono sa)
  have f2 := fa.below5 b2
  have hPs := HPs.out w2 B2
  clear hC fa HPs
  go_upto_region 4 with fail
  go_wp2_with (refine f2.ld rfl _ rfl rfl ?_)
  refine hPs.mono ?_
  rintro e w3 ⟨rfl, b3⟩
  have B3 : Below w.heap.size w w3 := B2.trans (b3.mono B2.size)
  clear hPs f2
  go_wp2
  go_ret
  exact ⟨rfl, B3⟩
set_option maxHeartbeats 1000000 in
theorem Take_over {w : World} {D : Nat} {v vf : Value} {ac : Option Addr} {n cc : Nat} {bx tk rm lo : Int} (f : Fr) (hA : Dr D (dA bx v tk rm (.slice ac n cc) lo vf) w) (hf : f.chk = 0) (hn : (n : Int) = rm) (hlo : 0 ≤ lo ∧ lo < 4611686018427387904) (HPs : Hid (∀ x, Below w.heap.size w x → Calls Try.prog 19 #[.pointer (some ⟨D, 0, none⟩), .agg f.arr] x fun e w' => e = .returned (.bool true) ∧ Below x.heap.size x w')) :
    Calls Try.prog 18 #[.pointer (some ⟨D, 0, none⟩), f.val] w fun e w' => e = .returned (.int .i64 50) ∧ ∃ x, Below w.heap.size w x ∧ w' = x.setCell ⟨D, 5, none⟩ (.int .i64 (lo + 1)) := by
  obtain ⟨wa, hwa⟩ : ∃ wa, w.alloc (.cells f.arr 45) = wa := ⟨_, rfl⟩
  have ba : Below w.heap.size w wa := by rw [← hwa]; exact (Below.refl _ _).alloc (Nat.le_refl _) _
  have fa : Fa w.heap.size f wa := by rw [← hwa]; exact Fa.new w f
  have hC := fCheck_any f wa
  rw [hf] at hC
  obtain ⟨q, hq⟩ : ∃ q, w.heap.size = q := ⟨_, rfl⟩
  have lD : D < q := by rw [← hq]; exact (Array.getElem?_eq_some_iff.1 hA).1
  have sa := ba.size
  rw [hq] at fa
  have hne : ((n : Int) == rm) = true := by simpa using hn
  clear hn
  unfold Fr.val at *
  go_enter Try.func18, Try.ntmps18
  go_upto_region 1 with fail
  go_wp2_with (refine fa.ld rfl _ rfl rfl ?_)
  refine hC.mono ?_
  rintro e w2 ⟨rfl, b2⟩
  have B2 : Below w.heap.size w w2 := ba.trans (b2.mono sa)
  have f2 := fa.below5 b2
  have hPs := HPs.out w2 B2
  clear hC fa HPs
  go_upto_region 4 with fail
  go_wp2_with (refine f2.ld rfl _ rfl rfl ?_)
  refine hPs.mono ?_
  rintro e w3 ⟨rfl, b3⟩
  have B3 : Below w.heap.size w w3 := B2.trans (b3.mono B2.size)
  have A3 : Dr D (dA bx v tk rm (.slice ac n cc) lo vf) w3 := (B3.block D (by omega)).trans hA
  have c3 := A3.cell (k := 3) (v := .int .i64 rm) rfl
  have c4 := A3.cell (k := 4) (v := .slice ac n cc) rfl
  have c5 := A3.cell (k := 5) (v := .int .i64 lo) rfl
  have hfr := A3.free 5
  have HB : Hid (∀ m, Below w.heap.size w (w3.drewN m)) := fun m => below_drawn B3 m
  clear hPs f2 A3 hA
  go_wp2_with fail
  go_quiet (fail)
  go_wp2
  go_ret
  exact ⟨rfl, _, HB.out _, rfl⟩
/-- Take, as a function. -/
def takeS (s : Dv) (f : Fr) : Dv × Int :=
  if f.chk = 0 then if pasV s.l f then if (s.cs.length : Int) = s.rm then ({ s with lo := s.lo + 1 }, 50) else ({ s with cs := s.cs ++ [f.plain] }, 0) else (s, 4) else (s, f.chk)
theorem Dr.setA {D : Nat} {w : World} {bx tk rm lo : Int} {v vc vf : Value} (h : Dr D (dA bx v tk rm vc lo vf) w) (z : Int) : Dr D (dA bx v tk rm vc z vf) (w.setCell ⟨D, 5, none⟩ (.int .i64 z)) := h.set 5 _
theorem Dr.setC {D : Nat} {w : World} {bx tk rm lo : Int} {v vc vf : Value} (h : Dr D (dA bx v tk rm vc lo vf) w) (u : Value) : Dr D (dA bx v tk rm u lo vf) (w.setCell ⟨D, 4, none⟩ u) := h.set 4 _
theorem own_setD {D : Nat} {A : Array Value} {w : World} {B : Nat} {e : TypeId} {c n : Nat} {v : Value} {xs : List Value} (hM : w.ownsRow B e c v n xs) (h : Dr D A w) (he : e ≠ 68) (k : Nat) (u : Value) : (w.setCell ⟨D, k, none⟩ u).ownsRow B e c v n xs := by
  have hne := own_typ hM h he
  obtain ⟨hl, hM⟩ := hM
  refine ⟨hl, ?_⟩
  rcases hM with hM | ⟨g, cap, cur, rfl, hg, hcur, rest⟩
  · exact .inl hM
  · exact .inr ⟨g, cap, cur, rfl, hg, (Below.heap_setCell w ⟨D, k, none⟩ u g (fun e => hne (by rw [show D = g from e.symm]; rfl))).trans hcur, rest⟩
theorem Kz.set {D : Nat} {vc : Value} (w : World) (k : Nat) (u : Value) : Kz D vc vc w (w.setCell ⟨D, k, none⟩ u) :=
  ⟨rfl, rfl, rfl, by simp [World.setCell], fun j hj _ => Below.heap_setCell w ⟨D, k, none⟩ u j (by show j ≠ D; omega), fun j A T fr _ hd _ h => (Below.heap_setCell w ⟨D, k, none⟩ u j hd).trans h, fun _ _ e => e⟩
theorem own_grown_ne {w w' : World} {B : Nat} {e : TypeId} {c n : Nat} {v : Value} {xs : List Value} {r : Option Nat} (h : w.ownsRow B e c v n xs) (hg : w.grownBy w' r) (hr : ∀ g cur, r = some g → w.heap[g]? = some (.cells cur e (0, 0)) → False) : w'.ownsRow B e c v n xs := by
  obtain ⟨hl, h⟩ := h
  refine ⟨hl, ?_⟩
  rcases h with h | ⟨g, cap, cur, rfl, hB, hcur, rest⟩
  · exact .inl h
  · exact .inr ⟨g, cap, cur, rfl, hB, (hg.block g (Array.getElem?_eq_some_iff.1 hcur).1 (fun e => hr g cur e.symm hcur)).trans hcur, rest⟩
theorem own_of {w : World} {B : Nat} {e : TypeId} {c n : Nat} {v : Value} {xs : List Value} (h : w.ownsRow B e c v n xs) {g : Nat} (hg : v.ownBlock = some g) : B ≤ g ∧ ∃ cur, w.heap[g]? = some (.cells cur e (0, 0)) := by
  rcases h.2 with ⟨rfl, _⟩ | ⟨g', cap, cur, rfl, hB, hcur, _⟩
  · cases hg
  · cases hg; exact ⟨hB, cur, hcur⟩
/-- A queue that is grown by append or shifted, and laid into the driver anew. -/
theorem DvW.queue {w x w1 : World} {D : Nat} {s : Dv} {vm vc vc' : Value} (h : DvW D s vm vc w) (hb : Below w.heap.size w x) (hg : x.grownBy w1 vc.ownBlock) (cs : List Fr) (hq : Qu w1 D vc' cs) (hr : (cs.length : Int) ≤ s.rm) (hn : ∀ k, k < w.heap.size → vc'.ownBlock = some k → vc.ownBlock = some k) :
    DvW D { s with cs := cs } vm vc' (w1.setCell ⟨D, 4, none⟩ vc') ∧ Kz D vc vc' w (w1.setCell ⟨D, 4, none⟩ vc') := by
  have hx := h.below hb
  have hlt := h.lt
  have hne := h.quNe
  obtain ⟨⟨g, h1, h2⟩, h3, h4, h5, h6, h7, h8, h9, h10⟩ := hx
  have hlow : ∀ k, k < D → w1.heap[k]? = x.heap[k]? := fun k hk => hg.block k (by have := hb.size; omega) (fun e => by have := (own_of h4 e.symm).1; omega)
  have A1 : Dr D (dA s.bx vm s.tk s.rm vc s.lo (filV g s.l.length)) w1 := (hg.block D (by have := hb.size; omega) (fun e => hne e.symm)).trans h1
  have M1 : Mb w1 D vm s.ms := own_grown_ne h3 hg (fun k cur e hc => by
    obtain ⟨_, cur', hc'⟩ := own_of h4 e
    rw [hc] at hc'; simp at hc')
  have bD : Below D x (w1.setCell ⟨D, 4, none⟩ vc') := ⟨hg.os, hg.tape, hg.output, Nat.le_trans hg.size (by simp [World.setCell]), fun k hk => (Below.heap_setCell w1 ⟨D, 4, none⟩ vc' k (by show k ≠ D; omega)).trans (hlow k hk)⟩
  refine ⟨⟨⟨g, A1.setC vc', h2.below bD⟩, M1.setD A1 4 vc', own_setD hq A1 (by decide) 4 vc', h5, h6, hr, h8, h9, h10⟩, ?_⟩
  refine ⟨hg.os.trans hb.os, hg.tape.trans hb.tape, hg.output.trans hb.output, Nat.le_trans hb.size (Nat.le_trans hg.size (by simp [World.setCell])), fun k hk hs => ?_, fun k A T fr ht hd hv hc => ?_, hn⟩
  · exact (bD.block k hk).trans (hb.block k hs)
  · have lk := (Array.getElem?_eq_some_iff.1 hc).1
    exact (Below.heap_setCell w1 ⟨D, 4, none⟩ vc' k hd).trans ((hg.block k (Nat.lt_of_lt_of_le lk hb.size) (fun e => hv e.symm)).trans ((hb.block k lk).trans hc))
theorem Take_dv {w : World} {D : Nat} {s : Dv} {vm vc : Value} (f : Fr) (h : DvW D s vm vc w) (hlo : 0 ≤ s.lo ∧ s.lo < 4611686018427387904) :
    Calls Try.prog 18 #[.pointer (some ⟨D, 0, none⟩), f.val] w fun e w' => e = .returned (.int .i64 (takeS s f).2) ∧ ∃ vc', DvW D (takeS s f).1 vm vc' w' ∧ Kz D vc vc' w w' := by
  have hlt := h.lt
  have hh := h
  have HPs : ∀ b, pasV s.l f = b → Hid (∀ x, Below w.heap.size w x → Calls Try.prog 19 #[.pointer (some ⟨D, 0, none⟩), .agg f.arr] x fun e w' => e = .returned (.bool b) ∧ Below x.heap.size x w') := fun b hb x hx => by
    have hx' := h.below hx
    obtain ⟨⟨g, h1, h2⟩, _⟩ := hx'
    obtain ⟨gs, h3⟩ := h2.fis
    have := Passes_any f h.l0 h1 h3
    rw [hb] at this
    exact this
  obtain ⟨⟨g, h1, h2⟩, h3, h4, h5, h6, h7, h8, h9, h10⟩ := h
  unfold takeS
  by_cases hf : f.chk = 0
  · rw [if_pos hf]
    by_cases hp : pasV s.l f = true
    · rw [if_pos hp]
      by_cases hb : (s.cs.length : Int) = s.rm
      · rw [if_pos hb]
        obtain ⟨ac, cc, rfl⟩ := own_shape5 h4
        refine (Take_over f h1 hf hb hlo (HPs true hp)).mono ?_
        rintro e w' ⟨rfl, x, b, rfl⟩
        have A1 : Dr D (dA s.bx vm s.tk s.rm (.slice ac s.cs.length cc) s.lo (filV g s.l.length)) x := (b.block D hlt).trans h1
        refine ⟨rfl, _, ⟨⟨g, A1.setA _, ?_⟩, Mb.setD (own_below5 h3 b) A1 5 _, own_setD (own_below5 h4 b) A1 (by decide) 5 _, h5, h6, h7, h8, h9, h10⟩, (Kz.below b).trans (Kz.set x 5 _)⟩
        exact (h2.below (b.mono (by omega))).below ((Kz.set (vc := .slice none 0 0) x 5 _).belowD (by have := b.size; omega))
      · rw [if_neg hb]
        refine (Take_okF f h1 h4 (by omega) hf (by omega) h8 (HPs true hp)).mono ?_
        rintro e w' ⟨rfl, x, vc', w1, b, hg, hq, rfl, hn⟩
        have := hh.queue b hg (s.cs ++ [f.plain]) hq (by simp; omega) (fun k hk => hn k (Nat.lt_of_lt_of_le hk b.size))
        exact ⟨rfl, vc', this⟩
    · rw [if_neg hp]
      refine (Take_none f hf (HPs false (by simpa using hp))).mono ?_
      rintro e w' ⟨rfl, b⟩
      exact ⟨rfl, _, hh.below b, Kz.below b⟩
  · rw [if_neg hf]
    refine (Take_bad (w := w) (D := D) f hf).mono ?_
    rintro e w' ⟨rfl, b⟩
    exact ⟨rfl, _, hh.below b, Kz.below b⟩
end Go.Proofs.Ytfddoindcmdooaa
namespace Go.Proofs.Ytfddoindcmdooaa
open Go.RowKit Go.Proofs.Bits
set_option linter.unusedVariables false
set_option maxRecDepth 1000000
set_option linter.unusedSimpArgs false

theorem cut_head (g n cap : Nat) (W : World) : (Instr.sliceAt 37 (.slice (some ⟨g, 0, none⟩) n cap) none (some (.int .i64 0)) none).run Try.prog W = .ok (.slice (some ⟨g, 0, none⟩) 0 cap) W := by
  obtain ⟨i0, hi, hz0, hz1, hz2⟩ := info_parts infoFZ
  simp [Instr.sliceAt, run_underlying Try.underlying37, go_sem, sizeOf, typeInfo, hi, hz1, Addr.add]
theorem cut_tail (g n cap : Nat) (h : 1 ≤ n) (hc : n ≤ cap) (W : World) : (Instr.sliceAt 37 (.slice (some ⟨g, 0, none⟩) n cap) (some (.int .i64 1)) none none).run Try.prog W = .ok (.slice (some ⟨g, if cap = 1 then 0 else 12, none⟩) (n - 1) (cap - 1)) W := by
  obtain ⟨i0, hi, hz0, hz1, hz2⟩ := info_parts infoFZ
  have h1 : (1 : Int) ≤ (n : Int) := by omega
  have h2 : (n : Int) ≤ (cap : Int) := by omega
  simp [Instr.sliceAt, run_underlying Try.underlying37, go_sem, sizeOf, typeInfo, hi, hz1, Addr.add, h1, h2]
  split <;> rfl
theorem cut_last (g n cap : Nat) (h : n < cap) (W : World) : (Instr.sliceAt 37 (.slice (some ⟨g, 0, none⟩) n cap) (some (.int .i64 n)) (some (.int .i64 (n + 1))) none).run Try.prog W = .ok (.slice (some ⟨g, n * 12, none⟩) 1 (cap - n)) W := by
  obtain ⟨i0, hi, hz0, hz1, hz2⟩ := info_parts infoFZ
  have h2 : (n : Int) + 1 ≤ (cap : Int) := by omega
  have h3 : (0 : Int) ≤ (n : Int) := by omega
  simp [Instr.sliceAt, run_underlying Try.underlying37, go_sem, sizeOf, typeInfo, hi, hz1, Addr.add, h2, h3]
  rw [if_pos (by omega), if_neg (by omega)]
  by_cases h0 : n * 12 = 0
  · rw [if_pos h0, h0]
  · rw [if_neg h0]
theorem cut_three (g n cap : Nat) (h : 1 ≤ n) (hc : n ≤ cap) (W : World) : ∃ v, (Instr.sliceAt 37 (.slice (some ⟨g, 0, none⟩) n cap) (some (.int .i64 0)) (some (.int .i64 1)) (some (.int .i64 n))).run Try.prog W = .ok v W := by
  obtain ⟨i0, hi, hz0, hz1, hz2⟩ := info_parts infoFZ
  have h1 : (1 : Int) ≤ (n : Int) := by omega
  have h2 : (n : Int) ≤ (cap : Int) := by omega
  simp [Instr.sliceAt, run_underlying Try.underlying37, go_sem, sizeOf, typeInfo, hi, hz1, Addr.add, h1, h2]
theorem clear_fr (W : World) (b o c : Nat) (ht : W.there b o 12) (ty : TypeId) : (Builtin.clear_ #[37] ty #[.slice (some ⟨b, o, none⟩) 1 c]).run Try.prog W = .ok (.tuple #[]) (W.setCells b o Fr.nul.cells) := by
  obtain ⟨i0, hi, hz0, hz1, hz2⟩ := info_parts infoFZ
  have hst := run_storeCells_cells (P := Try.prog) b o Fr.nul.cells 0 W (fun j hj => by simpa using (ht j (by simpa [Fr.cells, Fr.nul] using hj)).1) (fun j hj => by simpa using (ht j (by simpa [Fr.cells, Fr.nul] using hj)).2) (DF.one Fr.nul)
  simp only [Nat.add_zero] at hst
  have hzc : (Builtin.zeroCells (Value.agg Fr.nul.arr).cells 1).toList = Fr.nul.cells := by kernel_rfl
  simp [Builtin.clear_, run_underlying Try.underlying37, zeroValue, typeInfo, hi, hz0, hzc, hst]
theorem wp_app_run {o : Oper} {a : Act} {w w' : World} {K : Act → World → Prop} {Q : Exit → Act → World → Prop} (s x : Operand) (t : TypeId) (ho : o.op = .call { callee := .builtin .append, args := #[s, x], argTypes := #[t, t] }) (v u v' : Value) (hs : a.eval s = v) (hx : a.eval x = u)
    (hr : ∀ ty, (Builtin.append_ #[t, t] ty #[v, u]).run Try.prog w = .ok v' w') (h : K (a.put o.dst v') w') : o.wp Try.prog a w K Q := by
  unfold Oper.wp execOp
  simp only [ho, resolve, invoke, builtin, Sem.run_bind, Sem.run_pure, Result.andThen_ok, List.map_toArray, List.map_cons, List.map_nil, hs, hx, hr]
  exact h
/-- The cells of a queue, its first left out, and the last place cleared. -/
theorem shift_cells {cs : List Fr} {cur : Array Value} {cap : Nat} (h0 : 0 < cs.length) (hc : cs.length ≤ cap) (hs : cur.size = cap * 12) (ht : cur.toList.take (cs.length * 12) = flatW DF cs) :
    (setMany (flatW DF cs.tail ++ cur.toList.drop ((cs.length - 1) * 12)).toArray ((cs.length - 1) * 12) Fr.nul.cells).toList.take (cs.tail.length * 12) = flatW DF cs.tail := by
  have hl : (flatW DF cs.tail).length = (cs.length - 1) * 12 := by rw [flatW_len, List.length_tail]; rfl
  apply List.ext_getElem?
  intro x
  rw [List.getElem?_take, List.length_tail]
  by_cases hx : x < (cs.length - 1) * 12
  · rw [if_pos hx, Array.getElem?_toList, setMany_get, if_neg (by omega)]
    simp only [List.getElem?_toArray]
    rw [List.getElem?_append_left (by rw [hl]; exact hx)]
  · rw [if_neg hx, List.getElem?_eq_none (by rw [hl]; omega)]
set_option maxHeartbeats 2000000 in
theorem Delete_any {w : World} {B g cap n : Nat} {cs : List Fr} (h : Qu w B (.slice (some ⟨g, 0, none⟩) n cap) cs) (hn : cs.length = n) (h0 : 0 < n) (hl : n ≤ 64) :
    Calls Try.prog 39 #[.slice (some ⟨g, 0, none⟩) n cap, .int .i64 0, .int .i64 1] w fun e w' => e = .returned (.slice (some ⟨g, 0, none⟩) (n - 1) cap) ∧ Qu w' B (.slice (some ⟨g, 0, none⟩) (n - 1) cap) cs.tail ∧ w.grownBy w' (some g) := by
  obtain ⟨hlen, h⟩ := h
  rcases h with ⟨h1, _⟩ | ⟨g', cap', cur, e, hB, hcur, h1, h2, h3, h4⟩
  · cases h1
  injection e with e1 e6 e5
  injection e1 with e2
  injection e2 with e3
  subst e3 e5
  clear e6
  rw [hn] at h1 h4
  obtain ⟨i0, hi, hz0, hz1, hz2⟩ := info_parts infoFZ
  obtain ⟨v3, hv3⟩ := cut_three g n cap h0 h1 w
  have HV3 : ∃ v, ∀ W : World, (Instr.sliceAt 37 (.slice (some ⟨g, 0, none⟩) n cap) (some (.int .i64 0)) (some (.int .i64 1)) (some (.int .i64 n))).run Try.prog W = .ok v W := by
    have a1 : (1 : Int) ≤ (n : Int) := by omega
    have a2 : (n : Int) ≤ (cap : Int) := by omega
    refine ⟨.slice (some ⟨g, 0, none⟩) 1 n, fun W => ?_⟩
    simp [Instr.sliceAt, run_underlying Try.underlying37, go_sem, sizeOf, typeInfo, hi, hz1, Addr.add, a1, a2]
  clear hv3
  obtain ⟨v4, hv4⟩ := HV3
  have htl : (flatW DF cs.tail).length = (n - 1) * 12 := by rw [flatW_len, List.length_tail, hn]; rfl
  have hap : ∀ W : World, W.heap[g]? = some (.cells cur 45 (0, 0)) → ∀ ty, (Builtin.append_ #[37, 37] ty #[.slice (some ⟨g, 0, none⟩) 0 cap, .slice (some ⟨g, if cap = 1 then 0 else 12, none⟩) (n - 1) (cap - 1)]).run Try.prog W = .ok (.slice (some ⟨g, 0, none⟩) (n - 1) cap) (W.setRow g (flatW DF cs.tail ++ cur.toList.drop ((n - 1) * 12)).toArray) := fun W hW ty => by
    have := run_append_room (P := Try.prog) W 37 ty 45 i0 Try.underlying37 hi g 0 cap cur hW ⟨g, if cap = 1 then 0 else 12, none⟩ (n - 1) (cap - 1) (flatW DF cs.tail) (by rw [htl, hz1]) (fun j u hj => by
      have hjl : j < (n - 1) * 12 := by rw [← htl]; exact (List.getElem?_eq_some_iff.1 hj).1
      rw [if_neg (by omega), Addr.add_mid, Lib.cell_of_heap hW]
      have e1 : cur[12 + j]? = (flatW DF cs)[12 + j]? := by
        rw [← h4, List.getElem?_take, if_pos (by omega)]; simp
      rw [e1]
      cases cs with
      | nil => simp at hn; omega
      | cons c r =>
        rw [show flatW DF (c :: r) = c.cells ++ flatW DF r by simp [flatW, DF], List.getElem?_append_right (by simp [Fr.cells, c.hdata])]
        simpa [Fr.cells, c.hdata] using hj) (flatW_one DF _) (by omega) (by rw [htl, h3]; have : (n - 1) * 12 ≤ cap * 12 := Nat.mul_le_mul_right _ (by omega); omega)
    rw [this, hz1, htl]
    simp
  have ct1 := cut_head g n cap
  have ct2 := cut_tail g n cap h0 h1
  have ct3 := cut_last g (n - 1) cap (by omega)
  have hm1 : ((n - 1 : Nat) : Int) + 1 = (n : Int) := by omega
  rw [hm1] at ct3
  have HX : Hid (∀ W : World, W.heap[g]? = some (.cells cur 45 (0, 0)) → w.grownBy W (some g) → Qu ((W.setRow g (flatW DF cs.tail ++ cur.toList.drop ((n - 1) * 12)).toArray).setCells g ((n - 1) * 12) Fr.nul.cells) B (.slice (some ⟨g, 0, none⟩) (n - 1) cap) cs.tail ∧ w.grownBy ((W.setRow g (flatW DF cs.tail ++ cur.toList.drop ((n - 1) * 12)).toArray).setCells g ((n - 1) * 12) Fr.nul.cells) (some g)) := fun W hW hg => by
    have hr := setRow_heap W g cur (flatW DF cs.tail ++ cur.toList.drop ((n - 1) * 12)).toArray 45 _ hW
    have hc' := heap_setCells g _ _ Fr.nul.cells ((n - 1) * 12) _ _ hr
    refine ⟨⟨by rw [flatW_len]; rfl, .inr ⟨g, cap, _, by rw [List.length_tail, hn], hB, hc', by rw [List.length_tail, hn]; omega, h2, ?_, ?_⟩⟩, ?_⟩
    · rw [setMany_size]
      simp [htl, h3]
      have : (n - 1) * 12 ≤ cap * 12 := Nat.mul_le_mul_right _ (by omega)
      omega
    · have := shift_cells (cs := cs) (cap := cap) (by omega) (by omega) h3 (by rw [hn]; exact h4)
      rw [hn] at this
      exact this
    · obtain ⟨a1, a2, a3, a4⟩ := cells_same g Fr.nul.cells ((n - 1) * 12) (W.setRow g (flatW DF cs.tail ++ cur.toList.drop ((n - 1) * 12)).toArray)
      refine ⟨a1.trans hg.os, a2.trans hg.tape, a3.trans hg.output, ?_, fun k hk hne => ?_⟩
      · rw [a4]; have := hg.size; simpa [World.setRow] using this
      · rw [heap_cells_other (fun h => hne (by rw [h])) _ _ _, setRow_other W g k _ (fun h => hne (by rw [h]))]
        exact hg.block k hk hne
  have HT : Hid (∀ W : World, W.heap[g]? = some (.cells cur 45 (0, 0)) → (W.setRow g (flatW DF cs.tail ++ cur.toList.drop ((n - 1) * 12)).toArray).there g ((n - 1) * 12) 12) := fun W hW => by
    have hr := setRow_heap W g cur (flatW DF cs.tail ++ cur.toList.drop ((n - 1) * 12)).toArray 45 _ hW
    intro j hj
    have hsz : (flatW DF cs.tail ++ cur.toList.drop ((n - 1) * 12)).toArray.size = cap * 12 := by
      simp [htl, h3]
      have : (n - 1) * 12 ≤ cap * 12 := Nat.mul_le_mul_right _ (by omega)
      omega
    have hnc : (n - 1) * 12 + 12 ≤ cap * 12 := by omega
    refine ⟨?_, Lib.frozen_of_heap hr _⟩
    rw [Lib.cell_of_heap hr, Array.getElem?_eq_getElem (by rw [hsz]; omega)]
    rfl
  generalize (flatW DF cs.tail ++ cur.toList.drop ((n - 1) * 12)).toArray = NR at *
  clear hlen h3 h4 htl hB hm1
  generalize n - 1 = k at *
  generalize (if cap = 1 then 0 else 12) = oo at *
  have HAP : Hid _ := hap
  clear hap hi hz0 hz1 hz2 hn h2
  go_enter Try.func39, Try.ntmps39
  go_wp2_with fail
  refine wp_region_any (by kernel_rfl) ?_
  obtain ⟨w2, hw2⟩ : ∃ x : World, { w with drawn := w.drawn + 1 } = x := ⟨_, rfl⟩
  rw [hw2]
  have c2 : w2.heap[g]? = some (.cells cur 45 (0, 0)) := by rw [← hw2]; exact hcur
  have g2 : w.grownBy w2 (some g) := by rw [← hw2]; exact grown_drawn w _ _
  have HX2 : Hid _ := HX.out w2 c2 g2
  have hT2 := HT.out w2 c2
  have hap2 := HAP.out w2 c2
  have hcl := clear_fr (w2.setRow g NR) g (k * 12) (cap - k) hT2
  generalize hw3 : w2.setRow g NR = w3 at *
  clear HAP HX HT c2 g2 hw2 hT2
  refine wpAny_take (i := 0) (v := (.slice (some ⟨g, 0, none⟩) n cap)) rfl (by kernel_rfl) (by kernel_rfl) (by kernel_rfl) (fun _ _ _ h => h) (.inl ⟨rfl, fun _ => rfl⟩) ?_
  simp only [List.getElem_toArray, List.getElem_cons_succ, List.getElem_cons_zero, Act.put, List.setIfInBounds_toArray, List.set_cons_succ, List.set_cons_zero]
  refine wpAny_take (i := 1) (v := (.int .i64 0)) rfl (by kernel_rfl) (by kernel_rfl) (by kernel_rfl) (fun _ _ _ h => h) (.inl ⟨rfl, fun _ => rfl⟩) ?_
  simp only [List.getElem_toArray, List.getElem_cons_succ, List.getElem_cons_zero, Act.put, List.setIfInBounds_toArray, List.set_cons_succ, List.set_cons_zero]
  refine wpAny_take (i := 2) (v := (.slice (some ⟨g, 0, none⟩) 0 cap)) rfl (by kernel_rfl) (by kernel_rfl) (by kernel_rfl) (fun _ _ _ h => h) (.inl ⟨rfl, fun _ => by simp [execOp, go_sem, Act.eval, ct1]⟩) ?_
  simp only [List.getElem_toArray, List.getElem_cons_succ, List.getElem_cons_zero, Act.put, List.setIfInBounds_toArray, List.set_cons_succ, List.set_cons_zero]
  refine wpAny_take (i := 3) (v := (.slice (some ⟨g, 0, none⟩) n cap)) rfl (by kernel_rfl) (by kernel_rfl) (by kernel_rfl) (fun _ _ _ h => h) (.inl ⟨rfl, fun _ => rfl⟩) ?_
  simp only [List.getElem_toArray, List.getElem_cons_succ, List.getElem_cons_zero, Act.put, List.setIfInBounds_toArray, List.set_cons_succ, List.set_cons_zero]
  refine wpAny_take (i := 4) (v := (.int .i64 1)) rfl (by kernel_rfl) (by kernel_rfl) (by kernel_rfl) (fun _ _ _ h => h) (.inl ⟨rfl, fun _ => rfl⟩) ?_
  simp only [List.getElem_toArray, List.getElem_cons_succ, List.getElem_cons_zero, Act.put, List.setIfInBounds_toArray, List.set_cons_succ, List.set_cons_zero]
  refine wpAny_take (i := 5) (v := (.slice (some ⟨g, oo, none⟩) k (cap - 1))) rfl (by kernel_rfl) (by kernel_rfl) (by kernel_rfl) (fun _ _ _ h => h) (.inl ⟨rfl, fun _ => by simp [execOp, go_sem, Act.eval, ct2]⟩) ?_
  simp only [List.getElem_toArray, List.getElem_cons_succ, List.getElem_cons_zero, Act.put, List.setIfInBounds_toArray, List.set_cons_succ, List.set_cons_zero]
  refine wpAny_all (rs := [6]) (by kernel_rfl) (by simp) ?_
  intro k hk
  simp only [List.mem_cons, List.mem_nil_iff, or_false] at hk
  subst hk
  refine wpOp_run rfl rfl (wp_app_run _ _ 37 rfl _ _ _ rfl rfl hap2 ?_)
  simp only [List.getElem_toArray, List.getElem_cons_succ, List.getElem_cons_zero, Act.put, List.setIfInBounds_toArray, List.set_cons_succ, List.set_cons_zero]
  refine wpAny_take (i := 7) (v := (.slice (some ⟨g, 0, none⟩) k cap)) rfl (by kernel_rfl) (by kernel_rfl) (by kernel_rfl) (fun _ _ _ h => h) (.inl ⟨rfl, fun _ => rfl⟩) ?_
  simp only [List.getElem_toArray, List.getElem_cons_succ, List.getElem_cons_zero, Act.put, List.setIfInBounds_toArray, List.set_cons_succ, List.set_cons_zero]
  refine wpAny_done (by kernel_rfl) ?_ _
  go_wp2
  go_ret
  exact ⟨rfl, HX2.out⟩
end Go.Proofs.Ytfddoindcmdooaa
namespace Go.Proofs.Ytfddoindcmdooaa
open Go.RowKit Go.Proofs.Bits
set_option linter.unusedVariables false
set_option maxRecDepth 1000000
set_option linter.unusedSimpArgs false

theorem own_grown_other {w w' : World} {B : Nat} {e : TypeId} {c n : Nat} {v : Value} {xs : List Value} {q : Nat} (h : w.ownsRow B e c v n xs) (hg : w.grownBy w' (some q)) (hr : v.ownBlock ≠ some q) : w'.ownsRow B e c v n xs := by
  obtain ⟨hl, h⟩ := h
  refine ⟨hl, ?_⟩
  rcases h with h | ⟨g, cap, cur, rfl, hB, hcur, rest⟩
  · exact .inl h
  · exact .inr ⟨g, cap, cur, rfl, hB, (hg.block g (Array.getElem?_eq_some_iff.1 hcur).1 (fun e => hr e)).trans hcur, rest⟩
theorem DvW.other {x y : World} {D q : Nat} {s : Dv} {vm vc : Value} (h : DvW D s vm vc x) (hg : x.grownBy y (some q)) (hD : D < q) (hm : vm.ownBlock ≠ some q) (hc : vc.ownBlock ≠ some q) : DvW D s vm vc y := by
  have hlt := h.lt
  obtain ⟨⟨g, h1, h2⟩, h3, h4, h5, h6, h7, h8, h9, h10⟩ := h
  refine ⟨⟨g, (hg.block D hlt (by simp; omega)).trans h1, h2.below ⟨hg.os, hg.tape, hg.output, hg.size, fun k hk => hg.block k (by omega) (by simp; omega)⟩⟩, own_grown_other h3 hg hm, own_grown_other h4 hg hc, h5, h6, h7, h8, h9, h10⟩
theorem Kz.other {D q : Nat} {a b : Value} {w x y : World} (h : Kz D a b w x) (hg : x.grownBy y (some q)) (hq : w.heap.size ≤ q) : Kz D a b w y :=
  ⟨hg.os.trans h.os, hg.tape.trans h.tape, hg.output.trans h.output, Nat.le_trans h.size hg.size,
   fun k hk hs => (hg.block k (Nat.lt_of_lt_of_le hs h.size) (by simp; omega)).trans (h.low k hk hs),
   fun k A T fr ht hd hv hc => by
     have lk := (Array.getElem?_eq_some_iff.1 hc).1
     exact (hg.block k (Nat.lt_of_lt_of_le lk h.size) (by simp; omega)).trans (h.typ k A T fr ht hd hv hc), h.news⟩
/-- Fetch, as a function. -/
def fetchS (s : Dv) : Dv × Fr × Bool := if 0 < s.cs.length then ({ s with cs := s.cs.tail }, s.cs.headD Fr.nul, true) else (s, Fr.nul, false)
set_option maxHeartbeats 2000000 in
theorem Fetch_none {w : World} {D : Nat} {v vf : Value} {ac : Option Addr} {cc : Nat} {bx tk rm lo : Int} (hA : Dr D (dA bx v tk rm (.slice ac 0 cc) lo vf) w) :
    Calls Try.prog 20 #[.pointer (some ⟨D, 0, none⟩)] w fun e w' => e = .returned (.tuple #[.agg Fr.nul.arr, .bool false]) ∧ Below w.heap.size w w' := by
  obtain ⟨wa, hwa⟩ : ∃ wa, w.alloc (.cells Fr.nul.arr 45) = wa := ⟨_, rfl⟩
  have ba : Below w.heap.size w wa := by rw [← hwa]; exact (Below.refl _ _).alloc (Nat.le_refl _) _
  have fa : Fa w.heap.size Fr.nul wa := by rw [← hwa]; exact Fa.new w Fr.nul
  have A2 : Dr D _ wa := (ba.block D (Array.getElem?_eq_some_iff.1 hA).1).trans hA
  have c4 := A2.cell (k := 4) (v := .slice ac 0 cc) rfl
  have fb := fa.row Fr.nul
  obtain ⟨q, hq⟩ : ∃ q, w.heap.size = q := ⟨_, rfl⟩
  rw [hq] at fa fb
  have hld := load_fa _ q _ fb
  have HB : Hid (Below w.heap.size w (wa.setRow q Fr.nul.arr)) := by
    show Below _ _ _
    exact below_row ba (q := q) (by omega) (by have := (Array.getElem?_eq_some_iff.1 fa).1; omega) _
  have hwa2 : w.alloc (.cells #[.int .u32 0, .bool false, .bool false, .int .i64 0, .int .u8 0, .int .u8 0, .int .u8 0, .int .u8 0, .int .u8 0, .int .u8 0, .int .u8 0, .int .u8 0] 45) = wa := hwa
  clear hwa hA A2 ba fb
  go_enter Try.func20, Try.ntmps20
  go_wp2_with (first | refine fa.sd Fr.nul rfl _ _ rfl rfl rfl ?_)
  exact bodyPost_ret (v := .tuple #[.agg Fr.nul.arr, .bool false]) (by simp [results, Try.results20, asAddr, hld]) rfl ⟨rfl, HB.out⟩
theorem load_fr0 {w : World} {B g cap n : Nat} {cs : List Fr} (h : Qu w B (.slice (some ⟨g, 0, none⟩) n cap) cs) (h0 : 0 < cs.length) : w.rangeAt g 0 cs[0].cells := by
  obtain ⟨ao, cap', hv, _, hc⟩ := wide_of_own DF h
  obtain ⟨b, off, hao, hb, hR⟩ := hc 0 h0
  injection hv with e1
  rw [hao] at e1
  injection e1 with e2
  injection e2 with e3 e4
  subst e3 e4
  simp at hR
  exact hR
set_option maxHeartbeats 4000000 in
theorem Fetch_some {w : World} {D : Nat} {s : Dv} {vm vc : Value} (h : DvW D s vm vc w) (h0 : 0 < s.cs.length) :
    Calls Try.prog 20 #[.pointer (some ⟨D, 0, none⟩)] w fun e w' => e = .returned (.tuple #[.agg s.cs[0].arr, .bool true]) ∧ ∃ vc', DvW D { s with cs := s.cs.tail } vm vc' w' ∧ Kz D vc vc' w w' := by
  have hlt := h.lt
  have hh := h
  obtain ⟨⟨gf, h1, h2⟩, h3, h4, h5, h6, h7, h8, h9, h10⟩ := h
  have hq4 := h4
  rcases h4.2 with ⟨_, hz⟩ | ⟨g, cap, cur, rfl, hB, hcur, hcap, _⟩
  · omega
  have lg : g < w.heap.size := (Array.getElem?_eq_some_iff.1 hcur).1
  obtain ⟨wa, hwa⟩ : ∃ wa, w.alloc (.cells Fr.nul.arr 45) = wa := ⟨_, rfl⟩
  have ba : Below w.heap.size w wa := by rw [← hwa]; exact (Below.refl _ _).alloc (Nat.le_refl _) _
  have sa : wa.heap.size = w.heap.size + 1 := by rw [← hwa, size_alloc]
  have fa : Fa w.heap.size Fr.nul wa := by rw [← hwa]; exact Fa.new w Fr.nul
  obtain ⟨wb, hwb⟩ : ∃ wb, wa.alloc (.cells Fr.nul.arr 45) = wb := ⟨_, rfl⟩
  have bb : Below w.heap.size w wb := by rw [← hwb]; exact ba.alloc (by omega) _
  have fb : Fa wa.heap.size Fr.nul wb := by rw [← hwb]; exact Fa.new wa Fr.nul
  have fab : Fa w.heap.size Fr.nul wb := by rw [← hwb]; exact fa.alloc _
  obtain ⟨q, hq⟩ : ∃ q, w.heap.size = q := ⟨_, rfl⟩
  obtain ⟨q1, hq1⟩ : ∃ q1, wa.heap.size = q1 := ⟨_, rfl⟩
  rw [hq1] at fb
  rw [hq] at fa fab
  have hqq : q1 = q + 1 := by omega
  obtain ⟨f, hf⟩ : ∃ f, s.cs[0] = f := ⟨_, rfl⟩
  obtain ⟨wc, hwc⟩ : ∃ wc, wb.setRow q1 f.arr = wc := ⟨_, rfl⟩
  have bc : Below w.heap.size w wc := by rw [← hwc]; exact below_row bb (by omega) (by have := fb.lt; omega) _
  have fc : Fa q1 f wc := by rw [← hwc]; exact fb.row f
  have fac : Fa q Fr.nul wc := by rw [← hwc]; exact (setRow_other wb q1 q _ (by omega)).trans fab
  have Aa : Dr D _ wa := (ba.block D hlt).trans h1
  have Ac : Dr D _ wc := (bc.block D hlt).trans h1
  have ca := Aa.cell (k := 4) (v := .slice (some ⟨g, 0, none⟩) s.cs.length cap) rfl
  have cc := Ac.cell (k := 4) (v := .slice (some ⟨g, 0, none⟩) s.cs.length cap) rfl
  have R0 : wa.rangeAt g 0 f.cells := by
    rw [← hf]
    have := load_fr0 (own_below5 h4 ba) h0
    exact this
  have hDl := Delete_any (own_below5 h4 bc) rfl h0 (by omega)
  have hne : ((s.cs.length : Int) == 0) = false := by rw [beq_eq_false_iff_ne]; omega
  have hle : (0 : Int) < (s.cs.length : Int) := by omega
  have HQ : Hid (∀ w1, wc.grownBy w1 (some g) → Qu w1 D (.slice (some ⟨g, 0, none⟩) (s.cs.length - 1) cap) s.cs.tail → (w1.cell? ⟨D, 4, none⟩ = some (.slice (some ⟨g, 0, none⟩) s.cs.length cap) ∧ w1.frozen? ⟨D, 4, none⟩ = false ∧ Fa q1 f (w1.setCell ⟨D, 4, none⟩ (.slice (some ⟨g, 0, none⟩) (s.cs.length - 1) cap)) ∧ Fa q Fr.nul (w1.setCell ⟨D, 4, none⟩ (.slice (some ⟨g, 0, none⟩) (s.cs.length - 1) cap))) ∧ DvW D { s with cs := s.cs.tail } vm (.slice (some ⟨g, 0, none⟩) (s.cs.length - 1) cap) ((w1.setCell ⟨D, 4, none⟩ (.slice (some ⟨g, 0, none⟩) (s.cs.length - 1) cap)).setRow q f.arr) ∧ Kz D (.slice (some ⟨g, 0, none⟩) s.cs.length cap) (.slice (some ⟨g, 0, none⟩) (s.cs.length - 1) cap) w ((w1.setCell ⟨D, 4, none⟩ (.slice (some ⟨g, 0, none⟩) (s.cs.length - 1) cap)).setRow q f.arr)) := by
    intro w1 hg hq'
    have hgD : D ≠ g := by
      have := hh.quNe
      intro e; apply this; rw [e]; rfl
    have A1 : Dr D _ w1 := (hg.block D (by have := bc.size; omega) (fun e => hgD (Option.some.inj e))).trans Ac
    obtain ⟨d1, k1⟩ := hh.queue bc hg s.cs.tail hq' (by rw [List.length_tail]; omega) (fun k _ e => e)
    have hqm : vm.ownBlock ≠ some q := fun e => by
      obtain ⟨_, cur', hc'⟩ := own_of h3 e
      have := (Array.getElem?_eq_some_iff.1 hc').1
      omega
    have hr := setRow_kept (w1.setCell ⟨D, 4, none⟩ (.slice (some ⟨g, 0, none⟩) (s.cs.length - 1) cap)) q f.arr
    have e1 : Fa q1 f w1 := (hg.block q1 fc.lt (by simp; omega)).trans fc
    have e2 : Fa q Fr.nul w1 := (hg.block q fac.lt (by simp; omega)).trans fac
    refine ⟨⟨A1.cell (k := 4) rfl, A1.free 4, e1.other (p := ⟨D, 4, none⟩) (by show q1 ≠ D; omega) _, e2.other (p := ⟨D, 4, none⟩) (by show q ≠ D; omega) _⟩, d1.other hr (by omega) hqm (by simp [Value.ownBlock]; omega), k1.other hr (by omega)⟩
  have hwa2 : w.alloc (.cells #[.int .u32 0, .bool false, .bool false, .int .i64 0, .int .u8 0, .int .u8 0, .int .u8 0, .int .u8 0, .int .u8 0, .int .u8 0, .int .u8 0, .int .u8 0] 45) = wa := hwa
  have hwb2 : wa.alloc (.cells #[.int .u32 0, .bool false, .bool false, .int .i64 0, .int .u8 0, .int .u8 0, .int .u8 0, .int .u8 0, .int .u8 0, .int .u8 0, .int .u8 0, .int .u8 0] 45) = wb := hwb
  rw [hf]
  clear hwa hwb ba bb bc fab fc fac Aa Ac h1 h2 h3 h4 hq4 hcur hh hcap hf sa fa hqq
  generalize s.cs.length = n at *
  go_enter Try.func20, Try.ntmps20
  go_wp2_with (first | refine fld_ld5 R0 rfl _ rfl rfl ?_ | refine fb.sd f rfl _ _ rfl rfl rfl ?_)
  refine hDl.mono ?_
  rintro e w1 ⟨rfl, Q1, g1⟩
  obtain ⟨⟨x1, x2, x3, x4⟩, x5⟩ := HQ.out w1 g1 Q1
  have HX : Hid _ := x5
  have x6 := x4.row f
  have hld := load_fa _ q _ x6
  clear x5 HQ hDl Q1 g1
  go_wp2_with (first | refine x3.ld rfl _ rfl rfl ?_ | refine x4.sd f rfl _ _ rfl rfl rfl ?_)
  exact bodyPost_ret (v := .tuple #[.agg f.arr, .bool true]) (by simp [results, Try.results20, asAddr, hld]) rfl ⟨rfl, _, HX.out⟩
theorem Fetch_dv {w : World} {D : Nat} {s : Dv} {vm vc : Value} (h : DvW D s vm vc w) :
    Calls Try.prog 20 #[.pointer (some ⟨D, 0, none⟩)] w fun e w' => e = .returned (.tuple #[.agg (fetchS s).2.1.arr, .bool (fetchS s).2.2]) ∧ ∃ vc', DvW D (fetchS s).1 vm vc' w' ∧ Kz D vc vc' w w' := by
  unfold fetchS
  by_cases h0 : 0 < s.cs.length
  · rw [if_pos h0]
    refine (Fetch_some h h0).mono ?_
    rintro e w' ⟨rfl, r⟩
    refine ⟨?_, r⟩
    have : ∀ (l : List Fr) (h : 0 < l.length), l.headD Fr.nul = l[0] := by
      intro l h
      cases l with
      | nil => simp at h
      | cons a b => simp
    rw [this _ h0]
  · rw [if_neg h0]
    have hh := h
    have hq := h.qu
    obtain ⟨⟨g, h1, _⟩, _⟩ := h
    obtain ⟨ac, cc, rfl⟩ := own_shape5 hq
    have e0 : s.cs.length = 0 := by omega
    rw [e0] at h1
    refine (Fetch_none h1).mono ?_
    rintro e w' ⟨rfl, b⟩
    refine ⟨rfl, _, hh.below b, Kz.below b⟩
end Go.Proofs.Ytfddoindcmdooaa
