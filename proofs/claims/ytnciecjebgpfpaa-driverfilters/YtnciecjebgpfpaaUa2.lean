/- The law DriverFilters returns true for every slice of filters and every frame, and leaves them as they were. -/
import Derived.Test.YtnciecjebgpfpaaUa1
import Derived.Test.YtnciecjebgpfpaaOpenF
namespace Go.Proofs.Ytnciecjebgpfpaa
open Go.RowKit Go.Proofs.Bits
set_option linter.unusedVariables false
set_option maxRecDepth 1000000
set_option linter.unusedSimpArgs false

theorem load_frs (x : World) (D k : Nat) (ao : Option Addr) (l c : Nat) (hc : x.cell? ⟨D, k, none⟩ = some (.slice ao l c)) : (loadVar 37 ⟨D, k, none⟩).run Try.prog x = .ok (.slice ao l c) x := by
  simp [go_sem, run_underlying Try.underlying37, hc]
theorem store_frs (x : World) (D k : Nat) (u : Value) (ao : Option Addr) (l c : Nat) (hc : x.cell? ⟨D, k, none⟩ = some u) (hf : x.frozen? ⟨D, k, none⟩ = false) : (storeVar 37 ⟨D, k, none⟩ (.slice ao l c)).run Try.prog x = .ok () (x.setCell ⟨D, k, none⟩ (.slice ao l c)) := by
  simp [go_sem, run_underlying Try.underlying37, hc, hf]
theorem fill_fr (g : Fr) : Instr.fill (fun i => some (i * 12, 12)) ((Array.range (1 * 12)).map ((Value.agg Fr.nul.arr).cells[· % (Value.agg Fr.nul.arr).cells.size]!)) [(0, .agg g.arr)] = some g.arr := by
  have hsz : (Value.agg g.arr).cells.size = 12 := by simp [Value.cells, g.arr_size]
  have := Go.Great.fill_whole (by decide : 0 < 12) [Value.agg g.arr] ((Array.range (1 * 12)).map ((Value.agg Fr.nul.arr).cells[· % (Value.agg Fr.nul.arr).cells.size]!)) (by intro v hv; simp at hv; subst hv; exact hsz) (by simp)
  simpa [Value.cells] using this
theorem news_fr (x : World) (g : Fr) : ∀ j u, g.cells[j]? = some u → (x.alloc (.cells g.arr 45)).cell? ((⟨x.heap.size, 0, none⟩ : Addr).add j) = some u := fun j u hj => by
  rw [Addr.add_mid, Nat.zero_add, Lib.cell_of_heap (heap_alloc_new x _)]
  simpa [Fr.arr] using hj
theorem own_typ {w : World} {B : Nat} {e : TypeId} {c : Nat} {v : Value} {n : Nat} {xs : List Value} (h : w.ownsRow B e c v n xs) {D : Nat} {A : Array Value} (hA : Dr D A w) (he : e ≠ 68) : v.ownBlock ≠ some D := fun hg => by
  rcases h.2 with ⟨rfl, _⟩ | ⟨g', cap, cur, rfl, hB, hcur, _⟩
  · cases hg
  · cases hg
    unfold Dr at hA
    rw [hcur] at hA
    simp at hA
    exact he hA.2
set_option maxHeartbeats 4000000 in
theorem Take_ok {w : World} {B D : Nat} {v vc : Value} {ao : Option Addr} {cap : Nat} {cs : List Fr} {bx tk rm lo : Int} (f : Fr) (hA : Dr D (dA bx v tk rm vc lo (.slice ao 0 cap)) w) (h : w.ownsRow B 45 12 vc cs.length (flatW DF cs)) (hB : B ≤ w.heap.size) (hf : f.chk = 0) (hcs : (cs.length : Int) < rm) (hrm : rm ≤ 64) :
    Calls Try.prog 18 #[.pointer (some ⟨D, 0, none⟩), f.val] w fun e w' => e = .returned (.int .i64 0) ∧ ∃ x vc' w1, Below w.heap.size w x ∧ x.grownBy w1 vc.ownBlock ∧ w1.ownsRow B 45 12 vc' (cs ++ [f.plain]).length (flatW DF (cs ++ [f.plain])) ∧ w' = w1.setCell ⟨D, 4, none⟩ vc' := by
  obtain ⟨wa, hwa⟩ : ∃ wa, w.alloc (.cells f.arr 45) = wa := ⟨_, rfl⟩
  have ba : Below w.heap.size w wa := by rw [← hwa]; exact (Below.refl _ _).alloc (Nat.le_refl _) _
  have fa : Fa w.heap.size f wa := by rw [← hwa]; exact Fa.new w f
  have hC := fCheck_any f wa
  rw [hf] at hC
  have HPs : Hid (∀ x, Below w.heap.size w x → Calls Try.prog 19 #[.pointer (some ⟨D, 0, none⟩), .agg f.arr] x fun e w' => e = .returned (.bool true) ∧ Below x.heap.size x w') := fun x hx => by
    have := Passes_nil f (show Dr D (dA bx v tk rm vc lo (.slice ao 0 cap)) x from (hx.block D (Array.getElem?_eq_some_iff.1 hA).1).trans hA)
    rw [hf] at this
    exact this
  obtain ⟨q, hq⟩ : ∃ q, w.heap.size = q := ⟨_, rfl⟩
  have lD : D < q := by rw [← hq]; exact (Array.getElem?_eq_some_iff.1 hA).1
  have sa : w.heap.size ≤ wa.heap.size := ba.size
  rw [hq] at fa
  obtain ⟨ac, cc, rfl⟩ := own_shape5 h
  unfold Fr.val at *
  go_enter Try.func18, Try.ntmps18
  go_upto_region 1 with fail
  go_wp2_with (refine fa.ld rfl _ rfl rfl ?_)
  refine hC.mono ?_
  rintro e w2 ⟨rfl, b2⟩
  have B2 : Below w.heap.size w w2 := ba.trans (b2.mono sa)
  have f2 := fa.below5 b2
  have hPs := HPs.out w2 B2
  clear hC fa HPs
  go_upto_region 4 with fail
  go_wp2_with (refine f2.ld rfl _ rfl rfl ?_)
  refine hPs.mono ?_
  rintro e w3 ⟨rfl, b3⟩
  have B3 : Below w.heap.size w w3 := B2.trans (b3.mono B2.size)
  have f3 := f2.below5 b3
  have A3 : Dr D (dA bx v tk rm (.slice ac cs.length cc) lo (.slice ao 0 cap)) w3 := (B3.block D (by omega)).trans hA
  have c3 := A3.cell (k := 3) (v := .int .i64 rm) rfl
  have c4 := A3.cell (k := 4) (v := .slice ac cs.length cc) rfl
  have hne : ((cs.length : Int) == rm) = false := by rw [beq_eq_false_iff_ne]; omega
  clear hPs f2 b2
  go_wp2_with fail
  go_quiet (fail)
  go_upto_region 9 with fail
  have B4 : Below w.heap.size w (w3.drewN nq) := below_drawn B3 nq
  have f4 : Fa q f (w3.drewN nq) := f3
  generalize w3.drewN nq = wb at *
  refine wp_region_any (by kernel_rfl) ?_
  obtain ⟨w4, hw4⟩ : ∃ x : World, { wb with drawn := wb.drawn + 1 } = x := ⟨_, rfl⟩
  rw [hw4]
  have b4 : Below wb.heap.size wb w4 := by rw [← hw4]; exact below_drawn (Below.refl _ _) 1
  have HW : Hid (∀ x, Below w4.heap.size w4 x → Dr D (dA bx v tk rm (.slice ac cs.length cc) lo (.slice ao 0 cap)) x ∧ x.ownsRow B 45 12 (.slice ac cs.length cc) cs.length (flatW DF cs) ∧ Fa q f x ∧ Below w.heap.size w x) := fun x hx => by
    have b5 : Below wb.heap.size wb x := b4.trans (hx.mono b4.size)
    have B5 : Below w.heap.size w x := B4.trans (b5.mono B4.size)
    exact ⟨(B5.block D (by omega)).trans hA, own_below5 h B5, f4.below5 b5, B5⟩
  have HF : Hid (∀ x, Below w4.heap.size w4 x → ∀ v' w1, w1.ownsRow B 45 12 v' (cs.length + 1) (flatW DF cs ++ f.plain.cells) → x.grownBy w1 (Value.slice ac cs.length cc).ownBlock → w1.cell? ⟨D, 4, none⟩ = some (.slice ac cs.length cc) ∧ w1.frozen? ⟨D, 4, none⟩ = false ∧ Below w.heap.size w x ∧ x.grownBy w1 (Value.slice ac cs.length cc).ownBlock ∧ w1.ownsRow B 45 12 v' (cs ++ [f.plain]).length (flatW DF (cs ++ [f.plain]))) := fun x hx v' w1 o1 g1 => by
    obtain ⟨a1, a2, a3, a4⟩ := HW.out x hx
    have A1 : Dr D _ w1 := (g1.block D (Array.getElem?_eq_some_iff.1 a1).1 (fun e => (own_typ a2 a1 (by decide)) e.symm)).trans a1
    refine ⟨A1.cell rfl, A1.free 4, a4, g1, ?_⟩
    rw [List.length_append, flatW_append]
    simpa [flatW, DF] using o1
  have HPl : Hid (∀ x, Calls Try.prog 31 #[.agg f.arr] x fun e w' => e = .returned (.agg f.plain.arr) ∧ Below x.heap.size x w') := fun x => fPlain_any f x
  obtain ⟨i0, hi0, hz0, hz1, hz2⟩ := info_parts infoFZ
  clear A3 B3 f3 b3 c3 c4 ba f4 B4 B2
  refine wpAny_take (i := 0) (v := (.pointer (some ⟨D, 0, none⟩))) rfl (by kernel_rfl) (by kernel_rfl) (by kernel_rfl) (fun _ _ _ h => h) (.inl ⟨rfl, fun _ => rfl⟩) ?_
  simp only [List.getElem_toArray, List.getElem_cons_succ, List.getElem_cons_zero, Act.put, List.setIfInBounds_toArray, List.set_cons_succ, List.set_cons_zero]
  refine wpAny_take (i := 1) (v := (.pointer (some ⟨D, 0, none⟩))) rfl (by kernel_rfl) (by kernel_rfl) (by kernel_rfl) (fun _ _ _ h => h) (.inl ⟨rfl, fun _ => rfl⟩) ?_
  simp only [List.getElem_toArray, List.getElem_cons_succ, List.getElem_cons_zero, Act.put, List.setIfInBounds_toArray, List.set_cons_succ, List.set_cons_zero]
  refine wpAny_take (i := 2) (v := (.pointer (some ⟨D, 0, none⟩))) rfl (by kernel_rfl) (by kernel_rfl) (by kernel_rfl) (fun _ _ _ h => h) (.inl ⟨rfl, fun _ => by simp [execOp, go_sem, Act.eval]⟩) ?_
  simp only [List.getElem_toArray, List.getElem_cons_succ, List.getElem_cons_zero, Act.put, List.setIfInBounds_toArray, List.set_cons_succ, List.set_cons_zero]
  refine wpAny_take (i := 3) (v := (.pointer (some ⟨D, 4, none⟩))) rfl (by kernel_rfl) (by kernel_rfl) (by kernel_rfl) (fun _ _ _ h => h) (.inl ⟨rfl, fun _ => by simp [execOp, go_sem, Act.eval]⟩) ?_
  simp only [List.getElem_toArray, List.getElem_cons_succ, List.getElem_cons_zero, Act.put, List.setIfInBounds_toArray, List.set_cons_succ, List.set_cons_zero]
  refine wpAny_all (rs := [4, 5]) (by kernel_rfl) (by simp) ?_
  intro k hk
  simp only [List.mem_cons, List.mem_nil_iff, or_false] at hk
  rcases hk with rfl | rfl
  · refine wpOp_run rfl rfl (wp_load_cell 37 _ rfl D 4 rfl (.slice ac cs.length cc) (load_frs w4 D 4 ac _ _ ((HW.out w4 (Below.refl _ _)).1.cell rfl)) ?_)
    simp only [List.getElem_toArray, List.getElem_cons_succ, List.getElem_cons_zero, Act.put, List.setIfInBounds_toArray, List.set_cons_succ, List.set_cons_zero]
    refine wpAny_all (rs := [5]) (by kernel_rfl) (by simp) ?_
    intro k hk
    simp only [List.mem_cons, List.mem_nil_iff, or_false] at hk
    subst hk
    refine wpOp_run rfl rfl (wp_load_mid 45 _ rfl q 0 rfl f.cells _ (HW.out w4 (Below.refl _ _)).2.2.1.range5 Try.underlying45 rfl (by rw [infoF]; simp [Fr.cells, f.hdata]) ?_)
    simp only [List.getElem_toArray, List.getElem_cons_succ, List.getElem_cons_zero, Act.put, List.setIfInBounds_toArray, List.set_cons_succ, List.set_cons_zero]
    refine wpAny_all (rs := [6]) (by kernel_rfl) (by simp) ?_
    intro k hk
    simp only [List.mem_cons, List.mem_nil_iff, or_false] at hk
    subst hk
    refine wpOp_run rfl rfl (wp_call_fn 31 #[.agg f.arr] (by simp [execOp, go_sem, Act.eval, resolve, invoke, enterP]; rfl) ((HPl.out w4).mono ?_))
    rintro e x5 ⟨rfl, b5⟩
    simp only [List.getElem_toArray, List.getElem_cons_succ, List.getElem_cons_zero, Act.put, List.setIfInBounds_toArray, List.set_cons_succ, List.set_cons_zero]
    refine wpAny_all (rs := [7]) (by kernel_rfl) (by simp) ?_
    intro k hk
    simp only [List.mem_cons, List.mem_nil_iff, or_false] at hk
    subst hk
    refine wpOp_run rfl rfl (wp_buildSlice 37 45 1 _ rfl f.plain.arr i0 _ Try.underlying37 hi0 hz0 (by rw [hz1]; omega) (by rw [hz1]; omega) (by rw [hz1]; simp only [List.map_toArray, List.map_cons, List.map_nil]; exact fill_fr f.plain) ?_)
    simp only [List.getElem_toArray, List.getElem_cons_succ, List.getElem_cons_zero, Act.put, List.setIfInBounds_toArray, List.set_cons_succ, List.set_cons_zero]
    refine wpAny_all (rs := [8]) (by kernel_rfl) (by simp) ?_
    intro k hk
    simp only [List.mem_cons, List.mem_nil_iff, or_false] at hk
    subst hk
    refine wpOp_run rfl rfl (wp_append_own _ _ _ 37 rfl B 45 i0 _ 12 24 Try.underlying37 hi0 hz0 hz1 hz2 rfl (by omega) _ cs.length (flatW DF cs) rfl (HW.out (x5.alloc (.cells f.plain.arr 45)) (b5.trans (((Below.refl _ x5).alloc (Nat.le_refl _) (.cells f.plain.arr 45)).mono b5.size))).2.1 ⟨x5.heap.size, 0, none⟩ 1 1 f.plain.cells rfl (by simp [Fr.cells, f.plain.hdata]) (news_fr x5 f.plain) (DF.one f.plain) (by unfold maxLen; omega) (by omega) (Nat.le_trans hB (HW.out (x5.alloc (.cells f.plain.arr 45)) (b5.trans (((Below.refl _ x5).alloc (Nat.le_refl _) (.cells f.plain.arr 45)).mono b5.size))).2.2.2.size) ?_)
    intro v' w1 o1 g1 _
    simp only [List.getElem_toArray, List.getElem_cons_succ, List.getElem_cons_zero, Act.put, List.setIfInBounds_toArray, List.set_cons_succ, List.set_cons_zero]
    have HX := HF.out (x5.alloc (.cells f.plain.arr 45)) (b5.trans (((Below.refl _ x5).alloc (Nat.le_refl _) (.cells f.plain.arr 45)).mono b5.size)) v' w1 o1 g1
    obtain ⟨ao', cap', rfl⟩ := own_shape5 o1
    refine wpAny_take (i := 9) (v := (.pointer (some ⟨D, 0, none⟩))) rfl (by kernel_rfl) (by kernel_rfl) (by kernel_rfl) (fun _ _ _ h => h) (.inl ⟨rfl, fun _ => by simp [execOp, go_sem, Act.eval]⟩) ?_
    simp only [List.getElem_toArray, List.getElem_cons_succ, List.getElem_cons_zero, Act.put, List.setIfInBounds_toArray, List.set_cons_succ, List.set_cons_zero]
    refine wpAny_take (i := 10) (v := (.pointer (some ⟨D, 4, none⟩))) rfl (by kernel_rfl) (by kernel_rfl) (by kernel_rfl) (fun _ _ _ h => h) (.inl ⟨rfl, fun _ => by simp [execOp, go_sem, Act.eval]⟩) ?_
    simp only [List.getElem_toArray, List.getElem_cons_succ, List.getElem_cons_zero, Act.put, List.setIfInBounds_toArray, List.set_cons_succ, List.set_cons_zero]
    refine wpAny_all (rs := [11]) (by kernel_rfl) (by simp) ?_
    intro k hk
    simp only [List.mem_cons, List.mem_nil_iff, or_false] at hk
    subst hk
    refine wpOp_run rfl rfl (wp_store_cell 37 _ _ rfl D 4 rfl _ rfl (store_frs w1 D 4 _ ao' _ cap' HX.1 HX.2.1) ?_)
    simp only [List.getElem_toArray, List.getElem_cons_succ, List.getElem_cons_zero, Act.put, List.setIfInBounds_toArray, List.set_cons_succ, List.set_cons_zero]
    refine wpAny_done (by kernel_rfl) ?_ _
    have HZ : Hid _ := HX.2.2
    clear HX o1 g1 HF HPl HW
    go_wp2
    go_ret
    exact ⟨rfl, _, _, w1, HZ.out.1, HZ.out.2.1, HZ.out.2.2, rfl⟩
  · refine wpOp_run rfl rfl (wp_load_mid 45 _ rfl q 0 rfl f.cells _ (HW.out w4 (Below.refl _ _)).2.2.1.range5 Try.underlying45 rfl (by rw [infoF]; simp [Fr.cells, f.hdata]) ?_)
    simp only [List.getElem_toArray, List.getElem_cons_succ, List.getElem_cons_zero, Act.put, List.setIfInBounds_toArray, List.set_cons_succ, List.set_cons_zero]
    refine wpAny_all (rs := [4, 6]) (by kernel_rfl) (by simp) ?_
    intro k hk
    simp only [List.mem_cons, List.mem_nil_iff, or_false] at hk
    rcases hk with rfl | rfl
    · refine wpOp_run rfl rfl (wp_load_cell 37 _ rfl D 4 rfl (.slice ac cs.length cc) (load_frs w4 D 4 ac _ _ ((HW.out w4 (Below.refl _ _)).1.cell rfl)) ?_)
      simp only [List.getElem_toArray, List.getElem_cons_succ, List.getElem_cons_zero, Act.put, List.setIfInBounds_toArray, List.set_cons_succ, List.set_cons_zero]
      refine wpAny_all (rs := [6]) (by kernel_rfl) (by simp) ?_
      intro k hk
      simp only [List.mem_cons, List.mem_nil_iff, or_false] at hk
      subst hk
      refine wpOp_run rfl rfl (wp_call_fn 31 #[.agg f.arr] (by simp [execOp, go_sem, Act.eval, resolve, invoke, enterP]; rfl) ((HPl.out w4).mono ?_))
      rintro e x5 ⟨rfl, b5⟩
      simp only [List.getElem_toArray, List.getElem_cons_succ, List.getElem_cons_zero, Act.put, List.setIfInBounds_toArray, List.set_cons_succ, List.set_cons_zero]
      refine wpAny_all (rs := [7]) (by kernel_rfl) (by simp) ?_
      intro k hk
      simp only [List.mem_cons, List.mem_nil_iff, or_false] at hk
      subst hk
      refine wpOp_run rfl rfl (wp_buildSlice 37 45 1 _ rfl f.plain.arr i0 _ Try.underlying37 hi0 hz0 (by rw [hz1]; omega) (by rw [hz1]; omega) (by rw [hz1]; simp only [List.map_toArray, List.map_cons, List.map_nil]; exact fill_fr f.plain) ?_)
      simp only [List.getElem_toArray, List.getElem_cons_succ, List.getElem_cons_zero, Act.put, List.setIfInBounds_toArray, List.set_cons_succ, List.set_cons_zero]
      refine wpAny_all (rs := [8]) (by kernel_rfl) (by simp) ?_
      intro k hk
      simp only [List.mem_cons, List.mem_nil_iff, or_false] at hk
      subst hk
      refine wpOp_run rfl rfl (wp_append_own _ _ _ 37 rfl B 45 i0 _ 12 24 Try.underlying37 hi0 hz0 hz1 hz2 rfl (by omega) _ cs.length (flatW DF cs) rfl (HW.out (x5.alloc (.cells f.plain.arr 45)) (b5.trans (((Below.refl _ x5).alloc (Nat.le_refl _) (.cells f.plain.arr 45)).mono b5.size))).2.1 ⟨x5.heap.size, 0, none⟩ 1 1 f.plain.cells rfl (by simp [Fr.cells, f.plain.hdata]) (news_fr x5 f.plain) (DF.one f.plain) (by unfold maxLen; omega) (by omega) (Nat.le_trans hB (HW.out (x5.alloc (.cells f.plain.arr 45)) (b5.trans (((Below.refl _ x5).alloc (Nat.le_refl _) (.cells f.plain.arr 45)).mono b5.size))).2.2.2.size) ?_)
      intro v' w1 o1 g1 _
      simp only [List.getElem_toArray, List.getElem_cons_succ, List.getElem_cons_zero, Act.put, List.setIfInBounds_toArray, List.set_cons_succ, List.set_cons_zero]
      have HX := HF.out (x5.alloc (.cells f.plain.arr 45)) (b5.trans (((Below.refl _ x5).alloc (Nat.le_refl _) (.cells f.plain.arr 45)).mono b5.size)) v' w1 o1 g1
      obtain ⟨ao', cap', rfl⟩ := own_shape5 o1
      refine wpAny_take (i := 9) (v := (.pointer (some ⟨D, 0, none⟩))) rfl (by kernel_rfl) (by kernel_rfl) (by kernel_rfl) (fun _ _ _ h => h) (.inl ⟨rfl, fun _ => by simp [execOp, go_sem, Act.eval]⟩) ?_
      simp only [List.getElem_toArray, List.getElem_cons_succ, List.getElem_cons_zero, Act.put, List.setIfInBounds_toArray, List.set_cons_succ, List.set_cons_zero]
      refine wpAny_take (i := 10) (v := (.pointer (some ⟨D, 4, none⟩))) rfl (by kernel_rfl) (by kernel_rfl) (by kernel_rfl) (fun _ _ _ h => h) (.inl ⟨rfl, fun _ => by simp [execOp, go_sem, Act.eval]⟩) ?_
      simp only [List.getElem_toArray, List.getElem_cons_succ, List.getElem_cons_zero, Act.put, List.setIfInBounds_toArray, List.set_cons_succ, List.set_cons_zero]
      refine wpAny_all (rs := [11]) (by kernel_rfl) (by simp) ?_
      intro k hk
      simp only [List.mem_cons, List.mem_nil_iff, or_false] at hk
      subst hk
      refine wpOp_run rfl rfl (wp_store_cell 37 _ _ rfl D 4 rfl _ rfl (store_frs w1 D 4 _ ao' _ cap' HX.1 HX.2.1) ?_)
      simp only [List.getElem_toArray, List.getElem_cons_succ, List.getElem_cons_zero, Act.put, List.setIfInBounds_toArray, List.set_cons_succ, List.set_cons_zero]
      refine wpAny_done (by kernel_rfl) ?_ _
      have HZ : Hid _ := HX.2.2
      clear HX o1 g1 HF HPl HW
      go_wp2
      go_ret
      exact ⟨rfl, _, _, w1, HZ.out.1, HZ.out.2.1, HZ.out.2.2, rfl⟩
    · refine wpOp_run rfl rfl (wp_call_fn 31 #[.agg f.arr] (by simp [execOp, go_sem, Act.eval, resolve, invoke, enterP]; rfl) ((HPl.out w4).mono ?_))
      rintro e x5 ⟨rfl, b5⟩
      simp only [List.getElem_toArray, List.getElem_cons_succ, List.getElem_cons_zero, Act.put, List.setIfInBounds_toArray, List.set_cons_succ, List.set_cons_zero]
      refine wpAny_all (rs := [4, 7]) (by kernel_rfl) (by simp) ?_
      intro k hk
      simp only [List.mem_cons, List.mem_nil_iff, or_false] at hk
      rcases hk with rfl | rfl
      · refine wpOp_run rfl rfl (wp_load_cell 37 _ rfl D 4 rfl (.slice ac cs.length cc) (load_frs x5 D 4 ac _ _ ((HW.out x5 b5).1.cell rfl)) ?_)
        simp only [List.getElem_toArray, List.getElem_cons_succ, List.getElem_cons_zero, Act.put, List.setIfInBounds_toArray, List.set_cons_succ, List.set_cons_zero]
        refine wpAny_all (rs := [7]) (by kernel_rfl) (by simp) ?_
        intro k hk
        simp only [List.mem_cons, List.mem_nil_iff, or_false] at hk
        subst hk
        refine wpOp_run rfl rfl (wp_buildSlice 37 45 1 _ rfl f.plain.arr i0 _ Try.underlying37 hi0 hz0 (by rw [hz1]; omega) (by rw [hz1]; omega) (by rw [hz1]; simp only [List.map_toArray, List.map_cons, List.map_nil]; exact fill_fr f.plain) ?_)
        simp only [List.getElem_toArray, List.getElem_cons_succ, List.getElem_cons_zero, Act.put, List.setIfInBounds_toArray, List.set_cons_succ, List.set_cons_zero]
        refine wpAny_all (rs := [8]) (by kernel_rfl) (by simp) ?_
        intro k hk
        simp only [List.mem_cons, List.mem_nil_iff, or_false] at hk
        subst hk
        refine wpOp_run rfl rfl (wp_append_own _ _ _ 37 rfl B 45 i0 _ 12 24 Try.underlying37 hi0 hz0 hz1 hz2 rfl (by omega) _ cs.length (flatW DF cs) rfl (HW.out (x5.alloc (.cells f.plain.arr 45)) (b5.trans (((Below.refl _ x5).alloc (Nat.le_refl _) (.cells f.plain.arr 45)).mono b5.size))).2.1 ⟨x5.heap.size, 0, none⟩ 1 1 f.plain.cells rfl (by simp [Fr.cells, f.plain.hdata]) (news_fr x5 f.plain) (DF.one f.plain) (by unfold maxLen; omega) (by omega) (Nat.le_trans hB (HW.out (x5.alloc (.cells f.plain.arr 45)) (b5.trans (((Below.refl _ x5).alloc (Nat.le_refl _) (.cells f.plain.arr 45)).mono b5.size))).2.2.2.size) ?_)
        intro v' w1 o1 g1 _
        simp only [List.getElem_toArray, List.getElem_cons_succ, List.getElem_cons_zero, Act.put, List.setIfInBounds_toArray, List.set_cons_succ, List.set_cons_zero]
        have HX := HF.out (x5.alloc (.cells f.plain.arr 45)) (b5.trans (((Below.refl _ x5).alloc (Nat.le_refl _) (.cells f.plain.arr 45)).mono b5.size)) v' w1 o1 g1
        obtain ⟨ao', cap', rfl⟩ := own_shape5 o1
        refine wpAny_take (i := 9) (v := (.pointer (some ⟨D, 0, none⟩))) rfl (by kernel_rfl) (by kernel_rfl) (by kernel_rfl) (fun _ _ _ h => h) (.inl ⟨rfl, fun _ => by simp [execOp, go_sem, Act.eval]⟩) ?_
        simp only [List.getElem_toArray, List.getElem_cons_succ, List.getElem_cons_zero, Act.put, List.setIfInBounds_toArray, List.set_cons_succ, List.set_cons_zero]
        refine wpAny_take (i := 10) (v := (.pointer (some ⟨D, 4, none⟩))) rfl (by kernel_rfl) (by kernel_rfl) (by kernel_rfl) (fun _ _ _ h => h) (.inl ⟨rfl, fun _ => by simp [execOp, go_sem, Act.eval]⟩) ?_
        simp only [List.getElem_toArray, List.getElem_cons_succ, List.getElem_cons_zero, Act.put, List.setIfInBounds_toArray, List.set_cons_succ, List.set_cons_zero]
        refine wpAny_all (rs := [11]) (by kernel_rfl) (by simp) ?_
        intro k hk
        simp only [List.mem_cons, List.mem_nil_iff, or_false] at hk
        subst hk
        refine wpOp_run rfl rfl (wp_store_cell 37 _ _ rfl D 4 rfl _ rfl (store_frs w1 D 4 _ ao' _ cap' HX.1 HX.2.1) ?_)
        simp only [List.getElem_toArray, List.getElem_cons_succ, List.getElem_cons_zero, Act.put, List.setIfInBounds_toArray, List.set_cons_succ, List.set_cons_zero]
        refine wpAny_done (by kernel_rfl) ?_ _
        have HZ : Hid _ := HX.2.2
        clear HX o1 g1 HF HPl HW
        go_wp2
        go_ret
        exact ⟨rfl, _, _, w1, HZ.out.1, HZ.out.2.1, HZ.out.2.2, rfl⟩
      · refine wpOp_run rfl rfl (wp_buildSlice 37 45 1 _ rfl f.plain.arr i0 _ Try.underlying37 hi0 hz0 (by rw [hz1]; omega) (by rw [hz1]; omega) (by rw [hz1]; simp only [List.map_toArray, List.map_cons, List.map_nil]; exact fill_fr f.plain) ?_)
        simp only [List.getElem_toArray, List.getElem_cons_succ, List.getElem_cons_zero, Act.put, List.setIfInBounds_toArray, List.set_cons_succ, List.set_cons_zero]
        refine wpAny_all (rs := [4]) (by kernel_rfl) (by simp) ?_
        intro k hk
        simp only [List.mem_cons, List.mem_nil_iff, or_false] at hk
        subst hk
        refine wpOp_run rfl rfl (wp_load_cell 37 _ rfl D 4 rfl (.slice ac cs.length cc) (load_frs (x5.alloc (.cells f.plain.arr 45)) D 4 ac _ _ ((HW.out (x5.alloc (.cells f.plain.arr 45)) (b5.trans (((Below.refl _ x5).alloc (Nat.le_refl _) (.cells f.plain.arr 45)).mono b5.size))).1.cell rfl)) ?_)
        simp only [List.getElem_toArray, List.getElem_cons_succ, List.getElem_cons_zero, Act.put, List.setIfInBounds_toArray, List.set_cons_succ, List.set_cons_zero]
        refine wpAny_all (rs := [8]) (by kernel_rfl) (by simp) ?_
        intro k hk
        simp only [List.mem_cons, List.mem_nil_iff, or_false] at hk
        subst hk
        refine wpOp_run rfl rfl (wp_append_own _ _ _ 37 rfl B 45 i0 _ 12 24 Try.underlying37 hi0 hz0 hz1 hz2 rfl (by omega) _ cs.length (flatW DF cs) rfl (HW.out (x5.alloc (.cells f.plain.arr 45)) (b5.trans (((Below.refl _ x5).alloc (Nat.le_refl _) (.cells f.plain.arr 45)).mono b5.size))).2.1 ⟨x5.heap.size, 0, none⟩ 1 1 f.plain.cells rfl (by simp [Fr.cells, f.plain.hdata]) (news_fr x5 f.plain) (DF.one f.plain) (by unfold maxLen; omega) (by omega) (Nat.le_trans hB (HW.out (x5.alloc (.cells f.plain.arr 45)) (b5.trans (((Below.refl _ x5).alloc (Nat.le_refl _) (.cells f.plain.arr 45)).mono b5.size))).2.2.2.size) ?_)
        intro v' w1 o1 g1 _
        simp only [List.getElem_toArray, List.getElem_cons_succ, List.getElem_cons_zero, Act.put, List.setIfInBounds_toArray, List.set_cons_succ, List.set_cons_zero]
        have HX := HF.out (x5.alloc (.cells f.plain.arr 45)) (b5.trans (((Below.refl _ x5).alloc (Nat.le_refl _) (.cells f.plain.arr 45)).mono b5.size)) v' w1 o1 g1
        obtain ⟨ao', cap', rfl⟩ := own_shape5 o1
        refine wpAny_take (i := 9) (v := (.pointer (some ⟨D, 0, none⟩))) rfl (by kernel_rfl) (by kernel_rfl) (by kernel_rfl) (fun _ _ _ h => h) (.inl ⟨rfl, fun _ => by simp [execOp, go_sem, Act.eval]⟩) ?_
        simp only [List.getElem_toArray, List.getElem_cons_succ, List.getElem_cons_zero, Act.put, List.setIfInBounds_toArray, List.set_cons_succ, List.set_cons_zero]
        refine wpAny_take (i := 10) (v := (.pointer (some ⟨D, 4, none⟩))) rfl (by kernel_rfl) (by kernel_rfl) (by kernel_rfl) (fun _ _ _ h => h) (.inl ⟨rfl, fun _ => by simp [execOp, go_sem, Act.eval]⟩) ?_
        simp only [List.getElem_toArray, List.getElem_cons_succ, List.getElem_cons_zero, Act.put, List.setIfInBounds_toArray, List.set_cons_succ, List.set_cons_zero]
        refine wpAny_all (rs := [11]) (by kernel_rfl) (by simp) ?_
        intro k hk
        simp only [List.mem_cons, List.mem_nil_iff, or_false] at hk
        subst hk
        refine wpOp_run rfl rfl (wp_store_cell 37 _ _ rfl D 4 rfl _ rfl (store_frs w1 D 4 _ ao' _ cap' HX.1 HX.2.1) ?_)
        simp only [List.getElem_toArray, List.getElem_cons_succ, List.getElem_cons_zero, Act.put, List.setIfInBounds_toArray, List.set_cons_succ, List.set_cons_zero]
        refine wpAny_done (by kernel_rfl) ?_ _
        have HZ : Hid _ := HX.2.2
        clear HX o1 g1 HF HPl HW
        go_wp2
        go_ret
        exact ⟨rfl, _, _, w1, HZ.out.1, HZ.out.2.1, HZ.out.2.2, rfl⟩
end Go.Proofs.Ytnciecjebgpfpaa
namespace Go.Proofs.Ytnciecjebgpfpaa
open Go.RowKit Go.Proofs.Bits
set_option linter.unusedVariables false
set_option maxRecDepth 1000000
set_option linter.unusedSimpArgs false

def fr9 : Fr := ⟨9, false, false, 0, [0, 0, 0, 0, 0, 0, 0, 0], by decide, by decide, rfl⟩
def fr5' : Fr := ⟨5, false, false, 0, [0, 0, 0, 0, 0, 0, 0, 0], by decide, by decide, rfl⟩
def fr7 : Fr := ⟨7, false, false, 0, [0, 0, 0, 0, 0, 0, 0, 0], by decide, by decide, rfl⟩
def m9 : Ml := ⟨fr9.plain, fr9.field, 1⟩
def m5 : Ml := ⟨fr5'.plain, fr5'.field, 2⟩
theorem m_less : lessM m5 m9 = true := by decide +kernel
theorem up_two : upF ([m9] ++ [m5]) 1 = [m5, m9] := by
  rw [upF_go (ms := [m9] ++ [m5]) (k := 1) (by omega) (by simp) m_less, upF_zero]
  rfl
theorem Kd.below5 {D B : Nat} {w x : World} (h : Kd D B w x) (hD : B ≤ D) (hB : B ≤ w.heap.size) : Below B w x :=
  ⟨h.os, h.tape, h.output, h.size, fun k hk => h.low k hk (by omega) (by omega)⟩
theorem own_kd {D B B' : Nat} {w x : World} (h : Kd D B w x) {e : TypeId} {c : Nat} {v : Value} {n : Nat} {xs : List Value} (ho : w.ownsRow B' e c v n xs) (he : e ≠ 73) (hd : v.ownBlock ≠ some D) : x.ownsRow B' e c v n xs := by
  obtain ⟨hl, ho⟩ := ho
  refine ⟨hl, ?_⟩
  rcases ho with ho | ⟨g, cap, cur, rfl, hg, hcur, rest⟩
  · exact .inl ho
  · exact .inr ⟨g, cap, cur, rfl, hg, h.typ g _ _ _ he (fun e => hd (by rw [← e]; rfl)) hcur, rest⟩
set_option maxHeartbeats 2000000 in
theorem lives5_any (w : World) : Calls Try.prog 9 #[] w fun e w' => e = .returned (.bool true) ∧ Below w.heap.size w w' := by
  have hN := New_nil 2 2 (by decide) (by decide) (by decide) (by decide) w
  have h9 : Hid (Value.agg #[.int .u32 9, .bool false, .bool false, .int .i64 0, .int .u8 0, .int .u8 0, .int .u8 0, .int .u8 0, .int .u8 0, .int .u8 0, .int .u8 0, .int .u8 0] = fr9.val) := rfl
  have h5 : Hid (Value.agg #[.int .u32 5, .bool false, .bool false, .int .i64 0, .int .u8 0, .int .u8 0, .int .u8 0, .int .u8 0, .int .u8 0, .int .u8 0, .int .u8 0, .int .u8 0] = fr5'.val) := rfl
  have h7 : Hid (Value.agg #[.int .u32 7, .bool false, .bool false, .int .i64 0, .int .u8 0, .int .u8 0, .int .u8 0, .int .u8 0, .int .u8 0, .int .u8 0, .int .u8 0, .int .u8 0] = fr7.val) := rfl
  go_enter Try.func9, Try.ntmps9
  go_wp2_with fail
  refine hN.mono ?_
  rintro e w1 ⟨D, ao, cap, rfl, hD, A1, B1⟩
  have M1 : Mb w1 w.heap.size (.slice none 0 0) [] := World.ownsRow_nil _ _ _ _
  have hS := Send_ok fr9 A1 M1 B1.size (by decide +kernel) (by decide) (by decide) (by decide) (by decide)
  unfold Fr.val at *
  clear hN
  go_wp2_with fail
  refine (show Calls Try.prog 13 #[.pointer (some ⟨D, 0, none⟩), .agg fr9.arr] w1 _ from hS).mono ?_
  rintro e w2 ⟨rfl, v2, A2, M2, K2⟩
  have M2' : Mb w2 w.heap.size v2 [m9] := by
    have : upF ([] ++ [m9]) 0 = [m9] := upF_zero _
    rw [← this]; exact M2
  have B2 := B1.trans (K2.below5 hD B1.size)
  have hS2 := Send_ok fr5' A2 M2' B2.size (by decide +kernel) (by decide) (by decide) (by decide) (by decide)
  unfold Fr.val at *
  clear hS M2
  go_wp2_with fail
  refine (show Calls Try.prog 13 #[.pointer (some ⟨D, 0, none⟩), .agg fr5'.arr] w2 _ from hS2).mono ?_
  rintro e w3 ⟨rfl, v3, A3, M3, K3⟩
  have M3' : Mb w3 w.heap.size v3 [m5, m9] := by
    rw [← up_two]; exact M3
  have B3 := B2.trans (K3.below5 hD B2.size)
  have hNx := Next_some A3 M3' (by simp)
  unfold Fr.val at *
  clear hS2 M3 K2 K3 M2' A1 A2 M1
  go_wp2_with fail
  refine hNx.mono ?_
  rintro e w4 ⟨rfl, b4⟩
  have B4 := B3.trans (b4.mono B3.size)
  have gn := Fa.new w4 Fr.nul
  have g5 := gn.row fr5'.plain
  have bb : Below w4.heap.size w4 ((w4.alloc (.cells Fr.nul.arr 45)).setRow w4.heap.size fr5'.plain.arr) := below_row ((Below.refl _ w4).alloc (Nat.le_refl _) _) (Nat.le_refl _) (by rw [size_alloc]; omega) _
  have B5 := B4.trans (bb.mono B4.size)
  have A5 : Dr D _ ((w4.alloc (.cells Fr.nul.arr 45)).setRow w4.heap.size fr5'.plain.arr) := (bb.block D (Nat.lt_of_lt_of_le (Array.getElem?_eq_some_iff.1 A3).1 b4.size)).trans ((b4.block D (Array.getElem?_eq_some_iff.1 A3).1).trans A3)
  have hT := Take_ok (B := w.heap.size) fr7 A5 (cs := []) (World.ownsRow_nil _ _ _ _) B5.size (by decide +kernel) (by decide) (by decide)
  have c0 : ((w4.alloc (.cells Fr.nul.arr 45)).setRow w4.heap.size fr5'.plain.arr).cell? ⟨w4.heap.size, 0, none⟩ = some (.int .u32 5) := (Lib.cell_of_heap g5 0).trans rfl
  have hm5 : m5.f.arr = fr5'.plain.arr := rfl
  unfold Fr.val at *
  clear hNx b4 M3' A3
  generalize hW5 : (w4.alloc (.cells Fr.nul.arr 45)).setRow w4.heap.size fr5'.plain.arr = w5 at *
  go_upto_region 7 with (refine gn.sd fr5'.plain rfl _ _ rfl rfl rfl ?_)
  clear gn hW5 g5 A5
  go_wp2_with fail
  refine (show Calls Try.prog 18 #[.pointer (some ⟨D, 0, none⟩), .agg fr7.arr] w5 _ from hT).mono ?_
  rintro e w6 ⟨rfl, x, vc', w7, bx, gx, _, rfl⟩
  have B6 : Below w.heap.size w (w7.setCell ⟨D, 4, none⟩ vc') := by
    refine Below.setCell (p := ⟨D, 4, none⟩) ((B5.trans (bx.mono B5.size)).trans ⟨gx.os, gx.tape, gx.output, gx.size, fun k hk => gx.block k ?_ (by simp [Value.ownBlock])⟩) hD _
    have := B5.size; have := bx.size; omega
  clear hT bx gx B5
  go_wp2
  go_ret
  exact ⟨rfl, B6⟩
end Go.Proofs.Ytnciecjebgpfpaa
namespace Go.Proofs.Ytnciecjebgpfpaa
open Go.RowKit Go.Proofs.Bits
set_option linter.unusedVariables false
set_option maxRecDepth 1000000
set_option linter.unusedSimpArgs false

structure Fi where
  id : Nat
  mask : Nat
  ext : Bool
  hid : id < 4294967296
  hmask : mask < 4294967296
def Fi.cells (x : Fi) : List Value := [.int .u32 x.id, .int .u32 x.mask, .bool x.ext]
def Fi.arr (x : Fi) : Array Value := #[.int .u32 x.id, .int .u32 x.mask, .bool x.ext]
/-- A filter in a block of its own. -/
def Xa (g : Nat) (x : Fi) (w : World) : Prop := w.heap[g]? = some (.cells x.arr 60 (0, 0))
theorem Xa.lt {g : Nat} {x : Fi} {w : World} (h : Xa g x w) : g < w.heap.size := (Array.getElem?_eq_some_iff.1 h).1
theorem Xa.below {g : Nat} {x : Fi} {w w' : World} (h : Xa g x w) (hb : Below w.heap.size w w') : Xa g x w' := (hb.block g h.lt).trans h
theorem Xa.cells {g : Nat} {x : Fi} {w : World} (h : Xa g x w) : w.cell? ⟨g, 0, none⟩ = some (.int .u32 x.id) ∧ w.cell? ⟨g, 1, none⟩ = some (.int .u32 x.mask) ∧ w.cell? ⟨g, 2, none⟩ = some (.bool x.ext) :=
  ⟨Lib.cell_of_heap h 0, Lib.cell_of_heap h 1, Lib.cell_of_heap h 2⟩
/-- Whether a filter lets a frame pass, as its closure reckons it. -/
def fiB (x : Fi) (f : Fr) : Bool := (f.ext == x.ext) && (bits .and .u32 (bits .xor .u32 f.id x.id) x.mask == 0)
theorem enterC : ∀ args x, (callFunc 40 args).run Try.prog x = .ok (.enter 40 args) x := fun _ _ => by rfl
theorem enterS : ∀ args x, (callFunc 38 args).run Try.prog x = .ok (.enter 38 args) x := fun _ _ => by rfl
theorem hmf5 : ∀ (fn : Fn) (first cap : Array Value) (w : World), (Instr.makeFunc fn first cap).run Try.prog w = .ok (.func fn first cap) w := fun _ _ _ _ => rfl
set_option maxHeartbeats 1000000 in
theorem clo_any {g : Nat} {x : Fi} {w : World} (f : Fr) (hX : Xa g x w) : Calls Try.prog 40 #[.agg f.arr, .pointer (some ⟨g, 0, none⟩)] w fun e w' => e = .returned (.bool (fiB x f)) ∧ Below w.heap.size w w' := by
  obtain ⟨wa, hwa⟩ : ∃ wa, w.alloc (.cells f.arr 45) = wa := ⟨_, rfl⟩
  have ba : Below w.heap.size w wa := by rw [← hwa]; exact (Below.refl _ _).alloc (Nat.le_refl _) _
  have fa : Fa w.heap.size f wa := by rw [← hwa]; exact Fa.new w f
  obtain ⟨x0, x1, x2⟩ := (hX.below ba).cells
  obtain ⟨q, hq⟩ : ∃ q, w.heap.size = q := ⟨_, rfl⟩
  rw [hq] at fa
  have f0 : wa.cell? ⟨q, 0, none⟩ = some (.int .u32 f.id) := (Lib.cell_of_heap fa 0).trans rfl
  have f1 : wa.cell? ⟨q, 1, none⟩ = some (.bool f.ext) := (Lib.cell_of_heap fa 1).trans rfl
  have HV : Hid (fiB x f = ((f.ext == x.ext) && (bits .and .u32 (bits .xor .u32 f.id x.id) x.mask == 0))) := rfl
  generalize fiB x f = V at *
  generalize f.ext = fe at *
  generalize x.ext = xe at *
  have HB : Hid (Below w.heap.size w wa) := ba
  clear ba fa hX
  cases he : (fe == xe)
  · have HE : Hid (V = false) := by show _ = _; rw [HV.out, he]; rfl
    clear HV
    go_enter Try.func40, Try.ntmps40
    go_wp2
    go_ret
    exact ⟨ret_bool HE.out.symm, HB.out⟩
  · have HE : Hid (V = (bits .and .u32 (bits .xor .u32 f.id x.id) x.mask == 0)) := by show _ = _; rw [HV.out, he]; simp
    clear HV
    go_enter Try.func40, Try.ntmps40
    go_wp2
    go_ret
    exact ⟨ret_bool HE.out.symm, HB.out⟩
def cloV (g : Nat) : Value := .func (.func 40) #[] #[.pointer (some ⟨g, 0, none⟩)]
/-- Closures of filters, and their blocks. -/
def FiS (w : World) (v : Value) (gs : List Nat) (l : List Fi) : Prop := gs.length = l.length ∧ Slots w v (gs.map cloV) ∧ ∀ k (h1 : k < gs.length) (h2 : k < l.length), Xa gs[k] l[k] w
theorem FiS.below {w w' : World} {v : Value} {gs : List Nat} {l : List Fi} (h : FiS w v gs l) (hb : Below w.heap.size w w') : FiS w' v gs l := ⟨h.1, h.2.1.below hb, fun k h1 h2 => (h.2.2 k h1 h2).below hb⟩
set_option maxHeartbeats 1000000 in
theorem pas1_any {g p : Nat} {x : Fi} {w : World} (f : Fr) (hX : Xa g x w) (hF : Fa p f w) : Calls Try.prog 38 #[cloV g, .pointer (some ⟨p, 0, none⟩)] w fun e w' => e = .returned (.bool (fiB x f)) ∧ Below w.heap.size w w' := by
  have hC := clo_any f hX
  have hen := enterC
  unfold cloV
  generalize fiB x f = V at *
  go_enter Try.func38, Try.ntmps38
  go_wp2_with (refine hF.ld rfl _ rfl rfl ?_)
  refine hC.mono ?_
  rintro e w2 ⟨rfl, b2⟩
  go_wp2
  go_ret
  exact ⟨rfl, b2⟩
set_option maxHeartbeats 1000000 in
theorem IFf_any {p : Nat} {v : Value} {gs : List Nat} {l : List Fi} {w : World} (f : Fr) (hl : l.length ≤ 32) (hS : FiS w v gs l) (hF : Fa p f w) :
    Calls Try.prog 51 #[v, .func (.func 38) #[] #[.pointer (some ⟨p, 0, none⟩)]] w fun e w' => (∃ z : Int, e = .returned (.int .i64 z) ∧ (0 ≤ z ↔ l.any (fiB · f) = true) ∧ -1 ≤ z ∧ z ≤ 32) ∧ Below w.heap.size w w' := by
  have HS : Hid (FiS w v gs l) := hS
  obtain ⟨hgl, hSl, _⟩ := hS
  obtain ⟨ao, cp, hv, HC0⟩ := hSl.map
  have HC : Hid (∀ (wr : World), Below w.heap.size w wr → ∀ k (h : k < gs.length), ∃ b off, ao = some ⟨b, off, none⟩ ∧ wr.cell? ⟨b, off + k, none⟩ = some (cloV gs[k])) := HC0
  have HP : Hid (∀ k (hk : k < l.length) (hg : k < gs.length), ∀ x, Below w.heap.size w x → Calls Try.prog 38 #[cloV gs[k], .pointer (some ⟨p, 0, none⟩)] x fun e y => e = .returned (.bool (fiB l[k] f)) ∧ Below x.heap.size x y) := fun k hk hg x hx => pas1_any f ((HS.out.below hx).2.2 k hg hk) (hF.below5 hx)
  have hen := enterS
  subst hv
  have hgl2 : Hid (gs.length = l.length) := hgl
  rw [hgl]
  clear hgl
  clear HC0 hSl HS hF
  go_enter Try.func51, Try.ntmps51
  go_wp2
  go_loopw [8] (fun i x => ∃ k : Nat, k ≤ l.length ∧ i = .int .i64 k ∧ (∀ j (hj : j < l.length), j < k → fiB l[j] f = false) ∧ Below w.heap.size w x) (fun i _ => l.length - (intOf i).toNat)
  case atStart => exact ⟨0, Nat.zero_le _, rfl, fun j _ h => by omega, Below.refl _ _⟩
  case round =>
    obtain ⟨k, hk, rfl, H1, B1⟩ := hrel
    by_cases hkl : k < l.length
    · have hkg : k < gs.length := by rw [hgl2.out]; exact hkl
      obtain ⟨b, off, rfl, hc⟩ := HC.out wr B1 k hkg
      have hF := HP.out k hkl hkg wr B1
      have HT : Hid (fiB l[k] f = true → l.any (fiB · f) = true) := fun h => List.any_eq_true.2 ⟨l[k], List.getElem_mem hkl, h⟩
      have HJ : Hid (∀ j (hj : j < l.length), j < k + 1 → fiB l[k] f = false → fiB l[j] f = false) := by
        intro j hj h1 h2
        rcases Nat.lt_or_ge j k with h3 | h3
        · exact H1 j hj h3
        · have : j = k := by omega
          subst this; exact h2
      have HTT : Hid (l.any (fiB · f) = true ↔ l.any (fiB · f) = true) := Iff.rfl
      generalize hbv : fiB l[k] f = bv at *
      unfold cloV at hc hF
      clear HC HP H1 hbv
      go_wp2_with fail
      refine hF.mono ?_
      rintro e w4 ⟨rfl, B4⟩
      have B5 := B1.trans (B4.mono B1.size)
      clear hF B1 B4 hc
      cases bv
      · have HJ2 : Hid (∀ j (hj : j < l.length), j < k + 1 → fiB l[j] f = false) := fun j hj h1 => HJ.out j hj h1 rfl
        clear HJ HT
        go_wp2
        go_roundw
        case rel => exact ⟨k + 1, by omega, by go_num, HJ2.out, B5⟩
        case measure => simp [intOf]; omega
      · have HA : Hid (l.any (fiB · f) = true) := HT.out rfl
        clear HJ HT
        go_wp2
        go_ret
        exact ⟨⟨k, rfl, by simp [HA.out], by omega, by omega⟩, B5⟩
    · have HA : Hid (l.any (fiB · f) = false) := by
        show _ = _
        rw [List.any_eq_false]
        intro y hy
        obtain ⟨j, hj, rfl⟩ := List.getElem_of_mem hy
        simp [H1 j hj (by omega)]
      clear HC HP H1
      go_wp2
      go_ret
      exact ⟨⟨-1, rfl, by simp [HA.out], by omega, by omega⟩, B1⟩
set_option maxHeartbeats 1000000 in
theorem CFf_any {p : Nat} {v : Value} {gs : List Nat} {l : List Fi} {w : World} (f : Fr) (hl : l.length ≤ 32) (hS : FiS w v gs l) (hF : Fa p f w) :
    Calls Try.prog 37 #[v, .func (.func 38) #[] #[.pointer (some ⟨p, 0, none⟩)]] w fun e w' => e = .returned (.bool (l.any (fiB · f))) ∧ Below w.heap.size w w' := by
  have HI := IFf_any f hl hS hF
  generalize l.any (fiB · f) = A at *
  clear hl hS hF
  go_enter Try.func37, Try.ntmps37
  go_wp2_with fail
  refine HI.mono ?_
  rintro e w4 ⟨⟨z, rfl, hz, h1, h2⟩, B4⟩
  cases A
  · have hd : decide (0 ≤ z) = false := by simp at hz; simp; omega
    go_wp2
    go_ret
    exact ⟨rfl, B4⟩
  · have hd : decide (0 ≤ z) = true := by simp at hz; simpa using hz
    go_wp2
    go_ret
    exact ⟨rfl, B4⟩
end Go.Proofs.Ytnciecjebgpfpaa
namespace Go.Proofs.Ytnciecjebgpfpaa
open Go.RowKit Go.Proofs.Bits
set_option linter.unusedVariables false
set_option maxRecDepth 1000000
set_option linter.unusedSimpArgs false

def FiIn (w : World) (v : Value) (l : List Fi) : Prop := Wide 3 Fi.cells w v l
theorem FiIn.below {w w' : World} {v : Value} {l : List Fi} (h : FiIn w v l) (hb : Below w.heap.size w w') : FiIn w' v l := by
  obtain ⟨ao, cap, hv, h0, hc⟩ := h
  refine ⟨ao, cap, hv, h0, fun k hk => ?_⟩
  obtain ⟨b, off, ha, hlt, hR⟩ := hc k hk
  exact ⟨b, off, ha, Nat.lt_of_lt_of_le hlt hb.size, fun j u hj => (hb.cell (p := ⟨b, off + k * 3 + j, none⟩) hlt).trans (hR j u hj)⟩
theorem infoFi : (Try.prog.info? 60).map (·.size) = some 3 := by kernel_rfl
theorem fi_ld {w : World} {ops : Array Oper} {rest : List Oper} {p : Oper} {a : Act} {Q : Exit → Act → World → Prop} {b o : Nat} {x : Fi} (h : w.rangeAt b o x.cells) (hgd : p.guard = none) (y : Operand) (ho : p.op = .load 60 y) (hx : a.eval y = .pointer (some ⟨b, o, none⟩))
    (hh : wpList Try.prog ops Q rest (a.put p.dst (.agg x.arr)) w) : wpList Try.prog ops Q (p :: rest) a w :=
  wpList_load_mid hgd 60 y ho b o hx x.cells _ h Try.underlying60 rfl (by rw [infoFi]; rfl) hh
def Fi.nul : Fi := ⟨0, 0, false, by decide, by decide⟩
theorem Xa.new (w : World) (x : Fi) : Xa w.heap.size x (w.alloc (.cells x.arr 60)) := heap_alloc_new w _
theorem Xa.row {q : Nat} {x : Fi} {w : World} (h : Xa q x w) (y : Fi) : Xa q y (w.setRow q y.arr) := setRow_heap w q _ _ 60 _ h
theorem Xa.sd {q : Nat} {x : Fi} {w : World} {ops : Array Oper} {rest : List Oper} {o : Oper} {a : Act} {Q : Exit → Act → World → Prop} (h : Xa q x w) (y : Fi) (hgd : o.guard = none) (s t : Operand) (ho : o.op = .store 60 s t) (hx : a.eval s = .pointer (some ⟨q, 0, none⟩)) (hy : a.eval t = .agg y.arr)
    (hh : wpList Try.prog ops Q rest (a.put o.dst undef) (w.setRow q y.arr)) : wpList Try.prog ops Q (o :: rest) a w :=
  wpList_store_row hgd 60 s t ho q _ hx hy 60 _ h infoFi rfl (by simp [Fi.arr, Value.oneCell']) hh
def rowF (gs : List Nat) (n : Nat) : List Value := gs.map cloV ++ List.replicate (n - gs.length) Value.nilFunc
theorem rowF_len (gs : List Nat) (n : Nat) (h : gs.length ≤ n) : (rowF gs n).length = n := by unfold rowF; simp; omega
theorem rowF_set (gs : List Nat) (n : Nat) (h : gs.length < n) (p : Nat) : (rowF gs n).set gs.length (cloV p) = rowF (gs ++ [p]) n := by
  unfold rowF
  obtain ⟨m, hm⟩ : ∃ m, n - gs.length = m + 1 := ⟨n - gs.length - 1, by omega⟩
  have hm2 : n - (gs ++ [p]).length = m := by simp; omega
  rw [hm, hm2, List.set_append_right _ _ (by simp)]
  simp [List.replicate_succ]
theorem store_clo (x : World) (g k : Nat) (v u : Value) (hv : v.oneCell' = true) (hc : x.cell? ⟨g, k, none⟩ = some u) (hf : x.frozen? ⟨g, k, none⟩ = false) : (store ⟨g, k, none⟩ v).run Try.prog x = .ok () (x.setCell ⟨g, k, none⟩ v) := by
  rw [run_store _ _ _ _ _ hv, hc]; simp [hf]
set_option maxHeartbeats 2000000 in
theorem filtersOf_any {v : Value} {l : List Fi} {w : World} (hl : l.length ≤ 32) (hS : FiIn w v l) :
    Calls Try.prog 22 #[v] w fun e w' => (∃ g gs, e = .returned (.slice (some ⟨g, 0, none⟩) l.length l.length) ∧ FiS w' (.slice (some ⟨g, 0, none⟩) l.length l.length) gs l) ∧ Below w.heap.size w w' := by
  have HI : Hid (∀ x, Below w.heap.size w x → FiIn x v l) := fun x hx => hS.below hx
  obtain ⟨ao, cap, rfl, _⟩ := hS
  have hm : ∀ x, (Instr.makeSlice 63 (.int .i64 l.length) (.int .i64 l.length)).run Try.prog x = .ok (.slice (some ⟨x.heap.size, 0, none⟩) l.length l.length) (x.alloc (.cells (madeCells #[.nilFunc] l.length) 86)) := fun x => run_make_row' (P := Try.prog) 63 86 .nilFunc 8 Try.underlying63 infoFf rfl .i64 .i64 l.length (by omega) (by omega) x
  obtain ⟨w1, hw1⟩ : ∃ w1, w.alloc (.cells (madeCells #[.nilFunc] l.length) 86) = w1 := ⟨_, rfl⟩
  have R1 : Row w1 w.heap.size (rowF [] l.length) := by
    rw [← hw1]
    have := Row.made w .nilFunc l.length 86
    simpa [rowF] using this
  have B1 : Below w.heap.size w w1 := by rw [← hw1]; exact (Below.refl _ _).alloc (Nat.le_refl _) _
  obtain ⟨g, hg⟩ : ∃ g, w.heap.size = g := ⟨_, rfl⟩
  have H0 : Hid (Row w1 g (rowF [] l.length) ∧ Below w.heap.size w w1) := by rw [← hg]; exact ⟨R1, B1⟩
  have hmf := hmf5
  clear R1 B1
  go_enter Try.func22, Try.ntmps22
  go_wp2
  go_loopw [11] (fun i x => ∃ gs : List Nat, gs.length ≤ l.length ∧ i = .int .i64 gs.length ∧ Row x g (rowF gs l.length) ∧ (∀ k (h1 : k < gs.length) (h2 : k < l.length), gs[k] ≠ g ∧ Xa gs[k] l[k] x) ∧ Below w.heap.size w x) (fun i _ => l.length - (intOf i).toNat)
  case atStart => exact ⟨[], Nat.zero_le _, rfl, H0.out.1, fun k h1 => by simp at h1, H0.out.2⟩
  case round =>
    clear H0
    obtain ⟨gs, hk, rfl, R1, X1, B1⟩ := hrel
    have s1 := B1.size
    obtain ⟨k, hkk⟩ : ∃ k, gs.length = k := ⟨_, rfl⟩
    rw [hkk] at hk ⊢
    by_cases hkl : k < l.length
    · obtain ⟨ao', cap', hv', _, hc⟩ := HI.out wr B1
      obtain ⟨b, off, hao, hb, hR⟩ := hc k hkl
      have hao2 : ao = some ⟨b, off, none⟩ := by injection hv' with e1; rw [e1]; exact hao
      subst hao2
      have gn := Xa.new wr Fi.nul
      have g3 := gn.row l[k]
      have bb : Below wr.heap.size wr ((wr.alloc (.cells Fi.nul.arr 60)).setRow wr.heap.size l[k].arr) := below_row ((Below.refl _ wr).alloc (Nat.le_refl _) _) (Nat.le_refl _) (by rw [size_alloc]; omega) _
      have B3 := B1.trans (bb.mono s1)
      have R3 := R1.below bb
      have hrl := rowF_len gs l.length (by omega)
      have lg := R1.lt
      have c1 := R3.cell k (by rw [hrl]; exact hkl)
      have c2 := R3.free k (by rw [hrl]; exact hkl)
      have HX : Hid (∃ gs' : List Nat, gs'.length = k + 1 ∧ Row (((wr.alloc (.cells Fi.nul.arr 60)).setRow wr.heap.size l[k].arr).setCell ⟨g, k, none⟩ (cloV wr.heap.size)) g (rowF gs' l.length) ∧ (∀ j (h1 : j < gs'.length) (h2 : j < l.length), gs'[j] ≠ g ∧ Xa gs'[j] l[j] (((wr.alloc (.cells Fi.nul.arr 60)).setRow wr.heap.size l[k].arr).setCell ⟨g, k, none⟩ (cloV wr.heap.size))) ∧ Below w.heap.size w (((wr.alloc (.cells Fi.nul.arr 60)).setRow wr.heap.size l[k].arr).setCell ⟨g, k, none⟩ (cloV wr.heap.size))) := by
        refine ⟨gs ++ [wr.heap.size], by simp [hkk], ?_, fun j h1 h2 => ?_, B3.setCell (p := ⟨g, k, none⟩) (by show w.heap.size ≤ g; omega) _⟩
        · have e := rowF_set gs l.length (by omega) wr.heap.size
          rw [hkk] at e
          rw [← e]
          exact R3.set k _
        · by_cases hj : j < gs.length
          · rw [List.getElem_append_left hj]
            obtain ⟨n1, n2⟩ := X1 j hj h2
            exact ⟨n1, (Below.heap_setCell _ ⟨g, k, none⟩ _ _ n1).trans (n2.below bb)⟩
          · have e : j = gs.length := by simp at h1; omega
            subst e
            rw [List.getElem_concat_length rfl]
            have n1 : wr.heap.size ≠ g := by omega
            have e2 : l[gs.length]'h2 = l[k] := by congr 1
            rw [e2]
            exact ⟨n1, (Below.heap_setCell _ ⟨g, k, none⟩ _ _ n1).trans g3⟩
      obtain ⟨u, hu⟩ : ∃ u, ((wr.alloc (.cells Fi.nul.arr 60)).setRow wr.heap.size l[k].arr).cell? ⟨g, k, none⟩ = some u := ⟨_, c1⟩
      unfold cloV at HX
      generalize l[k] = x at *
      clear hc R1 X1 B1 R3 B3 bb c1 HI hao hv' hkk hrl g3
      go_upto_region 5 with (first | refine fi_ld hR rfl _ rfl rfl ?_ | refine gn.sd x rfl _ _ rfl rfl rfl ?_)
      clear gn hR
      generalize (wr.alloc (.cells Fi.nul.arr 60)).setRow wr.heap.size x.arr = w5 at *
      have hst := store_clo w5 g k (.func (.func 40) #[] #[.pointer (some ⟨wr.heap.size, 0, none⟩)]) u rfl hu c2
      go_wp2
      obtain ⟨gs', e1, e2, e3, e4⟩ := HX.out
      go_roundw
      case rel => exact ⟨gs', by omega, by rw [e1]; go_num, e2, e3, e4⟩
      case measure => simp [intOf]; omega
    · obtain rfl : k = l.length := by omega
      have HF : Hid (FiS wr (.slice (some ⟨g, 0, none⟩) l.length l.length) gs l) := by
        refine ⟨hkk, ?_, fun k h1 h2 => (X1 k h1 h2).2⟩
        have : Row wr g (gs.map cloV) := by
          have := R1; unfold rowF at this; rw [hkk, Nat.sub_self] at this; simpa using this
        exact slots_of_row this (by simp [hkk])
      clear R1 X1 HI
      go_wp2
      go_ret
      exact ⟨⟨g, gs, rfl, HF.out⟩, B1⟩
end Go.Proofs.Ytnciecjebgpfpaa
namespace Go.Proofs.Ytnciecjebgpfpaa
open Go.RowKit Go.Proofs.Bits
set_option linter.unusedVariables false
set_option maxRecDepth 1000000
set_option linter.unusedSimpArgs false

set_option maxHeartbeats 1000000 in
theorem New_fil {v : Value} {l : List Fi} (bx rm : Int) (h1 : 1 ≤ bx) (h2 : bx ≤ 64) (h3 : 1 ≤ rm) (h4 : rm ≤ 64) (w : World) (hl : l.length ≤ 32) (hS : FiIn w v l) :
    Calls Try.prog 7 #[.int .i64 bx, .int .i64 rm, v] w fun e w' => ∃ D g gs, e = .returned (.tuple #[.pointer (some ⟨D, 0, none⟩), .int .i64 0]) ∧ w.heap.size ≤ D ∧ Dr D (dA bx (.slice none 0 0) 0 rm (.slice none 0 0) 0 (.slice (some ⟨g, 0, none⟩) l.length l.length)) w' ∧ FiS w' (.slice (some ⟨g, 0, none⟩) l.length l.length) gs l ∧ Below w.heap.size w w' := by
  have hF1 := fits_ok bx h1 h2 w
  have hF2 := fits_ok rm h3 h4 w
  have hFi := filtersOf_any hl hS
  have hgt : decide ((32 : Int) < (l.length : Int)) = false := by simp; omega
  obtain ⟨ao, cap, rfl, _⟩ := hS
  go_enter Try.func7, Try.ntmps7
  go_wp2_with fail
  refine hF1.mono ?_
  rintro e w1 ⟨rfl, rfl⟩
  clear hF1
  go_wp2_with fail
  refine hF2.mono ?_
  rintro e w2 ⟨rfl, rfl⟩
  clear hF2
  go_wp2_with fail
  refine hFi.mono ?_
  rintro e w3 ⟨⟨g, gs, rfl, FS⟩, b3⟩
  have HX : Hid (Dr w3.heap.size (dA bx (.slice none 0 0) 0 rm (.slice none 0 0) 0 (.slice (some ⟨g, 0, none⟩) l.length l.length)) (w3.alloc (.cells (dA bx (.slice none 0 0) 0 rm (.slice none 0 0) 0 (.slice (some ⟨g, 0, none⟩) l.length l.length)) 68))) := heap_alloc_new w3 _
  have HB : Hid (∀ o, Below _ _ (w3.alloc o)) := fun o => b3.alloc b3.size o
  have HFS : Hid (∀ o, FiS (w3.alloc o) (.slice (some ⟨g, 0, none⟩) l.length l.length) gs l) := fun o => FS.below ((Below.refl _ _).alloc (Nat.le_refl _) _)
  have hs := b3.size
  clear hFi b3 FS
  go_wp2
  go_ret2
  exact ⟨w3.heap.size, g, gs, rfl, hs, HX.out, HFS.out _, HB.out _⟩
def pasV (l : List Fi) (f : Fr) : Bool := (f.chk == 0) && (decide (l.length = 0) || l.any (fiB · f))
set_option maxHeartbeats 1000000 in
theorem Passes_any {w : World} {D : Nat} {v vc : Value} {g : Nat} {gs : List Nat} {l : List Fi} {bx tk rm lo : Int} (f : Fr) (hl : l.length ≤ 32) (hA : Dr D (dA bx v tk rm vc lo (.slice (some ⟨g, 0, none⟩) l.length l.length)) w) (hS : FiS w (.slice (some ⟨g, 0, none⟩) l.length l.length) gs l) :
    Calls Try.prog 19 #[.pointer (some ⟨D, 0, none⟩), .agg f.arr] w fun e w' => e = .returned (.bool (pasV l f)) ∧ Below w.heap.size w w' := by
  obtain ⟨wa, hwa⟩ : ∃ wa, w.alloc (.cells f.arr 45) = wa := ⟨_, rfl⟩
  have ba : Below w.heap.size w wa := by rw [← hwa]; exact (Below.refl _ _).alloc (Nat.le_refl _) _
  have fa : Fa w.heap.size f wa := by rw [← hwa]; exact Fa.new w f
  have hC := fCheck_any f wa
  have HV : Hid (pasV l f = ((f.chk == 0) && (decide (l.length = 0) || l.any (fiB · f)))) := rfl
  have hmf := hmf5
  obtain ⟨q, hq⟩ : ∃ q, w.heap.size = q := ⟨_, rfl⟩
  have lD : D < q := by rw [← hq]; exact (Array.getElem?_eq_some_iff.1 hA).1
  have sa : w.heap.size ≤ wa.heap.size := ba.size
  rw [hq] at fa
  unfold Fr.val at *
  generalize pasV l f = V at *
  generalize hz0 : f.chk = z at *
  by_cases hz : z = 0
  · have d1 : (z != 0) = false := by simpa using hz
    have HE : Hid (V = (decide (l.length = 0) || l.any (fiB · f))) := by show _ = _; rw [HV.out, hz]; rfl
    clear HV hz hz0
    go_enter Try.func19, Try.ntmps19
    go_upto_region 1 with fail
    go_wp2_with (refine fa.ld rfl _ rfl rfl ?_)
    refine hC.mono ?_
    rintro e w2 ⟨rfl, b2⟩
    have B2 : Below w.heap.size w w2 := ba.trans (b2.mono sa)
    have f2 := fa.below5 b2
    have A2 : Dr D _ w2 := (B2.block D (by omega)).trans hA
    have c6 := A2.cell (k := 6) (v := .slice (some ⟨g, 0, none⟩) l.length l.length) rfl
    have hCF := CFf_any f hl (hS.below B2) f2
    clear hC A2 fa
    by_cases hl0 : l.length = 0
    · have d2 : ((l.length : Int) == 0) = true := by rw [hl0]; rfl
      have HE2 : Hid (V = true) := by show _ = _; rw [HE.out, decide_eq_true hl0]; rfl
      clear HE hl0 hCF
      go_wp2
      go_ret
      exact ⟨ret_bool HE2.out.symm, B2⟩
    · have d2 : ((l.length : Int) == 0) = false := by rw [beq_eq_false_iff_ne]; omega
      have HE2 : Hid (V = l.any (fiB · f)) := by show _ = _; rw [HE.out, decide_eq_false hl0]; rfl
      clear HE hl0
      generalize l.any (fiB · f) = A at *
      go_wp2_with fail
      refine hCF.mono ?_
      rintro e w4 ⟨rfl, b4⟩
      have B4 := B2.trans (b4.mono B2.size)
      clear hCF
      go_wp2
      go_ret
      exact ⟨ret_bool HE2.out.symm, B4⟩
  · have d1 : (z != 0) = true := by simpa using hz
    have HE : Hid (V = false) := by show _ = _; rw [HV.out, show (z == 0) = false by simpa using hz]; rfl
    clear HV hz hz0
    go_enter Try.func19, Try.ntmps19
    go_upto_region 1 with fail
    go_wp2_with (refine fa.ld rfl _ rfl rfl ?_)
    refine hC.mono ?_
    rintro e w2 ⟨rfl, b2⟩
    have B2 : Below w.heap.size w w2 := ba.trans (b2.mono sa)
    clear hC fa
    go_wp2
    go_ret
    exact ⟨ret_bool HE.out.symm, B2⟩
end Go.Proofs.Ytnciecjebgpfpaa
namespace Go.Proofs.Ytnciecjebgpfpaa
open Go.RowKit Go.Proofs.Bits
set_option linter.unusedVariables false
set_option maxRecDepth 1000000
set_option linter.unusedSimpArgs false

def DFi : Dec Fi := ⟨Fi.cells, 3, by decide, fun _ => rfl, fun x u hu => by simp [Fi.cells] at hu; rcases hu with rfl | rfl | rfl <;> rfl⟩
theorem infoFiZ : (Try.prog.info? 60).map (fun i => (i.zero, i.size, i.bytes)) = some (some (.agg Fi.nul.arr), 3, 12) := by kernel_rfl
theorem Fa.ldw5 {ops : Array Oper} {rest : List Oper} {o : Oper} {a : Act} {w : World} {Q : Exit → Act → World → Prop} {q : Nat} {f : Fr} (h : Fa q f w) (hgd : Region.wanted o (yielded ops a.tmps) = true) (x : Operand) (ho : o.op = .load 45 x) (hx : a.eval x = .pointer (some ⟨q, 0, none⟩))
    (hh : wpList Try.prog ops Q rest (a.put o.dst (.agg f.arr)) w) : wpList Try.prog ops Q (o :: rest) a w :=
  BigFrame.wpList_want hgd fun _ hK => wp_load_row 45 x ho q hx 45 f.arr (0, 0) _ h Try.underlying45 rfl (by rw [f.arr_size]; exact infoF) (hK _ _ hh)
def anyP (l : List Fi) (f : Fr) (k : Nat) : Bool := (l.take k).any fun y => pasV [y] f
theorem anyP_succ (l : List Fi) (f : Fr) (k : Nat) (h : k < l.length) : anyP l f (k + 1) = (anyP l f k || pasV [l[k]] f) := by
  unfold anyP; rw [List.take_succ_eq_append_getElem h, List.any_append]; simp
theorem anyP_all (l : List Fi) (f : Fr) (h : l.length ≠ 0) : anyP l f l.length = pasV l f := by
  unfold anyP
  rw [List.take_length]
  unfold pasV
  rw [decide_eq_false h]
  cases hz : (f.chk == 0)
  · simp
  · simp
set_option maxHeartbeats 2000000 in
theorem dfil_walk (v : Value) (l : List Fi) (f : Fr) (w : World) (hz : l.length * 12 ≤ 140737488351232) (hS : FiIn w v l) :
    Calls Try.prog 6 #[v, f.val] w fun e w' => e = .returned (.bool true) ∧ Below w.heap.size w w' := by
  obtain ⟨wa, hwa⟩ : ∃ wa, w.alloc (.cells f.arr 45) = wa := ⟨_, rfl⟩
  have ba : Below w.heap.size w wa := by rw [← hwa]; exact (Below.refl _ _).alloc (Nat.le_refl _) _
  have fa : Fa w.heap.size f wa := by rw [← hwa]; exact Fa.new w f
  have hS1 := hS.below ba
  have hLv := fun x => lives5_any x
  have HI : Hid (∀ x, Below w.heap.size w x → FiIn x v l) := fun x hx => hS.below hx
  obtain ⟨ao, cap, rfl, _⟩ := hS
  obtain ⟨q, hq⟩ : ∃ q, w.heap.size = q := ⟨_, rfl⟩
  rw [hq] at fa
  unfold Fr.val
  by_cases h32 : 32 < l.length
  · have d1 : decide ((32 : Int) < (l.length : Int)) = true := by simp; omega
    have hL := hLv wa
    clear hLv HI hS1
    go_enter Try.func6, Try.ntmps6
    go_wp2_with fail
    refine hL.mono ?_
    rintro e w9 ⟨rfl, b9⟩
    have B9 := ba.trans (b9.mono ba.size)
    go_wp2
    go_ret
    exact ⟨rfl, B9⟩
  · have d1 : decide ((32 : Int) < (l.length : Int)) = false := by simp; omega
    by_cases h0 : l.length = 0
    · have d2 : ((l.length : Int) == 0) = true := by rw [h0]; rfl
      have hL := hLv wa
      clear hLv HI hS1 h0
      go_enter Try.func6, Try.ntmps6
      go_wp2_with fail
      refine hL.mono ?_
      rintro e w9 ⟨rfl, b9⟩
      have B9 := ba.trans (b9.mono ba.size)
      go_wp2
      go_ret
      exact ⟨rfl, B9⟩
    · have d2 : ((l.length : Int) == 0) = false := by rw [beq_eq_false_iff_ne]; omega
      have o1 := own_empty_e wa 60 3
      have hS2 := hS1.below ((Below.refl _ wa).alloc (Nat.le_refl _) (.cells #[] 60))
      have HAll : Hid (anyP l f l.length = pasV l f) := anyP_all l f h0
      clear h0 hS1
      go_enter Try.func6, Try.ntmps6
      go_upto_region 3 with fail
      go_wp2_with (at_builtin; refine append_wide DFi rfl _ _ 22 60 _ _ Try.underlying22 infoFiZ rfl rfl wa.heap.size _ [] rfl (by exact o1) _ l rfl (by exact hS2) (by unfold maxLen; simp; omega) (by simp; omega) (by rw [size_alloc]; omega) ?_)
      intro v1 w1 P1 G1
      have b1 : Below wa.heap.size wa w1 := ((Below.refl _ wa).alloc (Nat.le_refl _) (.cells #[] 60)).grown G1 (by simp) (by simp [Value.ownBlock])
      have P1' : FiIn w1 v1 l := wide_of_own DFi (l := l) P1
      have hN := New_fil 1 1 (by decide) (by decide) (by decide) (by decide) w1 (by omega) P1'
      have B1 := ba.trans (b1.mono ba.size)
      have f1 := fa.below5 b1
      clear P1 G1 o1 hS2 P1' b1 ba fa
      go_wp2_with fail
      refine hN.mono ?_
      rintro e w3 ⟨D, g, gs, rfl, hD, A3, FS3, b3⟩
      have B3 := B1.trans (b3.mono B1.size)
      have f3 := f1.below5 b3
      clear hN f1 B1 b3
      go_wp2
      go_loopw [7, 8] (fun av i x => ∃ k : Nat, k ≤ l.length ∧ i = .int .i64 k ∧ av = .bool (anyP l f k) ∧ Below w3.heap.size w3 x) (fun _ i _ => l.length - (intOf i).toNat)
      case atStart => exact ⟨0, Nat.zero_le _, rfl, rfl, Below.refl _ _⟩
      case round =>
        obtain ⟨k, hk, rfl, rfl, bx⟩ := hrel
        have BX := B3.trans (bx.mono B3.size)
        have fx := f3.below5 bx
        by_cases hkl : k < l.length
        · obtain ⟨ao', cap', hv', _, hc⟩ := HI.out wr BX
          obtain ⟨b, off, hao, hb, hR⟩ := hc k hkl
          have hao2 : ao = some ⟨b, off, none⟩ := by injection hv' with e1; rw [e1]; exact hao
          subst hao2
          have HN : Hid (anyP l f (k + 1) = (anyP l f k || pasV [l[k]] f)) := anyP_succ l f k hkl
          have hN := New_fil (l := [l[k]]) 1 1 (by decide) (by decide) (by decide) (by decide) (wr.alloc (.cells l[k].arr 60)) (by simp) (show FiIn _ _ [l[k]] from wide_new DFi wr l[k] 60)
          generalize l[k] = x at *
          generalize anyP l f k = ak at *
          clear hc hao hv' HI
          go_upto_region 10 with fail
          go_wp2_with (first | refine fi_ld hR rfl _ rfl rfl ?_ | refine one_bs DFi x 22 60 _ _ rfl _ rfl rfl Try.underlying22 infoFiZ (by decide) ?_)
          refine hN.mono ?_
          rintro e w5 ⟨D5, g5, gs5, rfl, hD5, A5, FS5, b5⟩
          have bx5 : Below w3.heap.size w3 w5 := (bx.alloc bx.size _).trans (b5.mono (by rw [size_alloc]; have := bx.size; omega))
          have f5 := f3.below5 bx5
          have hP := Passes_any f (by simp) A5 FS5
          clear hN hR b5 fx bx
          cases ak
          · have HN2 : Hid (anyP l f (k + 1) = pasV [x] f) := by show _ = _; rw [HN.out]; rfl
            generalize pasV [x] f = pv at *
            clear HN
            go_upto_region 13 with fail
            go_wp2_with (first | refine f5.ldw5 rfl _ rfl rfl ?_)
            refine hP.mono ?_
            rintro e w6 ⟨rfl, b6⟩
            have bx6 := bx5.trans (b6.mono bx5.size)
            clear hP
            go_wp2
            go_roundw
            case rel => exact ⟨k + 1, by omega, by go_num, by rw [HN2.out], bx6⟩
            case measure => simp [intOf]; omega
          · have HN2 : Hid (anyP l f (k + 1) = true) := by show _ = _; rw [HN.out]; rfl
            clear HN hP
            go_wp2
            go_roundw
            case rel => exact ⟨k + 1, by omega, by go_num, by rw [HN2.out], bx5⟩
            case measure => simp [intOf]; omega
        · obtain rfl : k = l.length := by omega
          have Ax : Dr D _ wr := (bx.block D (Array.getElem?_eq_some_iff.1 A3).1).trans A3
          have hP := Passes_any f (by omega) Ax (FS3.below bx)
          rw [HAll.out]
          have hpp : ∀ b : Bool, (b == b) = true := fun b => by simp
          have hpp2 := hpp (pasV l f)
          generalize pasV l f = pv at *
          clear HI HAll
          go_upto_region 14 with fail
          go_wp2_with (refine fx.ld rfl _ rfl rfl ?_)
          refine hP.mono ?_
          rintro e w6 ⟨rfl, b6⟩
          have B6 := BX.trans (b6.mono BX.size)
          have hL := hLv w6
          clear hP hLv
          go_wp2_with fail
          refine hL.mono ?_
          rintro e w9 ⟨rfl, b9⟩
          have B9 := B6.trans (b9.mono B6.size)
          go_wp2
          go_ret
          exact ⟨rfl, B9⟩
end Go.Proofs.Ytnciecjebgpfpaa
namespace Go.Proofs.Ytnciecjebgpfpaa
open Go.ChangeShapes Go.WideShapes Go.ChangeAt Go.RowKit Go.Proofs.Bits
set_option linter.unusedVariables false
set_option maxRecDepth 1000000

theorem cellsFi : Try.prog.cellsOf 60 = 3 := by kernel_rfl
theorem bytesFi : Try.prog.bytesOf 60 = 12 := by kernel_rfl
theorem list3 {l : List Value} (h : l.length = 3) : ∃ a b c, l = [a, b, c] := by
  match l, h with
  | [a, b, c], _ => exact ⟨a, b, c, rfl⟩
theorem one_filter {H : Type} {enc : TypeId × Value → H} {W : World} (n : Nat) (cs : List Value) (y : DataW H × List MemPlace) (h : DataW.trod enc Try.prog W 0 (fun _ => true) true n 60 cs = some y) : ∃ x : Fi, cs = x.cells := by
  obtain ⟨xs, m, _, _, hn, hl, hfs⟩ := DataW.trod_struct Try.underlying60 h
  rw [cellsFi] at hn
  obtain ⟨a, b, c, rfl⟩ := list3 hn
  have g0 := hfs 0 _ rfl
  have g1 := hfs 1 _ rfl
  have g2 := hfs 2 _ rfl
  simp [cells1u32, cells1bool] at g0 g1 g2
  match xs, hl with
  | [y0, y1, y2], _ =>
    simp at g0 g1 g2
    obtain ⟨x, e0, _, w0⟩ := DataW.trod_int Try.underlying42 g0
    obtain ⟨z, e1, _, w1⟩ := DataW.trod_int Try.underlying42 g1
    obtain ⟨t, e2, _⟩ := DataW.trod_bool Try.underlying4 g2
    simp at e0 e1 e2
    subst e0 e1 e2
    obtain ⟨a1, a2⟩ := wf_u32_of w0
    obtain ⟨b1, b2⟩ := wf_u32_of w1
    refine ⟨⟨x.toNat, z.toNat, t, by omega, by omega⟩, ?_⟩
    unfold Fi.cells
    simp only [Int.toNat_of_nonneg a1, Int.toNat_of_nonneg b1]
theorem open_filters {H : Type} {enc : TypeId × Value → H} {W : World} {base : Nat} {v : Value} {d : DataW H} {ps : List MemPlace}
    (hval : Value.okWide Try.prog W .any base 22 v) (h : DataW.Trod enc Try.prog W 0 (fun _ => true) true 22 v d ps) (hlt : ∀ x ∈ ps, x.block < W.heap.size) :
    ∃ l, FiIn W v l ∧ ((d = .nil ∧ l = []) ∨ ∃ e s, d = .slice e s ∧ e.length = l.length) :=
  open_wide Try.underlying22 cellsFi (by decide) one_filter hval h hlt
theorem size_filters {H : Type} {ts : List TypeId} {ds : List (DataW H)} {j : Nat} {d : DataW H} {l : List Fi} (h : (DataW.weightsEach Try.prog ts ds).all (· ≤ reachBytes) = true) (ht : ts[j]? = some 22) (hd : ds[j]? = some d) (e : (d = .nil ∧ l = []) ∨ ∃ e s, d = .slice e s ∧ e.length = l.length) : l.length * 12 ≤ 140737488351232 :=
  size_wide h ht hd Try.underlying22 bytesFi e
end Go.Proofs.Ytnciecjebgpfpaa
namespace Go.Proofs.Ytnciecjebgpfpaa
open Go.ChangeShapes Go.WideShapes Go.ChangeAt Go.RowKit Go.Proofs.Bits
open Go.ChangeMaps (open_string shut_string)
set_option linter.unusedVariables false
set_option maxRecDepth 1000000

set_option maxRecDepth 100000 in
theorem driverFilters_lifted (os : Os) (started : os.Started) (H : Type) (enc : TypeId × Value → H) :
    ReturnsInHanded {} Try.checked os 6 .any (Rows.driverFiltersSpec.pre6 enc Try.prog Try.f6 Rows.driverFiltersRow.domain false) (Rows.driverFiltersSpec.post enc Try.prog Try.f6 false true false false) := by
  refine returnsInHanded_of_change_sized (C := Try.checked) own started (by kernel_rfl) Try.func6
    (ChangeSpec.witness6 (enc := enc) (C := Try.checked) false ⟨#[], #[.slice none 0 0, .agg #[.int .u32 0, .bool false, .bool false, .int .i64 0, .int .u8 0, .int .u8 0, .int .u8 0, .int .u8 0, .int .u8 0, .int .u8 0, .int .u8 0, .int .u8 0]], []⟩ 8 (by kernel_rfl) (by kernel_rfl) (by kernel_rfl) (by kernel_rfl)) ?_
  intro W base args ds gs before hval0 hW hcnd hsz _
  have hval : ∀ (j : Nat) t v, Try.f6.params[j]? = some t → args[j]? = some v → Value.okWide Try.prog W .any base t v := hval0
  have hW' := hW
  obtain ⟨p, q, hA0, hV, rfl, hfz, hnd⟩ := hW
  have hA : DataW.TrodAll enc Try.prog W 0 (fun _ => true) true Try.f6.params.toList args.toList ds p := hA0
  rw [Try.params6] at hA hval hsz
  obtain ⟨v0, vs0, d0, ds0, p0, q0, hargs, rfl, rfl, h0, r0⟩ := trodAll_cons hA
  obtain ⟨v1, vs1, d1, ds1, p1, q1, rfl, rfl, rfl, h1, r1⟩ := trodAll_cons r0
  obtain ⟨rfl, rfl, rfl⟩ := trodAll_nil r1
  obtain rfl : args = #[v0, v1] := by cases args; simp_all
  obtain ⟨rfl, rfl⟩ := trodVars_none hV
  have lt0 : ∀ x ∈ p0, x.block < W.heap.size := by obtain ⟨m, hm⟩ := h0; exact DataW.trod_lt m _ _ _ hm
  obtain ⟨l0, w0, e0⟩ := open_filters (hval 0 22 v0 rfl rfl) h0 lt0
  have z0 := size_filters (j := 0) hsz rfl rfl e0
  have lt1 : ∀ x ∈ p1, x.block < W.heap.size := by obtain ⟨m, hm⟩ := h1; exact DataW.trod_lt m _ _ _ hm
  obtain ⟨a1, rfl⟩ := open_frame (hval 1 45 v1 rfl rfl) h1
  clear hA0 hval0
  refine (dfil_walk v0 l0 a1 W z0 w0).mono fun e W' ⟨he, bel⟩ => ?_
  subst he
  exact ⟨_, rfl, _, _, _, [], _, [], hW', trodAll_mk1 (shut_bool Try.underlying4 _), (trodAll_cons_mk (Below.trod laidOut (by kernel_rfl) (of_decide_eq_true (by kernel_rfl)) h0 bel lt0) (trodAll_cons_mk (Below.trod laidOut (by kernel_rfl) (of_decide_eq_true (by kernel_rfl)) h1 bel lt1) trodAll_mk0)), rfl, bel.frame _, fun h => by cases h⟩

theorem driverFilters_holds : Rows.DriverFiltersSaid :=
  OpenClaim.holds_of_wide 6 Try.f6 rfl rfl rfl rfl rfl rfl rfl ⟨rfl, rfl, rfl, rfl, rfl⟩ rfl rfl rfl rfl rfl (by kernel_rfl) Try.func6 (by kernel_rfl)
    (of_decide_eq_true (by kernel_rfl)) (by unfold Func.isWrapper; first | (rw [if_pos (by decide +kernel)]; kernel_rfl) | (rw [if_neg (by decide +kernel)]; exact ⟨rfl, rfl⟩))
    (fun os started H enc _ => driverFilters_lifted os started H enc)
end Go.Proofs.Ytnciecjebgpfpaa
