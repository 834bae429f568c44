/- Send of the driver. New of the driver, without filters. Next of the driver; Passes without filters. Take of the driver, without filters, while there is room. -/
import Derived.Test.YtfddoindcmdooaaUc1
import Derived.Deep.Cut
import Derived.Deep.CutRange
namespace Go.Proofs.Ytfddoindcmdooaa
open Go.RowKit Go.Proofs.Bits
set_option linter.unusedVariables false
set_option maxRecDepth 1000000
set_option linter.unusedSimpArgs false

def dA (bx : Int) (v : Value) (tk rm : Int) (vc : Value) (lo : Int) (vf : Value) : Array Value := #[.int .i64 bx, v, .int .i64 tk, .int .i64 rm, vc, .int .i64 lo, vf]
theorem Fa.range5 {q : Nat} {f : Fr} {w : World} (h : Fa q f w) : w.rangeAt q 0 f.cells := by
  intro j u hj
  rw [Lib.cell_of_heap h, Nat.zero_add]
  simpa [Fr.arr] using hj
theorem load_int (x : World) (D k : Nat) (z : Int) (hc : x.cell? ⟨D, k, none⟩ = some (.int .i64 z)) : (loadVar 3 ⟨D, k, none⟩).run Try.prog x = .ok (.int .i64 z) x := by
  simp [go_sem, run_underlying Try.underlying3, hc]
theorem Fa.below5 {q : Nat} {f : Fr} {w x : World} (h : Fa q f w) (hb : Below w.heap.size w x) : Fa q f x := (hb.block q (Array.getElem?_eq_some_iff.1 h).1).trans h
theorem ml_arr (g : Fr) (fld : List UInt8) (z : Int) : (Ml.mk g fld z).arr = g.arr ++ #[.string ⟨fld.toArray⟩, .int .i64 z] := by
  unfold Ml.arr Ml.cells Fr.arr; simp
theorem build_ml (g : Fr) (s : ByteArray) (z : Int) (x : World) : (Instr.build 73 #[(0, .agg g.arr), (1, .string s), (2, .int .i64 z)]).run Try.prog x = .ok (.agg (g.arr ++ #[.string s, .int .i64 z])) x := by
  obtain ⟨i, e, r, n, d0, d1, d2, d3, d4, d5, d6, d7, he⟩ := arr_full g
  rw [he]
  kernel_rfl
theorem exec_build {a : Act} {o : Oper} {x y t : Operand} {g : Fr} {fld : List UInt8} {z : Int} (ho : o.op = .build 73 #[(0, x), (1, y), (2, t)]) (hx : a.eval x = .agg g.arr) (hy : a.eval y = .string ⟨fld.toArray⟩) (hz : a.eval t = .int .i64 z) (w : World) :
    (execOp a.eval o).run Try.prog w = .ok (.value (.agg (Ml.mk g fld z).arr)) w := by
  unfold execOp
  simp only [ho, List.map_toArray, List.map_cons, List.map_nil, hx, hy, hz, Sem.run_bind, build_ml, ml_arr]
  rfl
theorem enterP : ∀ args x, (callFunc 31 args).run Try.prog x = .ok (.enter 31 args) x := fun _ _ => by rfl
theorem enterH : ∀ args x, (callFunc 30 args).run Try.prog x = .ok (.enter 30 args) x := fun _ _ => by rfl
theorem wp_call_fn {o : Oper} {a : Act} {w : World} {K : Act → World → Prop} {Q : Exit → Act → World → Prop} (g : Nat) (args : Array Value) (hr : (execOp a.eval o).run Try.prog w = .ok (.enter g args) w)
    (h : Calls Try.prog g args w fun
      | .returned v, w'' => K (a.put o.dst v) w''
      | .panicked chain, w'' => Q (.panic chain) a w''
      | .outgrown, _ => LetsOut Q) : o.wp Try.prog a w K Q := by
  unfold Oper.wp
  rw [hr]
  exact h
set_option maxHeartbeats 2000000 in
theorem Send_ok {w : World} {B D : Nat} {v vc vf : Value} {ms : List Ml} {bx tk rm lo : Int} (f : Fr) (hA : Dr D (dA bx v tk rm vc lo vf) w) (h : Mb w B v ms) (hB : B ≤ w.heap.size) (hf : f.chk = 0) (hms : (ms.length : Int) < bx) (hbx : bx ≤ 64) (ht0 : 0 ≤ tk) (ht1 : tk < 4611686018427387904) :
    Calls Try.prog 13 #[.pointer (some ⟨D, 0, none⟩), f.val] w fun e w' => e = .returned (.tuple #[.int .i64 (tk + 1), .int .i64 0]) ∧ ∃ v', Dr D (dA bx v' (tk + 1) rm vc lo vf) w' ∧ Mb w' B v' (upF (ms ++ [⟨f.plain, f.field, tk + 1⟩]) ms.length) ∧ Kd D B w w' := by
  obtain ⟨wa, hwa⟩ : ∃ wa, w.alloc (.cells f.arr 45) = wa := ⟨_, rfl⟩
  have ba : Below w.heap.size w wa := by rw [← hwa]; exact (Below.refl _ _).alloc (Nat.le_refl _) _
  have fa : Fa w.heap.size f wa := by rw [← hwa]; exact Fa.new w f
  have hFi := fField_any f wa
  have HV : Hid (fldV f = f.field) := by show _ = _; unfold fldV; rw [if_pos hf]
  rw [HV.out, hf] at hFi
  obtain ⟨q, hq⟩ : ∃ q, w.heap.size = q := ⟨_, rfl⟩
  have lD : D < q := by rw [← hq]; exact (Array.getElem?_eq_some_iff.1 hA).1
  obtain ⟨ao, cap, rfl⟩ := own_shape5 h
  rw [hq] at fa ba
  unfold Fr.val at *
  go_enter Try.func13, Try.ntmps13
  go_wp2_with (refine fa.ld rfl _ rfl rfl ?_)
  refine hFi.mono ?_
  rintro e w2 ⟨rfl, b2⟩
  have f2 := fa.below5 b2
  have B2 : Below w.heap.size w w2 := by rw [hq]; exact ba.trans (b2.mono (by rw [← hwa, size_alloc]; omega))
  have A2 : Dr D _ w2 := (B2.block D (by omega)).trans hA
  have M2 : Mb w2 B (.slice ao ms.length cap) ms := own_below5 h B2
  have c0 := A2.cell (k := 0) (v := .int .i64 bx) rfl
  have c1 := A2.cell (k := 1) (v := .slice ao ms.length cap) rfl
  have c2 := A2.cell (k := 2) (v := .int .i64 tk) rfl
  have hfr := A2.free 2
  have hne : ((ms.length : Int) == bx) = false := by rw [beq_eq_false_iff_ne]; omega
  clear hFi fa
  go_wp2_with fail
  go_quiet (fail)
  go_upto_region 7 with fail
  have A3 : Dr D (dA bx (.slice ao ms.length cap) (tk + 1) rm vc lo vf) ((w2.drewN nq).setCell ⟨D, 2, none⟩ (.int .i64 (tk + 1))) := by
    have := (show Dr D (dA bx (.slice ao ms.length cap) tk rm vc lo vf) (w2.drewN nq) from A2).set 2 (.int .i64 (tk + 1))
    exact this
  have K3 : Kd D B w ((w2.drewN nq).setCell ⟨D, 2, none⟩ (.int .i64 (tk + 1))) := (Kd.below (below_drawn B2 nq)).trans (Kd.set _ 2 _)
  have M3 : Mb ((w2.drewN nq).setCell ⟨D, 2, none⟩ (.int .i64 (tk + 1))) B (.slice ao ms.length cap) ms := Mb.setD (D := D) (A := dA bx (.slice ao ms.length cap) tk rm vc lo vf) (show Mb (w2.drewN nq) B (.slice ao ms.length cap) ms from M2) A2 2 _
  have f3 : Fa q f ((w2.drewN nq).setCell ⟨D, 2, none⟩ (.int .i64 (tk + 1))) := (Below.heap_setCell (w2.drewN nq) ⟨D, 2, none⟩ _ q (by show q ≠ D; omega)).trans f2
  have s3 : B ≤ ((w2.drewN nq).setCell ⟨D, 2, none⟩ (.int .i64 (tk + 1))).heap.size := Nat.le_trans hB K3.size
  generalize (w2.drewN nq).setCell ⟨D, 2, none⟩ (.int .i64 (tk + 1)) = w3 at *
  refine wp_region_any (by kernel_rfl) ?_
  obtain ⟨w4, hw4⟩ : ∃ x : World, { w3 with drawn := w3.drawn + 1 } = x := ⟨_, rfl⟩
  rw [hw4]
  have b4 : Below w3.heap.size w3 w4 := by rw [← hw4]; exact below_drawn (Below.refl _ _) 1
  have HW : Hid (∀ x, Below w4.heap.size w4 x → Dr D (dA bx (.slice ao ms.length cap) (tk + 1) rm vc lo vf) x ∧ Mb x B (.slice ao ms.length cap) ms ∧ Fa q f x ∧ Kd D B w x ∧ B ≤ x.heap.size) := fun x hx => by
    have b5 : Below w3.heap.size w3 x := b4.trans (hx.mono b4.size)
    exact ⟨(b5.block D (Array.getElem?_eq_some_iff.1 A3).1).trans A3, own_below5 M3 b5, f3.below5 b5, K3.trans (Kd.below b5), Nat.le_trans s3 b5.size⟩
  have HPu : Hid (∀ x, Below w4.heap.size w4 x → Calls Try.prog 30 #[.iface 71 (.pointer (some ⟨D, 1, none⟩)), .iface 73 (.agg (Ml.mk f.plain f.field (tk + 1)).arr)] x fun e w' => e = .returned (.tuple #[]) ∧ ∃ v', Dr D (dA bx v' (tk + 1) rm vc lo vf) w' ∧ Mb w' B v' (upF (ms ++ [⟨f.plain, f.field, tk + 1⟩]) ms.length) ∧ Kd D B w w') := fun x hx => by
    obtain ⟨h1, h2, h3, h4, h5⟩ := HW.out x hx
    refine (hPush_any ⟨f.plain, f.field, tk + 1⟩ h1 (v := .slice ao ms.length cap) rfl h2 h5 (by omega)).mono ?_
    rintro e w' ⟨rfl, v', d1, d2, d3⟩
    exact ⟨rfl, v', d1, d2, h4.trans d3⟩
  have HPl : Hid (∀ x, Calls Try.prog 31 #[.agg f.arr] x fun e w' => e = .returned (.agg f.plain.arr) ∧ Below x.heap.size x w') := fun x => fPlain_any f x
  clear A2 M2 f2 B2 A3 K3 M3 f3 s3 b2 ba c0 c1 c2 hfr
  refine wpAny_take (i := 0) (v := (.pointer (some ⟨D, 0, none⟩))) rfl (by kernel_rfl) (by kernel_rfl) (by kernel_rfl) (fun _ _ _ h => h) (.inl ⟨rfl, fun _ => rfl⟩) ?_
  simp only [List.getElem_toArray, List.getElem_cons_succ, List.getElem_cons_zero, Act.put, List.setIfInBounds_toArray, List.set_cons_succ, List.set_cons_zero]
  refine wpAny_take (i := 1) (v := (.pointer (some ⟨D, 0, none⟩))) rfl (by kernel_rfl) (by kernel_rfl) (by kernel_rfl) (fun _ _ _ h => h) (.inl ⟨rfl, fun _ => by simp [execOp, go_sem, Act.eval]⟩) ?_
  simp only [List.getElem_toArray, List.getElem_cons_succ, List.getElem_cons_zero, Act.put, List.setIfInBounds_toArray, List.set_cons_succ, List.set_cons_zero]
  refine wpAny_take (i := 2) (v := (.pointer (some ⟨D, 1, none⟩))) rfl (by kernel_rfl) (by kernel_rfl) (by kernel_rfl) (fun _ _ _ h => h) (.inl ⟨rfl, fun _ => by simp [execOp, go_sem, Act.eval]⟩) ?_
  simp only [List.getElem_toArray, List.getElem_cons_succ, List.getElem_cons_zero, Act.put, List.setIfInBounds_toArray, List.set_cons_succ, List.set_cons_zero]
  refine wpAny_take (i := 3) (v := (.iface 71 (.pointer (some ⟨D, 1, none⟩)))) rfl (by kernel_rfl) (by kernel_rfl) (by kernel_rfl) (fun _ _ _ h => h) (.inl ⟨rfl, fun _ => by simp [execOp, go_sem, Act.eval]⟩) ?_
  simp only [List.getElem_toArray, List.getElem_cons_succ, List.getElem_cons_zero, Act.put, List.setIfInBounds_toArray, List.set_cons_succ, List.set_cons_zero]
  refine wpAny_take (i := 6) (v := (.string ⟨f.field.toArray⟩)) rfl (by kernel_rfl) (by kernel_rfl) (by kernel_rfl) (fun _ _ _ h => h) (.inl ⟨rfl, fun _ => rfl⟩) ?_
  simp only [List.getElem_toArray, List.getElem_cons_succ, List.getElem_cons_zero, Act.put, List.setIfInBounds_toArray, List.set_cons_succ, List.set_cons_zero]
  refine wpAny_take (i := 7) (v := (.pointer (some ⟨D, 0, none⟩))) rfl (by kernel_rfl) (by kernel_rfl) (by kernel_rfl) (fun _ _ _ h => h) (.inl ⟨rfl, fun _ => rfl⟩) ?_
  simp only [List.getElem_toArray, List.getElem_cons_succ, List.getElem_cons_zero, Act.put, List.setIfInBounds_toArray, List.set_cons_succ, List.set_cons_zero]
  refine wpAny_take (i := 8) (v := (.pointer (some ⟨D, 0, none⟩))) rfl (by kernel_rfl) (by kernel_rfl) (by kernel_rfl) (fun _ _ _ h => h) (.inl ⟨rfl, fun _ => by simp [execOp, go_sem, Act.eval]⟩) ?_
  simp only [List.getElem_toArray, List.getElem_cons_succ, List.getElem_cons_zero, Act.put, List.setIfInBounds_toArray, List.set_cons_succ, List.set_cons_zero]
  refine wpAny_take (i := 9) (v := (.pointer (some ⟨D, 2, none⟩))) rfl (by kernel_rfl) (by kernel_rfl) (by kernel_rfl) (fun _ _ _ h => h) (.inl ⟨rfl, fun _ => by simp [execOp, go_sem, Act.eval]⟩) ?_
  simp only [List.getElem_toArray, List.getElem_cons_succ, List.getElem_cons_zero, Act.put, List.setIfInBounds_toArray, List.set_cons_succ, List.set_cons_zero]
  refine wpAny_all (rs := [4, 10]) (by kernel_rfl) (by simp) ?_
  intro k hk
  simp only [List.mem_cons, List.mem_nil_iff, or_false] at hk
  rcases hk with rfl | rfl
  · refine wpOp_run rfl rfl (wp_load_mid 45 _ rfl q 0 rfl f.cells _ (HW.out w4 (Below.refl _ _)).2.2.1.range5 Try.underlying45 rfl (by rw [infoF]; simp [Fr.cells, f.hdata]) ?_)
    simp only [List.getElem_toArray, List.getElem_cons_succ, List.getElem_cons_zero, Act.put, List.setIfInBounds_toArray, List.set_cons_succ, List.set_cons_zero]
    refine wpAny_all (rs := [5, 10]) (by kernel_rfl) (by simp) ?_
    intro k hk
    simp only [List.mem_cons, List.mem_nil_iff, or_false] at hk
    rcases hk with rfl | rfl
    · refine wpOp_run rfl rfl (wp_call_fn 31 #[.agg f.arr] (by simp [execOp, go_sem, Act.eval, resolve, invoke, enterP]; rfl) ((HPl.out w4).mono ?_))
      rintro e x5 ⟨rfl, b5⟩
      simp only [List.getElem_toArray, List.getElem_cons_succ, List.getElem_cons_zero, Act.put, List.setIfInBounds_toArray, List.set_cons_succ, List.set_cons_zero]
      refine wpAny_all (rs := [10]) (by kernel_rfl) (by simp) ?_
      intro k hk
      simp only [List.mem_cons, List.mem_nil_iff, or_false] at hk
      subst hk
      refine wpOp_run rfl rfl (wp_load_cell 3 _ rfl D 2 rfl (.int .i64 (tk + 1)) (load_int x5 D 2 _ ((HW.out x5 b5).1.cell rfl)) ?_)
      simp only [List.getElem_toArray, List.getElem_cons_succ, List.getElem_cons_zero, Act.put, List.setIfInBounds_toArray, List.set_cons_succ, List.set_cons_zero]
      refine wpAny_take (i := 11) (v := (.agg (Ml.mk f.plain f.field (tk + 1)).arr)) rfl (by kernel_rfl) (by kernel_rfl) (by kernel_rfl) (fun _ _ _ h => h) (.inl ⟨rfl, fun w => exec_build rfl rfl rfl rfl w⟩) ?_
      simp only [List.getElem_toArray, List.getElem_cons_succ, List.getElem_cons_zero, Act.put, List.setIfInBounds_toArray, List.set_cons_succ, List.set_cons_zero]
      refine wpAny_take (i := 12) (v := (.iface 73 (.agg (Ml.mk f.plain f.field (tk + 1)).arr))) rfl (by kernel_rfl) (by kernel_rfl) (by kernel_rfl) (fun _ _ _ h => h) (.inl ⟨rfl, fun _ => by simp [execOp, go_sem, Act.eval]⟩) ?_
      simp only [List.getElem_toArray, List.getElem_cons_succ, List.getElem_cons_zero, Act.put, List.setIfInBounds_toArray, List.set_cons_succ, List.set_cons_zero]
      refine wpAny_all (rs := [13]) (by kernel_rfl) (by simp) ?_
      intro k hk
      simp only [List.mem_cons, List.mem_nil_iff, or_false] at hk
      subst hk
      refine wpOp_run rfl rfl (wp_call_fn 30 #[.iface 71 (.pointer (some ⟨D, 1, none⟩)), .iface 73 (.agg (Ml.mk f.plain f.field (tk + 1)).arr)] (by simp [execOp, go_sem, Act.eval, resolve, invoke, enterH]) ((HPu.out x5 b5).mono ?_))
      rintro e x6 ⟨rfl, v', d1, d2, d3⟩
      simp only [List.getElem_toArray, List.getElem_cons_succ, List.getElem_cons_zero, Act.put, List.setIfInBounds_toArray, List.set_cons_succ, List.set_cons_zero]
      refine wpAny_done (by kernel_rfl) ?_ _
      have c2 := d1.cell (k := 2) (v := .int .i64 (tk + 1)) rfl
      have HX : Hid _ := (⟨d1, d2, d3⟩ : _ ∧ _ ∧ _)
      clear d1 d2 d3 HPu HPl HW
      go_wp2
      go_ret2
      exact ⟨rfl, v', HX.out⟩
    · refine wpOp_run rfl rfl (wp_load_cell 3 _ rfl D 2 rfl (.int .i64 (tk + 1)) (load_int w4 D 2 _ ((HW.out w4 (Below.refl _ _)).1.cell rfl)) ?_)
      simp only [List.getElem_toArray, List.getElem_cons_succ, List.getElem_cons_zero, Act.put, List.setIfInBounds_toArray, List.set_cons_succ, List.set_cons_zero]
      refine wpAny_all (rs := [5]) (by kernel_rfl) (by simp) ?_
      intro k hk
      simp only [List.mem_cons, List.mem_nil_iff, or_false] at hk
      subst hk
      refine wpOp_run rfl rfl (wp_call_fn 31 #[.agg f.arr] (by simp [execOp, go_sem, Act.eval, resolve, invoke, enterP]; rfl) ((HPl.out w4).mono ?_))
      rintro e x5 ⟨rfl, b5⟩
      simp only [List.getElem_toArray, List.getElem_cons_succ, List.getElem_cons_zero, Act.put, List.setIfInBounds_toArray, List.set_cons_succ, List.set_cons_zero]
      refine wpAny_take (i := 11) (v := (.agg (Ml.mk f.plain f.field (tk + 1)).arr)) rfl (by kernel_rfl) (by kernel_rfl) (by kernel_rfl) (fun _ _ _ h => h) (.inl ⟨rfl, fun w => exec_build rfl rfl rfl rfl w⟩) ?_
      simp only [List.getElem_toArray, List.getElem_cons_succ, List.getElem_cons_zero, Act.put, List.setIfInBounds_toArray, List.set_cons_succ, List.set_cons_zero]
      refine wpAny_take (i := 12) (v := (.iface 73 (.agg (Ml.mk f.plain f.field (tk + 1)).arr))) rfl (by kernel_rfl) (by kernel_rfl) (by kernel_rfl) (fun _ _ _ h => h) (.inl ⟨rfl, fun _ => by simp [execOp, go_sem, Act.eval]⟩) ?_
      simp only [List.getElem_toArray, List.getElem_cons_succ, List.getElem_cons_zero, Act.put, List.setIfInBounds_toArray, List.set_cons_succ, List.set_cons_zero]
      refine wpAny_all (rs := [13]) (by kernel_rfl) (by simp) ?_
      intro k hk
      simp only [List.mem_cons, List.mem_nil_iff, or_false] at hk
      subst hk
      refine wpOp_run rfl rfl (wp_call_fn 30 #[.iface 71 (.pointer (some ⟨D, 1, none⟩)), .iface 73 (.agg (Ml.mk f.plain f.field (tk + 1)).arr)] (by simp [execOp, go_sem, Act.eval, resolve, invoke, enterH]) ((HPu.out x5 b5).mono ?_))
      rintro e x6 ⟨rfl, v', d1, d2, d3⟩
      simp only [List.getElem_toArray, List.getElem_cons_succ, List.getElem_cons_zero, Act.put, List.setIfInBounds_toArray, List.set_cons_succ, List.set_cons_zero]
      refine wpAny_done (by kernel_rfl) ?_ _
      have c2 := d1.cell (k := 2) (v := .int .i64 (tk + 1)) rfl
      have HX : Hid _ := (⟨d1, d2, d3⟩ : _ ∧ _ ∧ _)
      clear d1 d2 d3 HPu HPl HW
      go_wp2
      go_ret2
      exact ⟨rfl, v', HX.out⟩
  · refine wpOp_run rfl rfl (wp_load_cell 3 _ rfl D 2 rfl (.int .i64 (tk + 1)) (load_int w4 D 2 _ ((HW.out w4 (Below.refl _ _)).1.cell rfl)) ?_)
    simp only [List.getElem_toArray, List.getElem_cons_succ, List.getElem_cons_zero, Act.put, List.setIfInBounds_toArray, List.set_cons_succ, List.set_cons_zero]
    refine wpAny_all (rs := [4]) (by kernel_rfl) (by simp) ?_
    intro k hk
    simp only [List.mem_cons, List.mem_nil_iff, or_false] at hk
    subst hk
    refine wpOp_run rfl rfl (wp_load_mid 45 _ rfl q 0 rfl f.cells _ (HW.out w4 (Below.refl _ _)).2.2.1.range5 Try.underlying45 rfl (by rw [infoF]; simp [Fr.cells, f.hdata]) ?_)
    simp only [List.getElem_toArray, List.getElem_cons_succ, List.getElem_cons_zero, Act.put, List.setIfInBounds_toArray, List.set_cons_succ, List.set_cons_zero]
    refine wpAny_all (rs := [5]) (by kernel_rfl) (by simp) ?_
    intro k hk
    simp only [List.mem_cons, List.mem_nil_iff, or_false] at hk
    subst hk
    refine wpOp_run rfl rfl (wp_call_fn 31 #[.agg f.arr] (by simp [execOp, go_sem, Act.eval, resolve, invoke, enterP]; rfl) ((HPl.out w4).mono ?_))
    rintro e x5 ⟨rfl, b5⟩
    simp only [List.getElem_toArray, List.getElem_cons_succ, List.getElem_cons_zero, Act.put, List.setIfInBounds_toArray, List.set_cons_succ, List.set_cons_zero]
    refine wpAny_take (i := 11) (v := (.agg (Ml.mk f.plain f.field (tk + 1)).arr)) rfl (by kernel_rfl) (by kernel_rfl) (by kernel_rfl) (fun _ _ _ h => h) (.inl ⟨rfl, fun w => exec_build rfl rfl rfl rfl w⟩) ?_
    simp only [List.getElem_toArray, List.getElem_cons_succ, List.getElem_cons_zero, Act.put, List.setIfInBounds_toArray, List.set_cons_succ, List.set_cons_zero]
    refine wpAny_take (i := 12) (v := (.iface 73 (.agg (Ml.mk f.plain f.field (tk + 1)).arr))) rfl (by kernel_rfl) (by kernel_rfl) (by kernel_rfl) (fun _ _ _ h => h) (.inl ⟨rfl, fun _ => by simp [execOp, go_sem, Act.eval]⟩) ?_
    simp only [List.getElem_toArray, List.getElem_cons_succ, List.getElem_cons_zero, Act.put, List.setIfInBounds_toArray, List.set_cons_succ, List.set_cons_zero]
    refine wpAny_all (rs := [13]) (by kernel_rfl) (by simp) ?_
    intro k hk
    simp only [List.mem_cons, List.mem_nil_iff, or_false] at hk
    subst hk
    refine wpOp_run rfl rfl (wp_call_fn 30 #[.iface 71 (.pointer (some ⟨D, 1, none⟩)), .iface 73 (.agg (Ml.mk f.plain f.field (tk + 1)).arr)] (by simp [execOp, go_sem, Act.eval, resolve, invoke, enterH]) ((HPu.out x5 b5).mono ?_))
    rintro e x6 ⟨rfl, v', d1, d2, d3⟩
    simp only [List.getElem_toArray, List.getElem_cons_succ, List.getElem_cons_zero, Act.put, List.setIfInBounds_toArray, List.set_cons_succ, List.set_cons_zero]
    refine wpAny_done (by kernel_rfl) ?_ _
    have c2 := d1.cell (k := 2) (v := .int .i64 (tk + 1)) rfl
    have HX : Hid _ := (⟨d1, d2, d3⟩ : _ ∧ _ ∧ _)
    clear d1 d2 d3 HPu HPl HW
    go_wp2
    go_ret2
    exact ⟨rfl, v', HX.out⟩
end Go.Proofs.Ytfddoindcmdooaa
namespace Go.Proofs.Ytfddoindcmdooaa
open Go.RowKit Go.Proofs.Bits
set_option linter.unusedVariables false
set_option maxRecDepth 1000000
set_option linter.unusedSimpArgs false

theorem fits_ok (z : Int) (h1 : 1 ≤ z) (h2 : z ≤ 64) (w : World) : Calls Try.prog 21 #[.int .i64 z] w fun e w' => e = .returned (.bool true) ∧ w' = w := by
  have d1 : decide (1 ≤ z) = true := by simpa using h1
  have d2 : decide (z ≤ 64) = true := by simpa using h2
  go_enter Try.func21, Try.ntmps21
  go_wp2
  go_ret
  exact ⟨rfl, rfl⟩
theorem infoFf : (Try.prog.info? 86).map (fun i => (i.zero, i.size, i.bytes)) = some (some .nilFunc, 1, 8) := by kernel_rfl
set_option maxHeartbeats 1000000 in
theorem filtersOf_nil (w : World) : Calls Try.prog 22 #[.slice none 0 0] w fun e w' => (∃ ao cap, e = .returned (.slice ao 0 cap)) ∧ Below w.heap.size w w' := by
  have hm : ∀ x, (Instr.makeSlice 63 (.int .i64 0) (.int .i64 0)).run Try.prog x = .ok (.slice (some ⟨x.heap.size, 0, none⟩) 0 0) (x.alloc (.cells (madeCells #[.nilFunc] 0) 86)) := fun x => run_make_row' (P := Try.prog) 63 86 .nilFunc 8 Try.underlying63 infoFf rfl .i64 .i64 0 (by omega) (by omega) x
  go_enter Try.func22, Try.ntmps22
  go_wp2
  go_loopw [11] (fun i x => i = .int .i64 0 ∧ Below w.heap.size w x) (fun _ _ => 0)
  case atStart => exact ⟨rfl, (Below.refl _ _).alloc (Nat.le_refl _) _⟩
  case round =>
    obtain ⟨rfl, B1⟩ := hrel
    go_wp2
    go_ret
    exact ⟨⟨_, _, rfl⟩, B1⟩
set_option maxHeartbeats 1000000 in
theorem New_nil (bx rm : Int) (h1 : 1 ≤ bx) (h2 : bx ≤ 64) (h3 : 1 ≤ rm) (h4 : rm ≤ 64) (w : World) :
    Calls Try.prog 7 #[.int .i64 bx, .int .i64 rm, .slice none 0 0] w fun e w' => ∃ D ao cap, e = .returned (.tuple #[.pointer (some ⟨D, 0, none⟩), .int .i64 0]) ∧ w.heap.size ≤ D ∧ Dr D (dA bx (.slice none 0 0) 0 rm (.slice none 0 0) 0 (.slice ao 0 cap)) w' ∧ Below w.heap.size w w' := by
  have hF1 := fits_ok bx h1 h2 w
  have hF2 := fits_ok rm h3 h4 w
  have hFi := filtersOf_nil w
  go_enter Try.func7, Try.ntmps7
  go_wp2_with fail
  refine hF1.mono ?_
  rintro e w1 ⟨rfl, rfl⟩
  clear hF1
  go_wp2_with fail
  refine hF2.mono ?_
  rintro e w2 ⟨rfl, rfl⟩
  clear hF2
  go_wp2_with fail
  refine hFi.mono ?_
  rintro e w3 ⟨⟨ao, cap, rfl⟩, b3⟩
  have HX : Hid (Dr w3.heap.size (dA bx (.slice none 0 0) 0 rm (.slice none 0 0) 0 (.slice ao 0 cap)) (w3.alloc (.cells (dA bx (.slice none 0 0) 0 rm (.slice none 0 0) 0 (.slice ao 0 cap)) 68))) := heap_alloc_new w3 _
  have HB : Hid (∀ o, Below _ _ (w3.alloc o)) := fun o => b3.alloc b3.size o
  have hs := b3.size
  clear hFi b3
  go_wp2
  go_ret2
  exact ⟨w3.heap.size, ao, cap, rfl, hs, HX.out, HB.out _⟩
end Go.Proofs.Ytfddoindcmdooaa
namespace Go.Proofs.Ytfddoindcmdooaa
open Go.RowKit Go.Proofs.Bits
set_option linter.unusedVariables false
set_option maxRecDepth 1000000
set_option linter.unusedSimpArgs false

theorem load_fa (x : World) (q : Nat) (f : Fr) (h : Fa q f x) : (loadVar 45 ⟨q, 0, none⟩).run Try.prog x = .ok (.agg f.arr) x :=
  run_loadVar_mid (P := Try.prog) x q 0 45 f.cells _ h.range5 Try.underlying45 rfl (by rw [infoF]; simp [Fr.cells, f.hdata])
theorem ml_fr {w : World} {b o : Nat} {m : Ml} (h : w.rangeAt b o m.cells) : w.rangeAt b o m.f.cells := fun j u hj => h j u (by
  unfold Ml.cells
  rw [List.getElem?_append_left (List.getElem?_eq_some_iff.1 hj).1]
  exact hj)
theorem fld_ld5 {w : World} {ops : Array Oper} {rest : List Oper} {p : Oper} {a : Act} {Q : Exit → Act → World → Prop} {b o : Nat} {f : Fr} (h : w.rangeAt b o f.cells) (hgd : p.guard = none) (x : Operand) (ho : p.op = .load 45 x) (hx : a.eval x = .pointer (some ⟨b, o, none⟩))
    (hh : wpList Try.prog ops Q rest (a.put p.dst (.agg f.arr)) w) : wpList Try.prog ops Q (p :: rest) a w :=
  wpList_load_mid hgd 45 x ho b o hx f.cells _ h Try.underlying45 rfl (by rw [infoF]; simp [Fr.cells, f.hdata]) hh
set_option maxHeartbeats 1000000 in
theorem Next_some {w : World} {B D : Nat} {v vc vf : Value} {ms : List Ml} {bx tk rm lo : Int} (hA : Dr D (dA bx v tk rm vc lo vf) w) (h : Mb w B v ms) (hl : 0 < ms.length) :
    Calls Try.prog 14 #[.pointer (some ⟨D, 0, none⟩)] w fun e w' => e = .returned (.tuple #[ms[0].f.val, .bool true]) ∧ Below w.heap.size w w' := by
  obtain ⟨wa, hwa⟩ : ∃ wa, w.alloc (.cells Fr.nul.arr 45) = wa := ⟨_, rfl⟩
  have ba : Below w.heap.size w wa := by rw [← hwa]; exact (Below.refl _ _).alloc (Nat.le_refl _) _
  have fa : Fa w.heap.size Fr.nul wa := by rw [← hwa]; exact Fa.new w Fr.nul
  have A2 : Dr D _ wa := (ba.block D (Array.getElem?_eq_some_iff.1 hA).1).trans hA
  obtain ⟨ao, cap, rfl, hc⟩ := h.at
  obtain ⟨b, rfl, hb, R1, _, _⟩ := hc 0 hl
  have c1 := A2.cell (k := 1) (v := .slice (some ⟨b, 0, none⟩) ms.length cap) rfl
  have R2 : wa.rangeAt b 0 ms[0].f.cells := fun j u hj => (ba.cell (p := ⟨b, 0 + j, none⟩) hb).trans (by have := ml_fr R1 j u hj; rw [Nat.zero_mul] at this; exact this)
  have hne : ((ms.length : Int) == 0) = false := by rw [beq_eq_false_iff_ne]; omega
  have fb := fa.row ms[0].f
  obtain ⟨q, hq⟩ : ∃ q, w.heap.size = q := ⟨_, rfl⟩
  rw [hq] at fa fb
  have hld := load_fa _ q _ fb
  have HB : Hid (Below w.heap.size w (wa.setRow q ms[0].f.arr)) := by
    show Below _ _ _
    have := below_row ba (q := q) (by omega) (by have := (Array.getElem?_eq_some_iff.1 fa).1; omega) ms[0].f.arr
    exact this
  have hle : (0 : Int) < (ms.length : Int) := by omega
  have hwa2 : w.alloc (.cells #[.int .u32 0, .bool false, .bool false, .int .i64 0, .int .u8 0, .int .u8 0, .int .u8 0, .int .u8 0, .int .u8 0, .int .u8 0, .int .u8 0, .int .u8 0] 45) = wa := hwa
  unfold Fr.val
  generalize ms[0].f = f at *
  clear hwa hc h hA A2 ba R1 fb
  go_enter Try.func14, Try.ntmps14
  go_upto_region 3 with fail
  go_wp2_with (first | refine fld_ld5 R2 rfl _ rfl rfl ?_ | refine fa.sd f rfl _ _ rfl rfl rfl ?_)
  exact bodyPost_ret (v := .tuple #[.agg f.arr, .bool true]) (by simp [results, Try.results14, asAddr, hld]) rfl ⟨rfl, HB.out⟩
set_option maxHeartbeats 1000000 in
theorem Passes_nil {w : World} {D : Nat} {v vc : Value} {ao : Option Addr} {cap : Nat} {bx tk rm lo : Int} (f : Fr) (hA : Dr D (dA bx v tk rm vc lo (.slice ao 0 cap)) w) :
    Calls Try.prog 19 #[.pointer (some ⟨D, 0, none⟩), f.val] w fun e w' => e = .returned (.bool (f.chk == 0)) ∧ Below w.heap.size w w' := by
  obtain ⟨wa, hwa⟩ : ∃ wa, w.alloc (.cells f.arr 45) = wa := ⟨_, rfl⟩
  have ba : Below w.heap.size w wa := by rw [← hwa]; exact (Below.refl _ _).alloc (Nat.le_refl _) _
  have fa : Fa w.heap.size f wa := by rw [← hwa]; exact Fa.new w f
  have hC := fCheck_any f wa
  have HV : Hid (∀ z, f.chk = z → (f.chk == 0) = (z == 0)) := fun z h => by rw [h]
  obtain ⟨q, hq⟩ : ∃ q, w.heap.size = q := ⟨_, rfl⟩
  have lD : D < q := by rw [← hq]; exact (Array.getElem?_eq_some_iff.1 hA).1
  have sa : w.heap.size ≤ wa.heap.size := ba.size
  rw [hq] at fa
  unfold Fr.val at *
  generalize f.chk = z at *
  by_cases hz : z = 0
  · have d1 : (z != 0) = false := by simpa using hz
    have HE : Hid ((z == 0) = true) := by show _ = _; simpa using hz
    clear HV hz
    go_enter Try.func19, Try.ntmps19
    go_upto_region 1 with fail
    go_wp2_with (refine fa.ld rfl _ rfl rfl ?_)
    refine hC.mono ?_
    rintro e w2 ⟨rfl, b2⟩
    have B2 : Below w.heap.size w w2 := ba.trans (b2.mono sa)
    have A2 : Dr D _ w2 := (B2.block D (by omega)).trans hA
    have c6 := A2.cell (k := 6) (v := .slice ao 0 cap) rfl
    clear hC A2 fa
    go_wp2
    go_ret
    exact ⟨ret_bool HE.out.symm, B2⟩
  · have d1 : (z != 0) = true := by simpa using hz
    have HE : Hid ((z == 0) = false) := by show _ = _; simpa using hz
    clear HV hz
    go_enter Try.func19, Try.ntmps19
    go_upto_region 1 with fail
    go_wp2_with (refine fa.ld rfl _ rfl rfl ?_)
    refine hC.mono ?_
    rintro e w2 ⟨rfl, b2⟩
    have B2 : Below w.heap.size w w2 := ba.trans (b2.mono sa)
    clear hC fa
    go_wp2
    go_ret
    exact ⟨ret_bool HE.out.symm, B2⟩
end Go.Proofs.Ytfddoindcmdooaa
namespace Go.Proofs.Ytfddoindcmdooaa
open Go.RowKit Go.Proofs.Bits
set_option linter.unusedVariables false
set_option maxRecDepth 1000000
set_option linter.unusedSimpArgs false

theorem load_frs (x : World) (D k : Nat) (ao : Option Addr) (l c : Nat) (hc : x.cell? ⟨D, k, none⟩ = some (.slice ao l c)) : (loadVar 37 ⟨D, k, none⟩).run Try.prog x = .ok (.slice ao l c) x := by
  simp [go_sem, run_underlying Try.underlying37, hc]
theorem store_frs (x : World) (D k : Nat) (u : Value) (ao : Option Addr) (l c : Nat) (hc : x.cell? ⟨D, k, none⟩ = some u) (hf : x.frozen? ⟨D, k, none⟩ = false) : (storeVar 37 ⟨D, k, none⟩ (.slice ao l c)).run Try.prog x = .ok () (x.setCell ⟨D, k, none⟩ (.slice ao l c)) := by
  simp [go_sem, run_underlying Try.underlying37, hc, hf]
theorem fill_fr (g : Fr) : Instr.fill (fun i => some (i * 12, 12)) ((Array.range (1 * 12)).map ((Value.agg Fr.nul.arr).cells[· % (Value.agg Fr.nul.arr).cells.size]!)) [(0, .agg g.arr)] = some g.arr := by
  have hsz : (Value.agg g.arr).cells.size = 12 := by simp [Value.cells, g.arr_size]
  have := Go.Great.fill_whole (by decide : 0 < 12) [Value.agg g.arr] ((Array.range (1 * 12)).map ((Value.agg Fr.nul.arr).cells[· % (Value.agg Fr.nul.arr).cells.size]!)) (by intro v hv; simp at hv; subst hv; exact hsz) (by simp)
  simpa [Value.cells] using this
theorem news_fr (x : World) (g : Fr) : ∀ j u, g.cells[j]? = some u → (x.alloc (.cells g.arr 45)).cell? ((⟨x.heap.size, 0, none⟩ : Addr).add j) = some u := fun j u hj => by
  rw [Addr.add_mid, Nat.zero_add, Lib.cell_of_heap (heap_alloc_new x _)]
  simpa [Fr.arr] using hj
theorem own_typ {w : World} {B : Nat} {e : TypeId} {c : Nat} {v : Value} {n : Nat} {xs : List Value} (h : w.ownsRow B e c v n xs) {D : Nat} {A : Array Value} (hA : Dr D A w) (he : e ≠ 68) : v.ownBlock ≠ some D := fun hg => by
  rcases h.2 with ⟨rfl, _⟩ | ⟨g', cap, cur, rfl, hB, hcur, _⟩
  · cases hg
  · cases hg
    unfold Dr at hA
    rw [hcur] at hA
    simp at hA
    exact he hA.2
set_option maxHeartbeats 4000000 in
theorem Take_ok {w : World} {B D : Nat} {v vc : Value} {ao : Option Addr} {cap : Nat} {cs : List Fr} {bx tk rm lo : Int} (f : Fr) (hA : Dr D (dA bx v tk rm vc lo (.slice ao 0 cap)) w) (h : w.ownsRow B 45 12 vc cs.length (flatW DF cs)) (hB : B ≤ w.heap.size) (hf : f.chk = 0) (hcs : (cs.length : Int) < rm) (hrm : rm ≤ 64) :
    Calls Try.prog 18 #[.pointer (some ⟨D, 0, none⟩), f.val] w fun e w' => e = .returned (.int .i64 0) ∧ ∃ x vc' w1, Below w.heap.size w x ∧ x.grownBy w1 vc.ownBlock ∧ w1.ownsRow B 45 12 vc' (cs ++ [f.plain]).length (flatW DF (cs ++ [f.plain])) ∧ w' = w1.setCell ⟨D, 4, none⟩ vc' := by
  obtain ⟨wa, hwa⟩ : ∃ wa, w.alloc (.cells f.arr 45) = wa := ⟨_, rfl⟩
  have ba : Below w.heap.size w wa := by rw [← hwa]; exact (Below.refl _ _).alloc (Nat.le_refl _) _
  have fa : Fa w.heap.size f wa := by rw [← hwa]; exact Fa.new w f
  have hC := fCheck_any f wa
  rw [hf] at hC
  have HPs : Hid (∀ x, Below w.heap.size w x → Calls Try.prog 19 #[.pointer (some ⟨D, 0, none⟩), .agg f.arr] x fun e w' => e = .returned (.bool true) ∧ Below x.heap.size x w') := fun x hx => by
    have := Passes_nil f (show Dr D (dA bx v tk rm vc lo (.slice ao 0 cap)) x from (hx.block D (Array.getElem?_eq_some_iff.1 hA).1).trans hA)
    rw [hf] at this
    exact this
  obtain ⟨q, hq⟩ : ∃ q, w.heap.size = q := ⟨_, rfl⟩
  have lD : D < q := by rw [← hq]; exact (Array.getElem?_eq_some_iff.1 hA).1
  have sa : w.heap.size ≤ wa.heap.size := ba.size
  rw [hq] at fa
  obtain ⟨ac, cc, rfl⟩ := own_shape5 h
  unfold Fr.val at *
  go_enter Try.func18, Try.ntmps18
  go_upto_region 1 with fail
  go_wp2_with (refine fa.ld rfl _ rfl rfl ?_)
  refine hC.mono ?_
  rintro e w2 ⟨rfl, b2⟩
  have B2 : Below w.heap.size w w2 := ba.trans (b2.mono sa)
  have f2 := fa.below5 b2
  have hPs := HPs.out w2 B2
  clear hC fa HPs
  go_upto_region 4 with fail
  go_wp2_with (refine f2.ld rfl _ rfl rfl ?_)
  refine hPs.mono ?_
  rintro e w3 ⟨rfl, b3⟩
  have B3 : Below w.heap.size w w3 := B2.trans (b3.mono B2.size)
  have f3 := f2.below5 b3
  have A3 : Dr D (dA bx v tk rm (.slice ac cs.length cc) lo (.slice ao 0 cap)) w3 := (B3.block D (by omega)).trans hA
  have c3 := A3.cell (k := 3) (v := .int .i64 rm) rfl
  have c4 := A3.cell (k := 4) (v := .slice ac cs.length cc) rfl
  have hne : ((cs.length : Int) == rm) = false := by rw [beq_eq_false_iff_ne]; omega
  clear hPs f2 b2
  go_wp2_with fail
  go_quiet (fail)
  go_upto_region 9 with fail
  have B4 : Below w.heap.size w (w3.drewN nq) := below_drawn B3 nq
  have f4 : Fa q f (w3.drewN nq) := f3
  generalize w3.drewN nq = wb at *
  refine wp_region_any (by kernel_rfl) ?_
  obtain ⟨w4, hw4⟩ : ∃ x : World, { wb with drawn := wb.drawn + 1 } = x := ⟨_, rfl⟩
  rw [hw4]
  have b4 : Below wb.heap.size wb w4 := by rw [← hw4]; exact below_drawn (Below.refl _ _) 1
  have HW : Hid (∀ x, Below w4.heap.size w4 x → Dr D (dA bx v tk rm (.slice ac cs.length cc) lo (.slice ao 0 cap)) x ∧ x.ownsRow B 45 12 (.slice ac cs.length cc) cs.length (flatW DF cs) ∧ Fa q f x ∧ Below w.heap.size w x) := fun x hx => by
    have b5 : Below wb.heap.size wb x := b4.trans (hx.mono b4.size)
    have B5 : Below w.heap.size w x := B4.trans (b5.mono B4.size)
    exact ⟨(B5.block D (by omega)).trans hA, own_below5 h B5, f4.below5 b5, B5⟩
  have HF : Hid (∀ x, Below w4.heap.size w4 x → ∀ v' w1, w1.ownsRow B 45 12 v' (cs.length + 1) (flatW DF cs ++ f.plain.cells) → x.grownBy w1 (Value.slice ac cs.length cc).ownBlock → w1.cell? ⟨D, 4, none⟩ = some (.slice ac cs.length cc) ∧ w1.frozen? ⟨D, 4, none⟩ = false ∧ Below w.heap.size w x ∧ x.grownBy w1 (Value.slice ac cs.length cc).ownBlock ∧ w1.ownsRow B 45 12 v' (cs ++ [f.plain]).length (flatW DF (cs ++ [f.plain]))) := fun x hx v' w1 o1 g1 => by
    obtain ⟨a1, a2, a3, a4⟩ := HW.out x hx
    have A1 : Dr D _ w1 := (g1.block D (Array.getElem?_eq_some_iff.1 a1).1 (fun e => (own_typ a2 a1 (by decide)) e.symm)).trans a1
    refine ⟨A1.cell rfl, A1.free 4, a4, g1, ?_⟩
    rw [List.length_append, flatW_append]
    simpa [flatW, DF] using o1
  have HPl : Hid (∀ x, Calls Try.prog 31 #[.agg f.arr] x fun e w' => e = .returned (.agg f.plain.arr) ∧ Below x.heap.size x w') := fun x => fPlain_any f x
  obtain ⟨i0, hi0, hz0, hz1, hz2⟩ := info_parts infoFZ
  clear A3 B3 f3 b3 c3 c4 ba f4 B4 B2
  refine wpAny_take (i := 0) (v := (.pointer (some ⟨D, 0, none⟩))) rfl (by kernel_rfl) (by kernel_rfl) (by kernel_rfl) (fun _ _ _ h => h) (.inl ⟨rfl, fun _ => rfl⟩) ?_
  simp only [List.getElem_toArray, List.getElem_cons_succ, List.getElem_cons_zero, Act.put, List.setIfInBounds_toArray, List.set_cons_succ, List.set_cons_zero]
  refine wpAny_take (i := 1) (v := (.pointer (some ⟨D, 0, none⟩))) rfl (by kernel_rfl) (by kernel_rfl) (by kernel_rfl) (fun _ _ _ h => h) (.inl ⟨rfl, fun _ => rfl⟩) ?_
  simp only [List.getElem_toArray, List.getElem_cons_succ, List.getElem_cons_zero, Act.put, List.setIfInBounds_toArray, List.set_cons_succ, List.set_cons_zero]
  refine wpAny_take (i := 2) (v := (.pointer (some ⟨D, 0, none⟩))) rfl (by kernel_rfl) (by kernel_rfl) (by kernel_rfl) (fun _ _ _ h => h) (.inl ⟨rfl, fun _ => by simp [execOp, go_sem, Act.eval]⟩) ?_
  simp only [List.getElem_toArray, List.getElem_cons_succ, List.getElem_cons_zero, Act.put, List.setIfInBounds_toArray, List.set_cons_succ, List.set_cons_zero]
  refine wpAny_take (i := 3) (v := (.pointer (some ⟨D, 4, none⟩))) rfl (by kernel_rfl) (by kernel_rfl) (by kernel_rfl) (fun _ _ _ h => h) (.inl ⟨rfl, fun _ => by simp [execOp, go_sem, Act.eval]⟩) ?_
  simp only [List.getElem_toArray, List.getElem_cons_succ, List.getElem_cons_zero, Act.put, List.setIfInBounds_toArray, List.set_cons_succ, List.set_cons_zero]
  refine wpAny_all (rs := [4, 5]) (by kernel_rfl) (by simp) ?_
  intro k hk
  simp only [List.mem_cons, List.mem_nil_iff, or_false] at hk
  rcases hk with rfl | rfl
  · refine wpOp_run rfl rfl (wp_load_cell 37 _ rfl D 4 rfl (.slice ac cs.length cc) (load_frs w4 D 4 ac _ _ ((HW.out w4 (Below.refl _ _)).1.cell rfl)) ?_)
    simp only [List.getElem_toArray, List.getElem_cons_succ, List.getElem_cons_zero, Act.put, List.setIfInBounds_toArray, List.set_cons_succ, List.set_cons_zero]
    refine wpAny_all (rs := [5]) (by kernel_rfl) (by simp) ?_
    intro k hk
    simp only [List.mem_cons, List.mem_nil_iff, or_false] at hk
    subst hk
    refine wpOp_run rfl rfl (wp_load_mid 45 _ rfl q 0 rfl f.cells _ (HW.out w4 (Below.refl _ _)).2.2.1.range5 Try.underlying45 rfl (by rw [infoF]; simp [Fr.cells, f.hdata]) ?_)
    simp only [List.getElem_toArray, List.getElem_cons_succ, List.getElem_cons_zero, Act.put, List.setIfInBounds_toArray, List.set_cons_succ, List.set_cons_zero]
    refine wpAny_all (rs := [6]) (by kernel_rfl) (by simp) ?_
    intro k hk
    simp only [List.mem_cons, List.mem_nil_iff, or_false] at hk
    subst hk
    refine wpOp_run rfl rfl (wp_call_fn 31 #[.agg f.arr] (by simp [execOp, go_sem, Act.eval, resolve, invoke, enterP]; rfl) ((HPl.out w4).mono ?_))
    rintro e x5 ⟨rfl, b5⟩
    simp only [List.getElem_toArray, List.getElem_cons_succ, List.getElem_cons_zero, Act.put, List.setIfInBounds_toArray, List.set_cons_succ, List.set_cons_zero]
    refine wpAny_all (rs := [7]) (by kernel_rfl) (by simp) ?_
    intro k hk
    simp only [List.mem_cons, List.mem_nil_iff, or_false] at hk
    subst hk
    refine wpOp_run rfl rfl (wp_buildSlice 37 45 1 _ rfl f.plain.arr i0 _ Try.underlying37 hi0 hz0 (by rw [hz1]; omega) (by rw [hz1]; omega) (by rw [hz1]; simp only [List.map_toArray, List.map_cons, List.map_nil]; exact fill_fr f.plain) ?_)
    simp only [List.getElem_toArray, List.getElem_cons_succ, List.getElem_cons_zero, Act.put, List.setIfInBounds_toArray, List.set_cons_succ, List.set_cons_zero]
    refine wpAny_all (rs := [8]) (by kernel_rfl) (by simp) ?_
    intro k hk
    simp only [List.mem_cons, List.mem_nil_iff, or_false] at hk
    subst hk
    refine wpOp_run rfl rfl (wp_append_own _ _ _ 37 rfl B 45 i0 _ 12 24 Try.underlying37 hi0 hz0 hz1 hz2 rfl (by omega) _ cs.length (flatW DF cs) rfl (HW.out (x5.alloc (.cells f.plain.arr 45)) (b5.trans (((Below.refl _ x5).alloc (Nat.le_refl _) (.cells f.plain.arr 45)).mono b5.size))).2.1 ⟨x5.heap.size, 0, none⟩ 1 1 f.plain.cells rfl (by simp [Fr.cells, f.plain.hdata]) (news_fr x5 f.plain) (DF.one f.plain) (by unfold maxLen; omega) (by omega) (Nat.le_trans hB (HW.out (x5.alloc (.cells f.plain.arr 45)) (b5.trans (((Below.refl _ x5).alloc (Nat.le_refl _) (.cells f.plain.arr 45)).mono b5.size))).2.2.2.size) ?_)
    intro v' w1 o1 g1 _
    simp only [List.getElem_toArray, List.getElem_cons_succ, List.getElem_cons_zero, Act.put, List.setIfInBounds_toArray, List.set_cons_succ, List.set_cons_zero]
    have HX := HF.out (x5.alloc (.cells f.plain.arr 45)) (b5.trans (((Below.refl _ x5).alloc (Nat.le_refl _) (.cells f.plain.arr 45)).mono b5.size)) v' w1 o1 g1
    obtain ⟨ao', cap', rfl⟩ := own_shape5 o1
    refine wpAny_take (i := 9) (v := (.pointer (some ⟨D, 0, none⟩))) rfl (by kernel_rfl) (by kernel_rfl) (by kernel_rfl) (fun _ _ _ h => h) (.inl ⟨rfl, fun _ => by simp [execOp, go_sem, Act.eval]⟩) ?_
    simp only [List.getElem_toArray, List.getElem_cons_succ, List.getElem_cons_zero, Act.put, List.setIfInBounds_toArray, List.set_cons_succ, List.set_cons_zero]
    refine wpAny_take (i := 10) (v := (.pointer (some ⟨D, 4, none⟩))) rfl (by kernel_rfl) (by kernel_rfl) (by kernel_rfl) (fun _ _ _ h => h) (.inl ⟨rfl, fun _ => by simp [execOp, go_sem, Act.eval]⟩) ?_
    simp only [List.getElem_toArray, List.getElem_cons_succ, List.getElem_cons_zero, Act.put, List.setIfInBounds_toArray, List.set_cons_succ, List.set_cons_zero]
    refine wpAny_all (rs := [11]) (by kernel_rfl) (by simp) ?_
    intro k hk
    simp only [List.mem_cons, List.mem_nil_iff, or_false] at hk
    subst hk
    refine wpOp_run rfl rfl (wp_store_cell 37 _ _ rfl D 4 rfl _ rfl (store_frs w1 D 4 _ ao' _ cap' HX.1 HX.2.1) ?_)
    simp only [List.getElem_toArray, List.getElem_cons_succ, List.getElem_cons_zero, Act.put, List.setIfInBounds_toArray, List.set_cons_succ, List.set_cons_zero]
    refine wpAny_done (by kernel_rfl) ?_ _
    have HZ : Hid _ := HX.2.2
    clear HX o1 g1 HF HPl HW
    go_wp2
    go_ret
    exact ⟨rfl, _, _, w1, HZ.out.1, HZ.out.2.1, HZ.out.2.2, rfl⟩
  · refine wpOp_run rfl rfl (wp_load_mid 45 _ rfl q 0 rfl f.cells _ (HW.out w4 (Below.refl _ _)).2.2.1.range5 Try.underlying45 rfl (by rw [infoF]; simp [Fr.cells, f.hdata]) ?_)
    simp only [List.getElem_toArray, List.getElem_cons_succ, List.getElem_cons_zero, Act.put, List.setIfInBounds_toArray, List.set_cons_succ, List.set_cons_zero]
    refine wpAny_all (rs := [4, 6]) (by kernel_rfl) (by simp) ?_
    intro k hk
    simp only [List.mem_cons, List.mem_nil_iff, or_false] at hk
    rcases hk with rfl | rfl
    · refine wpOp_run rfl rfl (wp_load_cell 37 _ rfl D 4 rfl (.slice ac cs.length cc) (load_frs w4 D 4 ac _ _ ((HW.out w4 (Below.refl _ _)).1.cell rfl)) ?_)
      simp only [List.getElem_toArray, List.getElem_cons_succ, List.getElem_cons_zero, Act.put, List.setIfInBounds_toArray, List.set_cons_succ, List.set_cons_zero]
      refine wpAny_all (rs := [6]) (by kernel_rfl) (by simp) ?_
      intro k hk
      simp only [List.mem_cons, List.mem_nil_iff, or_false] at hk
      subst hk
      refine wpOp_run rfl rfl (wp_call_fn 31 #[.agg f.arr] (by simp [execOp, go_sem, Act.eval, resolve, invoke, enterP]; rfl) ((HPl.out w4).mono ?_))
      rintro e x5 ⟨rfl, b5⟩
      simp only [List.getElem_toArray, List.getElem_cons_succ, List.getElem_cons_zero, Act.put, List.setIfInBounds_toArray, List.set_cons_succ, List.set_cons_zero]
      refine wpAny_all (rs := [7]) (by kernel_rfl) (by simp) ?_
      intro k hk
      simp only [List.mem_cons, List.mem_nil_iff, or_false] at hk
      subst hk
      refine wpOp_run rfl rfl (wp_buildSlice 37 45 1 _ rfl f.plain.arr i0 _ Try.underlying37 hi0 hz0 (by rw [hz1]; omega) (by rw [hz1]; omega) (by rw [hz1]; simp only [List.map_toArray, List.map_cons, List.map_nil]; exact fill_fr f.plain) ?_)
      simp only [List.getElem_toArray, List.getElem_cons_succ, List.getElem_cons_zero, Act.put, List.setIfInBounds_toArray, List.set_cons_succ, List.set_cons_zero]
      refine wpAny_all (rs := [8]) (by kernel_rfl) (by simp) ?_
      intro k hk
      simp only [List.mem_cons, List.mem_nil_iff, or_false] at hk
      subst hk
      refine wpOp_run rfl rfl (wp_append_own _ _ _ 37 rfl B 45 i0 _ 12 24 Try.underlying37 hi0 hz0 hz1 hz2 rfl (by omega) _ cs.length (flatW DF cs) rfl (HW.out (x5.alloc (.cells f.plain.arr 45)) (b5.trans (((Below.refl _ x5).alloc (Nat.le_refl _) (.cells f.plain.arr 45)).mono b5.size))).2.1 ⟨x5.heap.size, 0, none⟩ 1 1 f.plain.cells rfl (by simp [Fr.cells, f.plain.hdata]) (news_fr x5 f.plain) (DF.one f.plain) (by unfold maxLen; omega) (by omega) (Nat.le_trans hB (HW.out (x5.alloc (.cells f.plain.arr 45)) (b5.trans (((Below.refl _ x5).alloc (Nat.le_refl _) (.cells f.plain.arr 45)).mono b5.size))).2.2.2.size) ?_)
      intro v' w1 o1 g1 _
      simp only [List.getElem_toArray, List.getElem_cons_succ, List.getElem_cons_zero, Act.put, List.setIfInBounds_toArray, List.set_cons_succ, List.set_cons_zero]
      have HX := HF.out (x5.alloc (.cells f.plain.arr 45)) (b5.trans (((Below.refl _ x5).alloc (Nat.le_refl _) (.cells f.plain.arr 45)).mono b5.size)) v' w1 o1 g1
      obtain ⟨ao', cap', rfl⟩ := own_shape5 o1
      refine wpAny_take (i := 9) (v := (.pointer (some ⟨D, 0, none⟩))) rfl (by kernel_rfl) (by kernel_rfl) (by kernel_rfl) (fun _ _ _ h => h) (.inl ⟨rfl, fun _ => by simp [execOp, go_sem, Act.eval]⟩) ?_
      simp only [List.getElem_toArray, List.getElem_cons_succ, List.getElem_cons_zero, Act.put, List.setIfInBounds_toArray, List.set_cons_succ, List.set_cons_zero]
      refine wpAny_take (i := 10) (v := (.pointer (some ⟨D, 4, none⟩))) rfl (by kernel_rfl) (by kernel_rfl) (by kernel_rfl) (fun _ _ _ h => h) (.inl ⟨rfl, fun _ => by simp [execOp, go_sem, Act.eval]⟩) ?_
      simp only [List.getElem_toArray, List.getElem_cons_succ, List.getElem_cons_zero, Act.put, List.setIfInBounds_toArray, List.set_cons_succ, List.set_cons_zero]
      refine wpAny_all (rs := [11]) (by kernel_rfl) (by simp) ?_
      intro k hk
      simp only [List.mem_cons, List.mem_nil_iff, or_false] at hk
      subst hk
      refine wpOp_run rfl rfl (wp_store_cell 37 _ _ rfl D 4 rfl _ rfl (store_frs w1 D 4 _ ao' _ cap' HX.1 HX.2.1) ?_)
      simp only [List.getElem_toArray, List.getElem_cons_succ, List.getElem_cons_zero, Act.put, List.setIfInBounds_toArray, List.set_cons_succ, List.set_cons_zero]
      refine wpAny_done (by kernel_rfl) ?_ _
      have HZ : Hid _ := HX.2.2
      clear HX o1 g1 HF HPl HW
      go_wp2
      go_ret
      exact ⟨rfl, _, _, w1, HZ.out.1, HZ.out.2.1, HZ.out.2.2, rfl⟩
    · refine wpOp_run rfl rfl (wp_call_fn 31 #[.agg f.arr] (by simp [execOp, go_sem, Act.eval, resolve, invoke, enterP]; rfl) ((HPl.out w4).mono ?_))
      rintro e x5 ⟨rfl, b5⟩
      simp only [List.getElem_toArray, List.getElem_cons_succ, List.getElem_cons_zero, Act.put, List.setIfInBounds_toArray, List.set_cons_succ, List.set_cons_zero]
      refine wpAny_all (rs := [4, 7]) (by kernel_rfl) (by simp) ?_
      intro k hk
      simp only [List.mem_cons, List.mem_nil_iff, or_false] at hk
      rcases hk with rfl | rfl
      · refine wpOp_run rfl rfl (wp_load_cell 37 _ rfl D 4 rfl (.slice ac cs.length cc) (load_frs x5 D 4 ac _ _ ((HW.out x5 b5).1.cell rfl)) ?_)
        simp only [List.getElem_toArray, List.getElem_cons_succ, List.getElem_cons_zero, Act.put, List.setIfInBounds_toArray, List.set_cons_succ, List.set_cons_zero]
        refine wpAny_all (rs := [7]) (by kernel_rfl) (by simp) ?_
        intro k hk
        simp only [List.mem_cons, List.mem_nil_iff, or_false] at hk
        subst hk
        refine wpOp_run rfl rfl (wp_buildSlice 37 45 1 _ rfl f.plain.arr i0 _ Try.underlying37 hi0 hz0 (by rw [hz1]; omega) (by rw [hz1]; omega) (by rw [hz1]; simp only [List.map_toArray, List.map_cons, List.map_nil]; exact fill_fr f.plain) ?_)
        simp only [List.getElem_toArray, List.getElem_cons_succ, List.getElem_cons_zero, Act.put, List.setIfInBounds_toArray, List.set_cons_succ, List.set_cons_zero]
        refine wpAny_all (rs := [8]) (by kernel_rfl) (by simp) ?_
        intro k hk
        simp only [List.mem_cons, List.mem_nil_iff, or_false] at hk
        subst hk
        refine wpOp_run rfl rfl (wp_append_own _ _ _ 37 rfl B 45 i0 _ 12 24 Try.underlying37 hi0 hz0 hz1 hz2 rfl (by omega) _ cs.length (flatW DF cs) rfl (HW.out (x5.alloc (.cells f.plain.arr 45)) (b5.trans (((Below.refl _ x5).alloc (Nat.le_refl _) (.cells f.plain.arr 45)).mono b5.size))).2.1 ⟨x5.heap.size, 0, none⟩ 1 1 f.plain.cells rfl (by simp [Fr.cells, f.plain.hdata]) (news_fr x5 f.plain) (DF.one f.plain) (by unfold maxLen; omega) (by omega) (Nat.le_trans hB (HW.out (x5.alloc (.cells f.plain.arr 45)) (b5.trans (((Below.refl _ x5).alloc (Nat.le_refl _) (.cells f.plain.arr 45)).mono b5.size))).2.2.2.size) ?_)
        intro v' w1 o1 g1 _
        simp only [List.getElem_toArray, List.getElem_cons_succ, List.getElem_cons_zero, Act.put, List.setIfInBounds_toArray, List.set_cons_succ, List.set_cons_zero]
        have HX := HF.out (x5.alloc (.cells f.plain.arr 45)) (b5.trans (((Below.refl _ x5).alloc (Nat.le_refl _) (.cells f.plain.arr 45)).mono b5.size)) v' w1 o1 g1
        obtain ⟨ao', cap', rfl⟩ := own_shape5 o1
        refine wpAny_take (i := 9) (v := (.pointer (some ⟨D, 0, none⟩))) rfl (by kernel_rfl) (by kernel_rfl) (by kernel_rfl) (fun _ _ _ h => h) (.inl ⟨rfl, fun _ => by simp [execOp, go_sem, Act.eval]⟩) ?_
        simp only [List.getElem_toArray, List.getElem_cons_succ, List.getElem_cons_zero, Act.put, List.setIfInBounds_toArray, List.set_cons_succ, List.set_cons_zero]
        refine wpAny_take (i := 10) (v := (.pointer (some ⟨D, 4, none⟩))) rfl (by kernel_rfl) (by kernel_rfl) (by kernel_rfl) (fun _ _ _ h => h) (.inl ⟨rfl, fun _ => by simp [execOp, go_sem, Act.eval]⟩) ?_
        simp only [List.getElem_toArray, List.getElem_cons_succ, List.getElem_cons_zero, Act.put, List.setIfInBounds_toArray, List.set_cons_succ, List.set_cons_zero]
        refine wpAny_all (rs := [11]) (by kernel_rfl) (by simp) ?_
        intro k hk
        simp only [List.mem_cons, List.mem_nil_iff, or_false] at hk
        subst hk
        refine wpOp_run rfl rfl (wp_store_cell 37 _ _ rfl D 4 rfl _ rfl (store_frs w1 D 4 _ ao' _ cap' HX.1 HX.2.1) ?_)
        simp only [List.getElem_toArray, List.getElem_cons_succ, List.getElem_cons_zero, Act.put, List.setIfInBounds_toArray, List.set_cons_succ, List.set_cons_zero]
        refine wpAny_done (by kernel_rfl) ?_ _
        have HZ : Hid _ := HX.2.2
        clear HX o1 g1 HF HPl HW
        go_wp2
        go_ret
        exact ⟨rfl, _, _, w1, HZ.out.1, HZ.out.2.1, HZ.out.2.2, rfl⟩
      · refine wpOp_run rfl rfl (wp_buildSlice 37 45 1 _ rfl f.plain.arr i0 _ Try.underlying37 hi0 hz0 (by rw [hz1]; omega) (by rw [hz1]; omega) (by rw [hz1]; simp only [List.map_toArray, List.map_cons, List.map_nil]; exact fill_fr f.plain) ?_)
        simp only [List.getElem_toArray, List.getElem_cons_succ, List.getElem_cons_zero, Act.put, List.setIfInBounds_toArray, List.set_cons_succ, List.set_cons_zero]
        refine wpAny_all (rs := [4]) (by kernel_rfl) (by simp) ?_
        intro k hk
        simp only [List.mem_cons, List.mem_nil_iff, or_false] at hk
        subst hk
        refine wpOp_run rfl rfl (wp_load_cell 37 _ rfl D 4 rfl (.slice ac cs.length cc) (load_frs (x5.alloc (.cells f.plain.arr 45)) D 4 ac _ _ ((HW.out (x5.alloc (.cells f.plain.arr 45)) (b5.trans (((Below.refl _ x5).alloc (Nat.le_refl _) (.cells f.plain.arr 45)).mono b5.size))).1.cell rfl)) ?_)
        simp only [List.getElem_toArray, List.getElem_cons_succ, List.getElem_cons_zero, Act.put, List.setIfInBounds_toArray, List.set_cons_succ, List.set_cons_zero]
        refine wpAny_all (rs := [8]) (by kernel_rfl) (by simp) ?_
        intro k hk
        simp only [List.mem_cons, List.mem_nil_iff, or_false] at hk
        subst hk
        refine wpOp_run rfl rfl (wp_append_own _ _ _ 37 rfl B 45 i0 _ 12 24 Try.underlying37 hi0 hz0 hz1 hz2 rfl (by omega) _ cs.length (flatW DF cs) rfl (HW.out (x5.alloc (.cells f.plain.arr 45)) (b5.trans (((Below.refl _ x5).alloc (Nat.le_refl _) (.cells f.plain.arr 45)).mono b5.size))).2.1 ⟨x5.heap.size, 0, none⟩ 1 1 f.plain.cells rfl (by simp [Fr.cells, f.plain.hdata]) (news_fr x5 f.plain) (DF.one f.plain) (by unfold maxLen; omega) (by omega) (Nat.le_trans hB (HW.out (x5.alloc (.cells f.plain.arr 45)) (b5.trans (((Below.refl _ x5).alloc (Nat.le_refl _) (.cells f.plain.arr 45)).mono b5.size))).2.2.2.size) ?_)
        intro v' w1 o1 g1 _
        simp only [List.getElem_toArray, List.getElem_cons_succ, List.getElem_cons_zero, Act.put, List.setIfInBounds_toArray, List.set_cons_succ, List.set_cons_zero]
        have HX := HF.out (x5.alloc (.cells f.plain.arr 45)) (b5.trans (((Below.refl _ x5).alloc (Nat.le_refl _) (.cells f.plain.arr 45)).mono b5.size)) v' w1 o1 g1
        obtain ⟨ao', cap', rfl⟩ := own_shape5 o1
        refine wpAny_take (i := 9) (v := (.pointer (some ⟨D, 0, none⟩))) rfl (by kernel_rfl) (by kernel_rfl) (by kernel_rfl) (fun _ _ _ h => h) (.inl ⟨rfl, fun _ => by simp [execOp, go_sem, Act.eval]⟩) ?_
        simp only [List.getElem_toArray, List.getElem_cons_succ, List.getElem_cons_zero, Act.put, List.setIfInBounds_toArray, List.set_cons_succ, List.set_cons_zero]
        refine wpAny_take (i := 10) (v := (.pointer (some ⟨D, 4, none⟩))) rfl (by kernel_rfl) (by kernel_rfl) (by kernel_rfl) (fun _ _ _ h => h) (.inl ⟨rfl, fun _ => by simp [execOp, go_sem, Act.eval]⟩) ?_
        simp only [List.getElem_toArray, List.getElem_cons_succ, List.getElem_cons_zero, Act.put, List.setIfInBounds_toArray, List.set_cons_succ, List.set_cons_zero]
        refine wpAny_all (rs := [11]) (by kernel_rfl) (by simp) ?_
        intro k hk
        simp only [List.mem_cons, List.mem_nil_iff, or_false] at hk
        subst hk
        refine wpOp_run rfl rfl (wp_store_cell 37 _ _ rfl D 4 rfl _ rfl (store_frs w1 D 4 _ ao' _ cap' HX.1 HX.2.1) ?_)
        simp only [List.getElem_toArray, List.getElem_cons_succ, List.getElem_cons_zero, Act.put, List.setIfInBounds_toArray, List.set_cons_succ, List.set_cons_zero]
        refine wpAny_done (by kernel_rfl) ?_ _
        have HZ : Hid _ := HX.2.2
        clear HX o1 g1 HF HPl HW
        go_wp2
        go_ret
        exact ⟨rfl, _, _, w1, HZ.out.1, HZ.out.2.1, HZ.out.2.2, rfl⟩
end Go.Proofs.Ytfddoindcmdooaa
