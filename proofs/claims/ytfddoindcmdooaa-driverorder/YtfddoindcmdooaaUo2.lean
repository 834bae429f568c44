/- Send of the driver. Pop of the mailboxes. The heap's down. The heap's Pop; Done. -/
import Derived.Test.YtfddoindcmdooaaUo1
import Derived.Deep.Cut
import Derived.Deep.CutRange
namespace Go.Proofs.Ytfddoindcmdooaa
open Go.RowKit Go.Proofs.Bits
set_option linter.unusedVariables false
set_option maxRecDepth 1000000
set_option linter.unusedSimpArgs false

def dA (bx : Int) (v : Value) (tk rm : Int) (vc : Value) (lo : Int) (vf : Value) : Array Value := #[.int .i64 bx, v, .int .i64 tk, .int .i64 rm, vc, .int .i64 lo, vf]
theorem Fa.range5 {q : Nat} {f : Fr} {w : World} (h : Fa q f w) : w.rangeAt q 0 f.cells := by
  intro j u hj
  rw [Lib.cell_of_heap h, Nat.zero_add]
  simpa [Fr.arr] using hj
theorem load_int (x : World) (D k : Nat) (z : Int) (hc : x.cell? ⟨D, k, none⟩ = some (.int .i64 z)) : (loadVar 3 ⟨D, k, none⟩).run Try.prog x = .ok (.int .i64 z) x := by
  simp [go_sem, run_underlying Try.underlying3, hc]
theorem Fa.below5 {q : Nat} {f : Fr} {w x : World} (h : Fa q f w) (hb : Below w.heap.size w x) : Fa q f x := (hb.block q (Array.getElem?_eq_some_iff.1 h).1).trans h
theorem ml_arr (g : Fr) (fld : List UInt8) (z : Int) : (Ml.mk g fld z).arr = g.arr ++ #[.string ⟨fld.toArray⟩, .int .i64 z] := by
  unfold Ml.arr Ml.cells Fr.arr; simp
theorem build_ml (g : Fr) (s : ByteArray) (z : Int) (x : World) : (Instr.build 73 #[(0, .agg g.arr), (1, .string s), (2, .int .i64 z)]).run Try.prog x = .ok (.agg (g.arr ++ #[.string s, .int .i64 z])) x := by
  obtain ⟨i, e, r, n, d0, d1, d2, d3, d4, d5, d6, d7, he⟩ := arr_full g
  rw [he]
  kernel_rfl
theorem exec_build {a : Act} {o : Oper} {x y t : Operand} {g : Fr} {fld : List UInt8} {z : Int} (ho : o.op = .build 73 #[(0, x), (1, y), (2, t)]) (hx : a.eval x = .agg g.arr) (hy : a.eval y = .string ⟨fld.toArray⟩) (hz : a.eval t = .int .i64 z) (w : World) :
    (execOp a.eval o).run Try.prog w = .ok (.value (.agg (Ml.mk g fld z).arr)) w := by
  unfold execOp
  simp only [ho, List.map_toArray, List.map_cons, List.map_nil, hx, hy, hz, Sem.run_bind, build_ml, ml_arr]
  rfl
theorem enterP : ∀ args x, (callFunc 31 args).run Try.prog x = .ok (.enter 31 args) x := fun _ _ => by rfl
theorem enterH : ∀ args x, (callFunc 30 args).run Try.prog x = .ok (.enter 30 args) x := fun _ _ => by rfl
theorem wp_call_fn {o : Oper} {a : Act} {w : World} {K : Act → World → Prop} {Q : Exit → Act → World → Prop} (g : Nat) (args : Array Value) (hr : (execOp a.eval o).run Try.prog w = .ok (.enter g args) w)
    (h : Calls Try.prog g args w fun
      | .returned v, w'' => K (a.put o.dst v) w''
      | .panicked chain, w'' => Q (.panic chain) a w''
      | .outgrown, _ => LetsOut Q) : o.wp Try.prog a w K Q := by
  unfold Oper.wp
  rw [hr]
  exact h
set_option maxHeartbeats 2000000 in
theorem Send_ok {w : World} {B D : Nat} {v vc vf : Value} {ms : List Ml} {bx tk rm lo : Int} (f : Fr) (hA : Dr D (dA bx v tk rm vc lo vf) w) (h : Mb w B v ms) (hB : B ≤ w.heap.size) (hf : f.chk = 0) (hms : (ms.length : Int) < bx) (hbx : bx ≤ 64) (ht0 : 0 ≤ tk) (ht1 : tk < 4611686018427387904) :
    Calls Try.prog 13 #[.pointer (some ⟨D, 0, none⟩), f.val] w fun e w' => e = .returned (.tuple #[.int .i64 (tk + 1), .int .i64 0]) ∧ ∃ v', Dr D (dA bx v' (tk + 1) rm vc lo vf) w' ∧ Mb w' B v' (upF (ms ++ [⟨f.plain, f.field, tk + 1⟩]) ms.length) ∧ Kd D B w w' := by
  obtain ⟨wa, hwa⟩ : ∃ wa, w.alloc (.cells f.arr 45) = wa := ⟨_, rfl⟩
  have ba : Below w.heap.size w wa := by rw [← hwa]; exact (Below.refl _ _).alloc (Nat.le_refl _) _
  have fa : Fa w.heap.size f wa := by rw [← hwa]; exact Fa.new w f
  have hFi := fField_any f wa
  have HV : Hid (fldV f = f.field) := by show _ = _; unfold fldV; rw [if_pos hf]
  rw [HV.out, hf] at hFi
  obtain ⟨q, hq⟩ : ∃ q, w.heap.size = q := ⟨_, rfl⟩
  have lD : D < q := by rw [← hq]; exact (Array.getElem?_eq_some_iff.1 hA).1
  obtain ⟨ao, cap, rfl⟩ := own_shape5 h
  rw [hq] at fa ba
  unfold Fr.val at *
  go_enter Try.func13, Try.ntmps13
  go_wp2_with (refine fa.ld rfl _ rfl rfl ?_)
  refine hFi.mono ?_
  rintro e w2 ⟨rfl, b2⟩
  have f2 := fa.below5 b2
  have B2 : Below w.heap.size w w2 := by rw [hq]; exact ba.trans (b2.mono (by rw [← hwa, size_alloc]; omega))
  have A2 : Dr D _ w2 := (B2.block D (by omega)).trans hA
  have M2 : Mb w2 B (.slice ao ms.length cap) ms := own_below5 h B2
  have c0 := A2.cell (k := 0) (v := .int .i64 bx) rfl
  have c1 := A2.cell (k := 1) (v := .slice ao ms.length cap) rfl
  have c2 := A2.cell (k := 2) (v := .int .i64 tk) rfl
  have hfr := A2.free 2
  have hne : ((ms.length : Int) == bx) = false := by rw [beq_eq_false_iff_ne]; omega
  clear hFi fa
  go_wp2_with fail
  go_quiet (fail)
  go_upto_region 7 with fail
  have A3 : Dr D (dA bx (.slice ao ms.length cap) (tk + 1) rm vc lo vf) ((w2.drewN nq).setCell ⟨D, 2, none⟩ (.int .i64 (tk + 1))) := by
    have := (show Dr D (dA bx (.slice ao ms.length cap) tk rm vc lo vf) (w2.drewN nq) from A2).set 2 (.int .i64 (tk + 1))
    exact this
  have K3 : Kd D B w ((w2.drewN nq).setCell ⟨D, 2, none⟩ (.int .i64 (tk + 1))) := (Kd.below (below_drawn B2 nq)).trans (Kd.set _ 2 _)
  have M3 : Mb ((w2.drewN nq).setCell ⟨D, 2, none⟩ (.int .i64 (tk + 1))) B (.slice ao ms.length cap) ms := Mb.setD (D := D) (A := dA bx (.slice ao ms.length cap) tk rm vc lo vf) (show Mb (w2.drewN nq) B (.slice ao ms.length cap) ms from M2) A2 2 _
  have f3 : Fa q f ((w2.drewN nq).setCell ⟨D, 2, none⟩ (.int .i64 (tk + 1))) := (Below.heap_setCell (w2.drewN nq) ⟨D, 2, none⟩ _ q (by show q ≠ D; omega)).trans f2
  have s3 : B ≤ ((w2.drewN nq).setCell ⟨D, 2, none⟩ (.int .i64 (tk + 1))).heap.size := Nat.le_trans hB K3.size
  generalize (w2.drewN nq).setCell ⟨D, 2, none⟩ (.int .i64 (tk + 1)) = w3 at *
  refine wp_region_any (by kernel_rfl) ?_
  obtain ⟨w4, hw4⟩ : ∃ x : World, { w3 with drawn := w3.drawn + 1 } = x := ⟨_, rfl⟩
  rw [hw4]
  have b4 : Below w3.heap.size w3 w4 := by rw [← hw4]; exact below_drawn (Below.refl _ _) 1
  have HW : Hid (∀ x, Below w4.heap.size w4 x → Dr D (dA bx (.slice ao ms.length cap) (tk + 1) rm vc lo vf) x ∧ Mb x B (.slice ao ms.length cap) ms ∧ Fa q f x ∧ Kd D B w x ∧ B ≤ x.heap.size) := fun x hx => by
    have b5 : Below w3.heap.size w3 x := b4.trans (hx.mono b4.size)
    exact ⟨(b5.block D (Array.getElem?_eq_some_iff.1 A3).1).trans A3, own_below5 M3 b5, f3.below5 b5, K3.trans (Kd.below b5), Nat.le_trans s3 b5.size⟩
  have HPu : Hid (∀ x, Below w4.heap.size w4 x → Calls Try.prog 30 #[.iface 71 (.pointer (some ⟨D, 1, none⟩)), .iface 73 (.agg (Ml.mk f.plain f.field (tk + 1)).arr)] x fun e w' => e = .returned (.tuple #[]) ∧ ∃ v', Dr D (dA bx v' (tk + 1) rm vc lo vf) w' ∧ Mb w' B v' (upF (ms ++ [⟨f.plain, f.field, tk + 1⟩]) ms.length) ∧ Kd D B w w') := fun x hx => by
    obtain ⟨h1, h2, h3, h4, h5⟩ := HW.out x hx
    refine (hPush_any ⟨f.plain, f.field, tk + 1⟩ h1 (v := .slice ao ms.length cap) rfl h2 h5 (by omega)).mono ?_
    rintro e w' ⟨rfl, v', d1, d2, d3⟩
    exact ⟨rfl, v', d1, d2, h4.trans d3⟩
  have HPl : Hid (∀ x, Calls Try.prog 31 #[.agg f.arr] x fun e w' => e = .returned (.agg f.plain.arr) ∧ Below x.heap.size x w') := fun x => fPlain_any f x
  clear A2 M2 f2 B2 A3 K3 M3 f3 s3 b2 ba c0 c1 c2 hfr
  refine wpAny_take (i := 0) (v := (.pointer (some ⟨D, 0, none⟩))) rfl (by kernel_rfl) (by kernel_rfl) (by kernel_rfl) (fun _ _ _ h => h) (.inl ⟨rfl, fun _ => rfl⟩) ?_
  simp only [List.getElem_toArray, List.getElem_cons_succ, List.getElem_cons_zero, Act.put, List.setIfInBounds_toArray, List.set_cons_succ, List.set_cons_zero]
  refine wpAny_take (i := 1) (v := (.pointer (some ⟨D, 0, none⟩))) rfl (by kernel_rfl) (by kernel_rfl) (by kernel_rfl) (fun _ _ _ h => h) (.inl ⟨rfl, fun _ => by simp [execOp, go_sem, Act.eval]⟩) ?_
  simp only [List.getElem_toArray, List.getElem_cons_succ, List.getElem_cons_zero, Act.put, List.setIfInBounds_toArray, List.set_cons_succ, List.set_cons_zero]
  refine wpAny_take (i := 2) (v := (.pointer (some ⟨D, 1, none⟩))) rfl (by kernel_rfl) (by kernel_rfl) (by kernel_rfl) (fun _ _ _ h => h) (.inl ⟨rfl, fun _ => by simp [execOp, go_sem, Act.eval]⟩) ?_
  simp only [List.getElem_toArray, List.getElem_cons_succ, List.getElem_cons_zero, Act.put, List.setIfInBounds_toArray, List.set_cons_succ, List.set_cons_zero]
  refine wpAny_take (i := 3) (v := (.iface 71 (.pointer (some ⟨D, 1, none⟩)))) rfl (by kernel_rfl) (by kernel_rfl) (by kernel_rfl) (fun _ _ _ h => h) (.inl ⟨rfl, fun _ => by simp [execOp, go_sem, Act.eval]⟩) ?_
  simp only [List.getElem_toArray, List.getElem_cons_succ, List.getElem_cons_zero, Act.put, List.setIfInBounds_toArray, List.set_cons_succ, List.set_cons_zero]
  refine wpAny_take (i := 6) (v := (.string ⟨f.field.toArray⟩)) rfl (by kernel_rfl) (by kernel_rfl) (by kernel_rfl) (fun _ _ _ h => h) (.inl ⟨rfl, fun _ => rfl⟩) ?_
  simp only [List.getElem_toArray, List.getElem_cons_succ, List.getElem_cons_zero, Act.put, List.setIfInBounds_toArray, List.set_cons_succ, List.set_cons_zero]
  refine wpAny_take (i := 7) (v := (.pointer (some ⟨D, 0, none⟩))) rfl (by kernel_rfl) (by kernel_rfl) (by kernel_rfl) (fun _ _ _ h => h) (.inl ⟨rfl, fun _ => rfl⟩) ?_
  simp only [List.getElem_toArray, List.getElem_cons_succ, List.getElem_cons_zero, Act.put, List.setIfInBounds_toArray, List.set_cons_succ, List.set_cons_zero]
  refine wpAny_take (i := 8) (v := (.pointer (some ⟨D, 0, none⟩))) rfl (by kernel_rfl) (by kernel_rfl) (by kernel_rfl) (fun _ _ _ h => h) (.inl ⟨rfl, fun _ => by simp [execOp, go_sem, Act.eval]⟩) ?_
  simp only [List.getElem_toArray, List.getElem_cons_succ, List.getElem_cons_zero, Act.put, List.setIfInBounds_toArray, List.set_cons_succ, List.set_cons_zero]
  refine wpAny_take (i := 9) (v := (.pointer (some ⟨D, 2, none⟩))) rfl (by kernel_rfl) (by kernel_rfl) (by kernel_rfl) (fun _ _ _ h => h) (.inl ⟨rfl, fun _ => by simp [execOp, go_sem, Act.eval]⟩) ?_
  simp only [List.getElem_toArray, List.getElem_cons_succ, List.getElem_cons_zero, Act.put, List.setIfInBounds_toArray, List.set_cons_succ, List.set_cons_zero]
  refine wpAny_all (rs := [4, 10]) (by kernel_rfl) (by simp) ?_
  intro k hk
  simp only [List.mem_cons, List.mem_nil_iff, or_false] at hk
  rcases hk with rfl | rfl
  · refine wpOp_run rfl rfl (wp_load_mid 45 _ rfl q 0 rfl f.cells _ (HW.out w4 (Below.refl _ _)).2.2.1.range5 Try.underlying45 rfl (by rw [infoF]; simp [Fr.cells, f.hdata]) ?_)
    simp only [List.getElem_toArray, List.getElem_cons_succ, List.getElem_cons_zero, Act.put, List.setIfInBounds_toArray, List.set_cons_succ, List.set_cons_zero]
    refine wpAny_all (rs := [5, 10]) (by kernel_rfl) (by simp) ?_
    intro k hk
    simp only [List.mem_cons, List.mem_nil_iff, or_false] at hk
    rcases hk with rfl | rfl
    · refine wpOp_run rfl rfl (wp_call_fn 31 #[.agg f.arr] (by simp [execOp, go_sem, Act.eval, resolve, invoke, enterP]; rfl) ((HPl.out w4).mono ?_))
      rintro e x5 ⟨rfl, b5⟩
      simp only [List.getElem_toArray, List.getElem_cons_succ, List.getElem_cons_zero, Act.put, List.setIfInBounds_toArray, List.set_cons_succ, List.set_cons_zero]
      refine wpAny_all (rs := [10]) (by kernel_rfl) (by simp) ?_
      intro k hk
      simp only [List.mem_cons, List.mem_nil_iff, or_false] at hk
      subst hk
      refine wpOp_run rfl rfl (wp_load_cell 3 _ rfl D 2 rfl (.int .i64 (tk + 1)) (load_int x5 D 2 _ ((HW.out x5 b5).1.cell rfl)) ?_)
      simp only [List.getElem_toArray, List.getElem_cons_succ, List.getElem_cons_zero, Act.put, List.setIfInBounds_toArray, List.set_cons_succ, List.set_cons_zero]
      refine wpAny_take (i := 11) (v := (.agg (Ml.mk f.plain f.field (tk + 1)).arr)) rfl (by kernel_rfl) (by kernel_rfl) (by kernel_rfl) (fun _ _ _ h => h) (.inl ⟨rfl, fun w => exec_build rfl rfl rfl rfl w⟩) ?_
      simp only [List.getElem_toArray, List.getElem_cons_succ, List.getElem_cons_zero, Act.put, List.setIfInBounds_toArray, List.set_cons_succ, List.set_cons_zero]
      refine wpAny_take (i := 12) (v := (.iface 73 (.agg (Ml.mk f.plain f.field (tk + 1)).arr))) rfl (by kernel_rfl) (by kernel_rfl) (by kernel_rfl) (fun _ _ _ h => h) (.inl ⟨rfl, fun _ => by simp [execOp, go_sem, Act.eval]⟩) ?_
      simp only [List.getElem_toArray, List.getElem_cons_succ, List.getElem_cons_zero, Act.put, List.setIfInBounds_toArray, List.set_cons_succ, List.set_cons_zero]
      refine wpAny_all (rs := [13]) (by kernel_rfl) (by simp) ?_
      intro k hk
      simp only [List.mem_cons, List.mem_nil_iff, or_false] at hk
      subst hk
      refine wpOp_run rfl rfl (wp_call_fn 30 #[.iface 71 (.pointer (some ⟨D, 1, none⟩)), .iface 73 (.agg (Ml.mk f.plain f.field (tk + 1)).arr)] (by simp [execOp, go_sem, Act.eval, resolve, invoke, enterH]) ((HPu.out x5 b5).mono ?_))
      rintro e x6 ⟨rfl, v', d1, d2, d3⟩
      simp only [List.getElem_toArray, List.getElem_cons_succ, List.getElem_cons_zero, Act.put, List.setIfInBounds_toArray, List.set_cons_succ, List.set_cons_zero]
      refine wpAny_done (by kernel_rfl) ?_ _
      have c2 := d1.cell (k := 2) (v := .int .i64 (tk + 1)) rfl
      have HX : Hid _ := (⟨d1, d2, d3⟩ : _ ∧ _ ∧ _)
      clear d1 d2 d3 HPu HPl HW
      go_wp2
      go_ret2
      exact ⟨rfl, v', HX.out⟩
    · refine wpOp_run rfl rfl (wp_load_cell 3 _ rfl D 2 rfl (.int .i64 (tk + 1)) (load_int w4 D 2 _ ((HW.out w4 (Below.refl _ _)).1.cell rfl)) ?_)
      simp only [List.getElem_toArray, List.getElem_cons_succ, List.getElem_cons_zero, Act.put, List.setIfInBounds_toArray, List.set_cons_succ, List.set_cons_zero]
      refine wpAny_all (rs := [5]) (by kernel_rfl) (by simp) ?_
      intro k hk
      simp only [List.mem_cons, List.mem_nil_iff, or_false] at hk
      subst hk
      refine wpOp_run rfl rfl (wp_call_fn 31 #[.agg f.arr] (by simp [execOp, go_sem, Act.eval, resolve, invoke, enterP]; rfl) ((HPl.out w4).mono ?_))
      rintro e x5 ⟨rfl, b5⟩
      simp only [List.getElem_toArray, List.getElem_cons_succ, List.getElem_cons_zero, Act.put, List.setIfInBounds_toArray, List.set_cons_succ, List.set_cons_zero]
      refine wpAny_take (i := 11) (v := (.agg (Ml.mk f.plain f.field (tk + 1)).arr)) rfl (by kernel_rfl) (by kernel_rfl) (by kernel_rfl) (fun _ _ _ h => h) (.inl ⟨rfl, fun w => exec_build rfl rfl rfl rfl w⟩) ?_
      simp only [List.getElem_toArray, List.getElem_cons_succ, List.getElem_cons_zero, Act.put, List.setIfInBounds_toArray, List.set_cons_succ, List.set_cons_zero]
      refine wpAny_take (i := 12) (v := (.iface 73 (.agg (Ml.mk f.plain f.field (tk + 1)).arr))) rfl (by kernel_rfl) (by kernel_rfl) (by kernel_rfl) (fun _ _ _ h => h) (.inl ⟨rfl, fun _ => by simp [execOp, go_sem, Act.eval]⟩) ?_
      simp only [List.getElem_toArray, List.getElem_cons_succ, List.getElem_cons_zero, Act.put, List.setIfInBounds_toArray, List.set_cons_succ, List.set_cons_zero]
      refine wpAny_all (rs := [13]) (by kernel_rfl) (by simp) ?_
      intro k hk
      simp only [List.mem_cons, List.mem_nil_iff, or_false] at hk
      subst hk
      refine wpOp_run rfl rfl (wp_call_fn 30 #[.iface 71 (.pointer (some ⟨D, 1, none⟩)), .iface 73 (.agg (Ml.mk f.plain f.field (tk + 1)).arr)] (by simp [execOp, go_sem, Act.eval, resolve, invoke, enterH]) ((HPu.out x5 b5).mono ?_))
      rintro e x6 ⟨rfl, v', d1, d2, d3⟩
      simp only [List.getElem_toArray, List.getElem_cons_succ, List.getElem_cons_zero, Act.put, List.setIfInBounds_toArray, List.set_cons_succ, List.set_cons_zero]
      refine wpAny_done (by kernel_rfl) ?_ _
      have c2 := d1.cell (k := 2) (v := .int .i64 (tk + 1)) rfl
      have HX : Hid _ := (⟨d1, d2, d3⟩ : _ ∧ _ ∧ _)
      clear d1 d2 d3 HPu HPl HW
      go_wp2
      go_ret2
      exact ⟨rfl, v', HX.out⟩
  · refine wpOp_run rfl rfl (wp_load_cell 3 _ rfl D 2 rfl (.int .i64 (tk + 1)) (load_int w4 D 2 _ ((HW.out w4 (Below.refl _ _)).1.cell rfl)) ?_)
    simp only [List.getElem_toArray, List.getElem_cons_succ, List.getElem_cons_zero, Act.put, List.setIfInBounds_toArray, List.set_cons_succ, List.set_cons_zero]
    refine wpAny_all (rs := [4]) (by kernel_rfl) (by simp) ?_
    intro k hk
    simp only [List.mem_cons, List.mem_nil_iff, or_false] at hk
    subst hk
    refine wpOp_run rfl rfl (wp_load_mid 45 _ rfl q 0 rfl f.cells _ (HW.out w4 (Below.refl _ _)).2.2.1.range5 Try.underlying45 rfl (by rw [infoF]; simp [Fr.cells, f.hdata]) ?_)
    simp only [List.getElem_toArray, List.getElem_cons_succ, List.getElem_cons_zero, Act.put, List.setIfInBounds_toArray, List.set_cons_succ, List.set_cons_zero]
    refine wpAny_all (rs := [5]) (by kernel_rfl) (by simp) ?_
    intro k hk
    simp only [List.mem_cons, List.mem_nil_iff, or_false] at hk
    subst hk
    refine wpOp_run rfl rfl (wp_call_fn 31 #[.agg f.arr] (by simp [execOp, go_sem, Act.eval, resolve, invoke, enterP]; rfl) ((HPl.out w4).mono ?_))
    rintro e x5 ⟨rfl, b5⟩
    simp only [List.getElem_toArray, List.getElem_cons_succ, List.getElem_cons_zero, Act.put, List.setIfInBounds_toArray, List.set_cons_succ, List.set_cons_zero]
    refine wpAny_take (i := 11) (v := (.agg (Ml.mk f.plain f.field (tk + 1)).arr)) rfl (by kernel_rfl) (by kernel_rfl) (by kernel_rfl) (fun _ _ _ h => h) (.inl ⟨rfl, fun w => exec_build rfl rfl rfl rfl w⟩) ?_
    simp only [List.getElem_toArray, List.getElem_cons_succ, List.getElem_cons_zero, Act.put, List.setIfInBounds_toArray, List.set_cons_succ, List.set_cons_zero]
    refine wpAny_take (i := 12) (v := (.iface 73 (.agg (Ml.mk f.plain f.field (tk + 1)).arr))) rfl (by kernel_rfl) (by kernel_rfl) (by kernel_rfl) (fun _ _ _ h => h) (.inl ⟨rfl, fun _ => by simp [execOp, go_sem, Act.eval]⟩) ?_
    simp only [List.getElem_toArray, List.getElem_cons_succ, List.getElem_cons_zero, Act.put, List.setIfInBounds_toArray, List.set_cons_succ, List.set_cons_zero]
    refine wpAny_all (rs := [13]) (by kernel_rfl) (by simp) ?_
    intro k hk
    simp only [List.mem_cons, List.mem_nil_iff, or_false] at hk
    subst hk
    refine wpOp_run rfl rfl (wp_call_fn 30 #[.iface 71 (.pointer (some ⟨D, 1, none⟩)), .iface 73 (.agg (Ml.mk f.plain f.field (tk + 1)).arr)] (by simp [execOp, go_sem, Act.eval, resolve, invoke, enterH]) ((HPu.out x5 b5).mono ?_))
    rintro e x6 ⟨rfl, v', d1, d2, d3⟩
    simp only [List.getElem_toArray, List.getElem_cons_succ, List.getElem_cons_zero, Act.put, List.setIfInBounds_toArray, List.set_cons_succ, List.set_cons_zero]
    refine wpAny_done (by kernel_rfl) ?_ _
    have c2 := d1.cell (k := 2) (v := .int .i64 (tk + 1)) rfl
    have HX : Hid _ := (⟨d1, d2, d3⟩ : _ ∧ _ ∧ _)
    clear d1 d2 d3 HPu HPl HW
    go_wp2
    go_ret2
    exact ⟨rfl, v', HX.out⟩
end Go.Proofs.Ytfddoindcmdooaa
namespace Go.Proofs.Ytfddoindcmdooaa
open Go.RowKit Go.Proofs.Bits
set_option linter.unusedVariables false
set_option maxRecDepth 1000000
set_option linter.unusedSimpArgs false

/-- A mail lies alone in block q. -/
def Mq (q : Nat) (m : Ml) (w : World) : Prop := w.heap[q]? = some (.cells m.arr 73 (0, 0))
theorem Ml.arr_size (m : Ml) : m.arr.size = 14 := by simp [Ml.arr, m.len]
theorem Ml.arr_one (m : Ml) : m.arr.all (·.oneCell') = true := all_oneCell_toArray (Ml.one m)
theorem Mq.ld {q : Nat} {m : Ml} {w : World} {ops : Array Oper} {rest : List Oper} {o : Oper} {a : Act} {Q : Exit → Act → World → Prop} (h : Mq q m w) (hgd : o.guard = none) (x : Operand) (ho : o.op = .load 73 x) (hx : a.eval x = .pointer (some ⟨q, 0, none⟩))
    (hh : wpList Try.prog ops Q rest (a.put o.dst (.agg m.arr)) w) : wpList Try.prog ops Q (o :: rest) a w :=
  wpList_load_row hgd 73 x ho q hx 73 m.arr (0, 0) _ h Try.underlying73 rfl (by rw [m.arr_size]; exact infoMl) hh
theorem Mq.sd {q : Nat} {m : Ml} {w : World} {ops : Array Oper} {rest : List Oper} {o : Oper} {a : Act} {Q : Exit → Act → World → Prop} (h : Mq q m w) (m' : Ml) (hgd : o.guard = none) (x y : Operand) (ho : o.op = .store 73 x y) (hx : a.eval x = .pointer (some ⟨q, 0, none⟩)) (hy : a.eval y = .agg m'.arr)
    (hh : wpList Try.prog ops Q rest (a.put o.dst undef) (w.setRow q m'.arr)) : wpList Try.prog ops Q (o :: rest) a w :=
  wpList_store_row hgd 73 x y ho q m'.arr hx hy 73 m.arr h (by rw [m'.arr_size]; exact infoMl) (by rw [m.arr_size, m'.arr_size]) m'.arr_one hh
theorem ml_ld {w : World} {ops : Array Oper} {rest : List Oper} {p : Oper} {a : Act} {Q : Exit → Act → World → Prop} {b o : Nat} {m : Ml} (h : w.rangeAt b o m.cells) (hgd : p.guard = none) (x : Operand) (ho : p.op = .load 73 x) (hx : a.eval x = .pointer (some ⟨b, o, none⟩))
    (hh : wpList Try.prog ops Q rest (a.put p.dst (.agg m.arr)) w) : wpList Try.prog ops Q (p :: rest) a w :=
  wpList_load_mid hgd 73 x ho b o hx m.cells _ h Try.underlying73 rfl (by rw [infoMl]; simp [Ml.len]) hh
theorem ml_sd {w : World} {ops : Array Oper} {rest : List Oper} {p : Oper} {a : Act} {Q : Exit → Act → World → Prop} {b o : Nat} (m : Ml) (h : w.there b o 14) (hgd : p.guard = none) (x y : Operand) (ho : p.op = .store 73 x y) (hx : a.eval x = .pointer (some ⟨b, o, none⟩)) (hy : a.eval y = .agg m.arr)
    (hh : wpList Try.prog ops Q rest (a.put p.dst undef) (w.setCells b o m.cells)) : wpList Try.prog ops Q (p :: rest) a w :=
  wpList_store_mid hgd 73 x y ho b o m.arr hx hy (by rw [m.arr_size]; exact h) (by rw [m.arr_size]; exact infoMl) m.arr_one hh
theorem Mb.cut {w : World} {B b cap : Nat} {ls : List Ml} {x : Ml} {L : Nat} (hL : L = (ls ++ [x]).length) (h : Mb w B (.slice (some ⟨b, 0, none⟩) L cap) (ls ++ [x])) : Mb w B (.slice (some ⟨b, 0, none⟩) ls.length cap) ls := by
  subst hL
  obtain ⟨hl, h⟩ := h
  rcases h with ⟨h1, _⟩ | ⟨g, cap', cur, e, hB, hcur, h1, h2, h3, h4⟩
  · cases h1
  · injection e with e1 _ e5
    injection e1 with e2
    injection e2 with e3
    subst e3 e5
    refine ⟨by rw [flatW_len]; rfl, .inr ⟨b, cap, cur, rfl, hB, hcur, by simp at h1; omega, h2, h3, ?_⟩⟩
    have h5 := congrArg (List.take (ls.length * 14)) h4
    rw [List.take_take, flatW_append, List.take_append_of_le_length (by rw [flatW_len]; exact Nat.le_refl _)] at h5
    rw [show min (ls.length * 14) ((ls ++ [x]).length * 14) = ls.length * 14 by rw [List.length_append]; omega] at h5
    rw [h5, List.take_of_length_le (by rw [flatW_len]; exact Nat.le_refl _)]
theorem Mb.capped {w : World} {B b cap L : Nat} {ms : List Ml} (h : Mb w B (.slice (some ⟨b, 0, none⟩) L cap) ms) : ms.length ≤ cap := by
  rcases h.2 with ⟨h1, _⟩ | ⟨g, cap', cur, e, hB, hcur, h1, _⟩
  · cases h1
  · injection e with _ _ e5
    subst e5; exact h1
set_option maxHeartbeats 1000000 in
theorem mPop_any {w : World} {B D : Nat} {A : Array Value} {v : Value} {ls : List Ml} {m : Ml} (hA : Dr D A w) (hA1 : A[1]? = some v) (h : Mb w B v (ls ++ [m])) (hl : ls.length < 64) :
    Calls Try.prog 84 #[.pointer (some ⟨D, 1, none⟩)] w fun e w' => e = .returned (.iface 73 (.agg m.arr)) ∧ ∃ v', Dr D (A.setIfInBounds 1 v') w' ∧ Mb w' B v' ls ∧ Kd D B w w' := by
  have s1 : 1 < A.size := (Array.getElem?_eq_some_iff.1 hA1).1
  obtain ⟨ao, cap, rfl, hc⟩ := h.at
  obtain ⟨b, rfl, hb, R, -, -⟩ := hc ls.length (by simp)
  rw [show (ls ++ [m])[ls.length]'(by simp) = m by simp] at R
  obtain ⟨wa, hwa⟩ : ∃ wa, w.alloc (.cells Ml.nul.arr 73) = wa := ⟨_, rfl⟩
  have ba : Below w.heap.size w wa := by rw [← hwa]; exact (Below.refl _ _).alloc (Nat.le_refl _) _
  have na : Mq w.heap.size Ml.nul wa := by rw [← hwa]; exact heap_alloc_new w _
  obtain ⟨q, hq⟩ : ∃ q, w.heap.size = q := ⟨_, rfl⟩
  have lD : D < q := by rw [← hq]; exact (Array.getElem?_eq_some_iff.1 hA).1
  rw [hq] at na
  have sq : q < wa.heap.size := (Array.getElem?_eq_some_iff.1 na).1
  obtain ⟨wb, hwb⟩ : ∃ wb, wa.setRow q m.arr = wb := ⟨_, rfl⟩
  have bb : Below w.heap.size w wb := by rw [← hwb]; exact below_row ba (by omega) (by omega) _
  have nb : Mq q m wb := by rw [← hwb]; exact setRow_heap wa q Ml.nul.arr _ 73 _ na
  have Ab : Dr D A wb := (bb.block D (by omega)).trans hA
  have Mb' : Mb wb B _ (ls ++ [m]) := own_below5 h bb
  have T : wb.there b (ls.length * 14) 14 := Mb.there Mb' (k := ls.length) (by simp) (by
    rw [show (ls ++ [m])[ls.length]'(by simp) = m by simp]
    exact fun j u hj => (bb.cell (p := ⟨b, ls.length * 14 + j, none⟩) hb).trans (R j u hj))
  obtain ⟨wc, hwc⟩ : ∃ wc, wb.setCells b (ls.length * 14) Ml.nul.cells = wc := ⟨_, rfl⟩
  obtain ⟨M1, g1⟩ := Mb.setM Mb' ls.length (by simp) Ml.nul
  rw [hwc] at M1 g1
  have Ac : Dr D A wc := Ab.grown Mb' g1
  have e1 : (ls ++ [m]).set ls.length Ml.nul = ls ++ [Ml.nul] := by simp
  rw [e1] at M1
  have M2 : Mb wc B (.slice (some ⟨b, 0, none⟩) ls.length cap) ls := Mb.cut (x := Ml.nul) (by simp) M1
  have nc : Mq q m wc := (g1.block q (Array.getElem?_eq_some_iff.1 nb).1 (by simp; omega)).trans nb
  have nd : Mq q m (wc.setCell ⟨D, 1, none⟩ (.slice (some ⟨b, 0, none⟩) ls.length cap)) := (Below.heap_setCell wc ⟨D, 1, none⟩ _ q (by show q ≠ D; omega)).trans nc
  have Kc : Kd D B w wc := (Kd.below bb).trans (Kd.grown Mb' g1)
  have HX : Hid (Dr D (A.setIfInBounds 1 (.slice (some ⟨b, 0, none⟩) ls.length cap)) (wc.setCell ⟨D, 1, none⟩ (.slice (some ⟨b, 0, none⟩) ls.length cap)) ∧ Mb (wc.setCell ⟨D, 1, none⟩ (.slice (some ⟨b, 0, none⟩) ls.length cap)) B (.slice (some ⟨b, 0, none⟩) ls.length cap) ls ∧ Kd D B w (wc.setCell ⟨D, 1, none⟩ (.slice (some ⟨b, 0, none⟩) ls.length cap))) :=
    ⟨Ac.set 1 _, M2.setD Ac 1 _, Kc.trans (Kd.set wc 1 _)⟩
  have hcap := Mb.capped h
  have c1 := hA.cell (k := 1) hA1
  have cb := Ab.cell (k := 1) hA1
  have cc := Ac.cell (k := 1) hA1
  have fc := Ac.free 1
  have hle : (((ls ++ [m]).length : Nat) : Int) - 1 = (ls.length : Int) := by simp
  have hlt : ls.length < (ls ++ [m]).length := by simp
  have hwa2 : w.alloc (.cells #[.int .u32 0, .bool false, .bool false, .int .i64 0, .int .u8 0, .int .u8 0, .int .u8 0, .int .u8 0, .int .u8 0, .int .u8 0, .int .u8 0, .int .u8 0, .string ⟨#[]⟩, .int .i64 0] 73) = wa := hwa
  have hlc : ls.length ≤ cap := by omega
  have hL64 : (ls ++ [m]).length ≤ 64 := by simp; omega
  clear hwa hc h hA Ab Mb' M1 g1 Ac M2 nc Kc ba bb nb e1 hA1
  generalize (ls ++ [m]).length = L at *
  generalize ls.length = n at *
  go_enter Try.func84, Try.ntmps84
  go_wp2_with (first | refine ml_ld R rfl _ rfl rfl ?_ | refine na.sd m rfl _ _ rfl rfl rfl ?_ | refine ml_sd Ml.nul T rfl _ _ rfl rfl rfl ?_ | refine nd.ld rfl _ rfl rfl ?_)
  go_ret
  exact ⟨rfl, _, HX.out⟩
end Go.Proofs.Ytfddoindcmdooaa
namespace Go.Proofs.Ytfddoindcmdooaa
open Go.RowKit Go.Proofs.Bits
set_option linter.unusedVariables false
set_option maxRecDepth 1000000
set_option linter.unusedSimpArgs false

/-- Of the two children the one that comes first. -/
def kidM (ms : List Ml) (i n : Nat) (h : 2 * i + 1 < n) (hn : n ≤ ms.length) : Nat :=
  if h2 : 2 * i + 2 < n then if lessM (ms[2 * i + 2]'(by omega)) (ms[2 * i + 1]'(by omega)) then 2 * i + 2 else 2 * i + 1 else 2 * i + 1
theorem kidM_lt (ms : List Ml) (i n : Nat) (h : 2 * i + 1 < n) (hn : n ≤ ms.length) : i < kidM ms i n h hn ∧ kidM ms i n h hn < n := by
  unfold kidM; split
  · split <;> omega
  · omega
/-- What the heap's down does to its row, and where it ends. -/
def downP (ms : List Ml) (i n : Nat) : List Ml × Nat :=
  if h : 2 * i + 1 < n ∧ n ≤ ms.length then
    if lessM (ms[kidM ms i n h.1 h.2]'(Nat.lt_of_lt_of_le (kidM_lt ms i n h.1 h.2).2 h.2)) (ms[i]'(by omega)) then downP (swapM ms i (kidM ms i n h.1 h.2) (by omega) (Nat.lt_of_lt_of_le (kidM_lt ms i n h.1 h.2).2 h.2)) (kidM ms i n h.1 h.2) n else (ms, i)
  else (ms, i)
termination_by n - i
decreasing_by have := kidM_lt ms i n h.1 h.2; omega
theorem downP_end {ms : List Ml} {i n : Nat} (h : n ≤ 2 * i + 1) : downP ms i n = (ms, i) := by rw [downP, dif_neg (by omega)]
theorem downP_stop {ms : List Ml} {i n j : Nat} (h : 2 * i + 1 < n) (hn : n ≤ ms.length) (hj : kidM ms i n h hn = j) (hj2 : j < ms.length) (hl : lessM ms[j] (ms[i]'(by omega)) = false) : downP ms i n = (ms, i) := by
  subst hj; rw [downP, dif_pos ⟨h, hn⟩, if_neg (by rw [hl]; simp)]
theorem downP_go {ms : List Ml} {i n j : Nat} (h : 2 * i + 1 < n) (hn : n ≤ ms.length) (hj : kidM ms i n h hn = j) (hj2 : j < ms.length) (hl : lessM ms[j] (ms[i]'(by omega)) = true) : downP ms i n = downP (swapM ms i j (by omega) hj2) j n := by
  subst hj; rw [downP, dif_pos ⟨h, hn⟩, if_pos hl]
set_option maxHeartbeats 2000000 in
theorem hdown_any {w : World} {B D : Nat} {v : Value} {ms : List Ml} (hD : w.cell? ⟨D, 1, none⟩ = some v) (hne : v.ownBlock ≠ some D) (h : Mb w B v ms) (i n : Nat) (hi : i < 64) (hn : n ≤ ms.length) (hl : ms.length ≤ 64) :
    Calls Try.prog 50 #[.iface 71 (.pointer (some ⟨D, 1, none⟩)), .int .i64 i, .int .i64 n] w fun e w' => e = .returned (.bool (decide (i < (downP ms i n).2))) ∧ Mb w' B v (downP ms i n).1 ∧ w.grownBy w' v.ownBlock := by
  have HD : Hid (∀ x, w.grownBy x v.ownBlock → x.cell? ⟨D, 1, none⟩ = some v) := fun x hx =>
    (World.cell?_of_block (a := ⟨D, 1, none⟩) (hx.block D (World.block_lt_of_cell? w _ hD) (fun e => hne e.symm))).trans hD
  have H0 : Hid (Mb w B v ms ∧ w.grownBy w v.ownBlock) := ⟨h, grown_refl _ _⟩
  have hv : ∃ ao cap, v = .slice ao ms.length cap := own_shape5 h
  obtain ⟨ao, cap, rfl⟩ := hv
  have enter1 : ∀ args x, (callFunc 82 args).run Try.prog x = .ok (.enter 82 args) x := fun _ _ => by rfl
  have enter2 : ∀ args x, (callFunc 83 args).run Try.prog x = .ok (.enter 83 args) x := fun _ _ => by rfl
  have HN : Hid (n ≤ ms.length) := hn
  have hn64 : n ≤ 64 := by omega
  have Hp : Hid (∀ k ls, downP ms i n = (ls, k) → (downP ms i n).1 = ls ∧ (downP ms i n).2 = k) := fun k ls h => by rw [h]; exact ⟨rfl, rfl⟩
  obtain ⟨p1, hp1⟩ : ∃ p1, (downP ms i n).1 = p1 := ⟨_, rfl⟩
  obtain ⟨p2, hp2⟩ : ∃ p2, (downP ms i n).2 = p2 := ⟨_, rfl⟩
  rw [hp1, hp2] at Hp ⊢
  have HP : Hid (downP ms i n = (p1, p2)) := by show _ = _; rw [← hp1, ← hp2]
  clear h hD hn hp1 hp2
  go_enter Try.func50, Try.ntmps50
  go_wp2
  go_loopw [7] (fun jv x => ∃ (k : Nat) (ls : List Ml), k < 64 ∧ ls.length = ms.length ∧ jv = .int .i64 k ∧ downP ls k n = downP ms i n ∧ Mb x B (.slice ao ms.length cap) ls ∧ w.grownBy x (Value.slice ao ms.length cap).ownBlock) (fun jv _ => (64 - intOf jv).toNat)
  case atStart => exact ⟨i, ms, hi, rfl, rfl, rfl, H0.out⟩
  case round =>
    obtain ⟨k, ls, hk, hls, rfl, hu, hM, hG⟩ := hrel
    have hD := HD.out _ hG
    have HU : Hid (downP ls k n = (p1, p2)) := hu.trans HP.out
    clear hu
    by_cases h1 : 2 * k + 1 < n
    · have hNl : n ≤ ls.length := by rw [hls]; exact HN.out
      have hk2 : k < ls.length := by omega
      have hq1 : 2 * k + 1 < ls.length := by omega
      have hme : (method 234 71 (.pointer (some ⟨D, 1, none⟩)) "Less").run Try.prog wr = .ok (82, .slice ao ms.length cap) wr := meth_at (by kernel_rfl) _ D ao _ cap wr hD
      by_cases h2 : 2 * k + 2 < n
      · have hq2 : 2 * k + 2 < ls.length := by omega
        have hLs := mLess_any hM (2 * k + 2) (2 * k + 1) hq2 hq1
        have HK1 : Hid (lessM ls[2 * k + 2] ls[2 * k + 1] = true → kidM ls k n h1 hNl = 2 * k + 2) := fun h => by unfold kidM; rw [dif_pos h2, if_pos h]
        have HK0 : Hid (lessM ls[2 * k + 2] ls[2 * k + 1] = false → kidM ls k n h1 hNl = 2 * k + 1) := fun h => by unfold kidM; rw [dif_pos h2, if_neg (by rw [h]; simp)]
        obtain ⟨u1, hu1⟩ : ∃ u, 2 * k + 1 = u := ⟨_, rfl⟩
        obtain ⟨u2, hu2⟩ : ∃ u, 2 * k + 2 = u := ⟨_, rfl⟩
        have i1 : 2 * (k : Int) + 1 = (u1 : Int) := by omega
        have i2 : (u1 : Int) + 1 = (u2 : Int) := by omega
        have l1 : u1 < n := by omega
        have l2 : u2 < n := by omega
        simp only [hu1, hu2] at hLs HK1 HK0
        generalize lessM (ls[u2]'(by omega)) (ls[u1]'(by omega)) = lb at *
        go_wp2_with fail
        refine hLs.mono ?_
        rintro e w4 ⟨rfl, b4⟩
        have hM4 : Mb w4 B (.slice ao ms.length cap) ls := own_below5 hM b4
        have hG4 := grown_trans hG (grown_below b4 _)
        have hD4 := HD.out _ hG4
        clear hLs hM hG
        cases lb
        · have hju : u1 < ls.length := by omega
          have HKj : Hid (kidM ls k n h1 hNl = u1) := HK0.out rfl
          have hLj := mLess_any hM4 u1 k hju hk2
          have HS : Hid (lessM ls[u1] ls[k] = false → p1 = ls ∧ p2 = k) := fun h => by
            have := HU.out; rw [downP_stop h1 hNl HKj.out hju h] at this
            exact ⟨(congrArg Prod.fst this).symm, (congrArg Prod.snd this).symm⟩
          have HGo : Hid (lessM ls[u1] ls[k] = true → downP (swapM ls k u1 hk2 hju) u1 n = downP ms i n) := fun h => by
            rw [← downP_go h1 hNl HKj.out hju h, HU.out, HP.out]
          have hme4 : (method 234 71 (.pointer (some ⟨D, 1, none⟩)) "Less").run Try.prog w4 = .ok (82, .slice ao ms.length cap) w4 := meth_at (by kernel_rfl) _ D ao _ cap w4 hD4
          have hkj : k < u1 := by omega
          generalize lessM ls[u1] ls[k] = lc at *
          go_wp2_with fail
          refine hLj.mono ?_
          rintro e w5 ⟨rfl, b5⟩
          have hM5 : Mb w5 B (.slice ao ms.length cap) ls := own_below5 hM4 b5
          have hG5 := grown_trans hG4 (grown_below b5 _)
          have hD5 := HD.out _ hG5
          clear hLj hme4
          cases lc
          · have HE : Hid ((decide (i < k) = decide (i < p2)) ∧ Mb w5 B (.slice ao ms.length cap) p1 ∧ w.grownBy w5 (Value.slice ao ms.length cap).ownBlock) := by
              obtain ⟨e1, e2⟩ := HS.out rfl
              subst e1 e2
              exact ⟨rfl, hM5, hG5⟩
            clear hM5 hG5 HS HGo
            go_wp2
            go_ret
            exact ⟨ret_bool HE.out.1, HE.out.2⟩
          · have hme5 : (method 234 71 (.pointer (some ⟨D, 1, none⟩)) "Swap").run Try.prog w5 = .ok (83, .slice ao ms.length cap) w5 := meth_at (by kernel_rfl) _ D ao _ cap w5 hD5
            have hSw := mSwap_any hM5 k u1 hk2 hju
            go_wp2_with fail
            refine hSw.mono ?_
            rintro e w6 ⟨rfl, hM6, hG6⟩
            have hG7 := grown_trans hG5 hG6
            clear hSw hM5 hG5 hme5 hD5
            go_wp2
            go_roundw
            case rel => exact ⟨u1, swapM ls k u1 hk2 hju, by omega, by rw [swapM_length]; exact hls, rfl, HGo.out (by first | rfl | trivial), hM6, hG7⟩
            case measure => simp [intOf]; omega
        · have hju : u2 < ls.length := by omega
          have HKj : Hid (kidM ls k n h1 hNl = u2) := HK1.out rfl
          have hLj := mLess_any hM4 u2 k hju hk2
          have HS : Hid (lessM ls[u2] ls[k] = false → p1 = ls ∧ p2 = k) := fun h => by
            have := HU.out; rw [downP_stop h1 hNl HKj.out hju h] at this
            exact ⟨(congrArg Prod.fst this).symm, (congrArg Prod.snd this).symm⟩
          have HGo : Hid (lessM ls[u2] ls[k] = true → downP (swapM ls k u2 hk2 hju) u2 n = downP ms i n) := fun h => by
            rw [← downP_go h1 hNl HKj.out hju h, HU.out, HP.out]
          have hme4 : (method 234 71 (.pointer (some ⟨D, 1, none⟩)) "Less").run Try.prog w4 = .ok (82, .slice ao ms.length cap) w4 := meth_at (by kernel_rfl) _ D ao _ cap w4 hD4
          have hkj : k < u2 := by omega
          generalize lessM ls[u2] ls[k] = lc at *
          go_wp2_with fail
          refine hLj.mono ?_
          rintro e w5 ⟨rfl, b5⟩
          have hM5 : Mb w5 B (.slice ao ms.length cap) ls := own_below5 hM4 b5
          have hG5 := grown_trans hG4 (grown_below b5 _)
          have hD5 := HD.out _ hG5
          clear hLj hme4
          cases lc
          · have HE : Hid ((decide (i < k) = decide (i < p2)) ∧ Mb w5 B (.slice ao ms.length cap) p1 ∧ w.grownBy w5 (Value.slice ao ms.length cap).ownBlock) := by
              obtain ⟨e1, e2⟩ := HS.out rfl
              subst e1 e2
              exact ⟨rfl, hM5, hG5⟩
            clear hM5 hG5 HS HGo
            go_wp2
            go_ret
            exact ⟨ret_bool HE.out.1, HE.out.2⟩
          · have hme5 : (method 234 71 (.pointer (some ⟨D, 1, none⟩)) "Swap").run Try.prog w5 = .ok (83, .slice ao ms.length cap) w5 := meth_at (by kernel_rfl) _ D ao _ cap w5 hD5
            have hSw := mSwap_any hM5 k u2 hk2 hju
            go_wp2_with fail
            refine hSw.mono ?_
            rintro e w6 ⟨rfl, hM6, hG6⟩
            have hG7 := grown_trans hG5 hG6
            clear hSw hM5 hG5 hme5 hD5
            go_wp2
            go_roundw
            case rel => exact ⟨u2, swapM ls k u2 hk2 hju, by omega, by rw [swapM_length]; exact hls, rfl, HGo.out (by first | rfl | trivial), hM6, hG7⟩
            case measure => simp [intOf]; omega
      · have HK : Hid (kidM ls k n h1 hNl = 2 * k + 1) := by show _ = _; unfold kidM; rw [dif_neg h2]
        obtain ⟨u1, hu1⟩ : ∃ u, 2 * k + 1 = u := ⟨_, rfl⟩
        have i1 : 2 * (k : Int) + 1 = (u1 : Int) := by omega
        have l1 : u1 < n := by omega
        have l2 : ¬ ((u1 : Int) + 1 < (n : Int)) := by omega
        simp only [hu1] at HK
        · have hju : u1 < ls.length := by omega
          have HKj : Hid (kidM ls k n h1 hNl = u1) := HK.out
          have hLj := mLess_any hM u1 k hju hk2
          have HS : Hid (lessM ls[u1] ls[k] = false → p1 = ls ∧ p2 = k) := fun h => by
            have := HU.out; rw [downP_stop h1 hNl HKj.out hju h] at this
            exact ⟨(congrArg Prod.fst this).symm, (congrArg Prod.snd this).symm⟩
          have HGo : Hid (lessM ls[u1] ls[k] = true → downP (swapM ls k u1 hk2 hju) u1 n = downP ms i n) := fun h => by
            rw [← downP_go h1 hNl HKj.out hju h, HU.out, HP.out]
          have hme4 : (method 234 71 (.pointer (some ⟨D, 1, none⟩)) "Less").run Try.prog wr = .ok (82, .slice ao ms.length cap) wr := meth_at (by kernel_rfl) _ D ao _ cap wr hD
          have hkj : k < u1 := by omega
          generalize lessM ls[u1] ls[k] = lc at *
          go_wp2_with fail
          refine hLj.mono ?_
          rintro e w5 ⟨rfl, b5⟩
          have hM5 : Mb w5 B (.slice ao ms.length cap) ls := own_below5 hM b5
          have hG5 := grown_trans hG (grown_below b5 _)
          have hD5 := HD.out _ hG5
          clear hLj hme4
          cases lc
          · have HE : Hid ((decide (i < k) = decide (i < p2)) ∧ Mb w5 B (.slice ao ms.length cap) p1 ∧ w.grownBy w5 (Value.slice ao ms.length cap).ownBlock) := by
              obtain ⟨e1, e2⟩ := HS.out rfl
              subst e1 e2
              exact ⟨rfl, hM5, hG5⟩
            clear hM5 hG5 HS HGo
            go_wp2
            go_ret
            exact ⟨ret_bool HE.out.1, HE.out.2⟩
          · have hme5 : (method 234 71 (.pointer (some ⟨D, 1, none⟩)) "Swap").run Try.prog w5 = .ok (83, .slice ao ms.length cap) w5 := meth_at (by kernel_rfl) _ D ao _ cap w5 hD5
            have hSw := mSwap_any hM5 k u1 hk2 hju
            go_wp2_with fail
            refine hSw.mono ?_
            rintro e w6 ⟨rfl, hM6, hG6⟩
            have hG7 := grown_trans hG5 hG6
            clear hSw hM5 hG5 hme5 hD5
            go_wp2
            go_roundw
            case rel => exact ⟨u1, swapM ls k u1 hk2 hju, by omega, by rw [swapM_length]; exact hls, rfl, HGo.out (by first | rfl | trivial), hM6, hG7⟩
            case measure => simp [intOf]; omega
    · have HE : Hid ((decide (i < k) = decide (i < p2)) ∧ Mb wr B (.slice ao ms.length cap) p1 ∧ w.grownBy wr (Value.slice ao ms.length cap).ownBlock) := by
        have := HU.out
        rw [downP_end (by omega)] at this
        obtain rfl : ls = p1 := congrArg Prod.fst this
        obtain rfl : k = p2 := congrArg Prod.snd this
        exact ⟨rfl, hM, hG⟩
      have l1 : (n : Int) ≤ 2 * (k : Int) + 1 := by omega
      clear hM hG HU
      go_wp2
      go_ret
      exact ⟨ret_bool HE.out.1, HE.out.2⟩
end Go.Proofs.Ytfddoindcmdooaa
namespace Go.Proofs.Ytfddoindcmdooaa
open Go.RowKit Go.Proofs.Bits
set_option linter.unusedVariables false
set_option maxRecDepth 1000000
set_option linter.unusedSimpArgs false

theorem swapM_get? (ms : List Ml) (i j : Nat) (hi : i < ms.length) (hj : j < ms.length) (k : Nat) : (swapM ms i j hi hj)[k]? = if k = j then some ms[i] else if k = i then some ms[j] else ms[k]? := by
  show ((ms.set i ms[j]).set j ms[i])[k]? = _
  rw [List.getElem?_set, List.getElem?_set]
  by_cases h1 : k = j
  · subst h1; simp [hj]
  · rw [if_neg (fun h => h1 h.symm), if_neg h1]
    by_cases h2 : k = i
    · subst h2; simp [hi]
    · rw [if_neg (fun h => h2 h.symm), if_neg h2]
theorem downP_len (ms : List Ml) (i n : Nat) : (downP ms i n).1.length = ms.length := by
  induction ms, i using downP.induct (n := n) with
  | case1 ms i h hl ih => rw [downP_go h.1 h.2 rfl (Nat.lt_of_lt_of_le (kidM_lt ms i n h.1 h.2).2 h.2) hl, ih, swapM_length]
  | case2 ms i h hl => rw [downP_stop h.1 h.2 rfl (Nat.lt_of_lt_of_le (kidM_lt ms i n h.1 h.2).2 h.2) (by simpa using hl)]
  | case3 ms i h => rw [downP, dif_neg h]
/-- Nothing behind n is touched. -/
theorem downP_keep (ms : List Ml) (i n : Nat) : ∀ k, n ≤ k → (downP ms i n).1[k]? = ms[k]? := by
  induction ms, i using downP.induct (n := n) with
  | case1 ms i h hl ih =>
    intro k hk
    have := kidM_lt ms i n h.1 h.2
    rw [downP_go h.1 h.2 rfl (Nat.lt_of_lt_of_le (kidM_lt ms i n h.1 h.2).2 h.2) hl, ih k hk, swapM_get?, if_neg (by omega), if_neg (by omega)]
  | case2 ms i h hl => intro k hk; rw [downP_stop h.1 h.2 rfl (Nat.lt_of_lt_of_le (kidM_lt ms i n h.1 h.2).2 h.2) (by simpa using hl)]
  | case3 ms i h => intro k hk; rw [downP, dif_neg h]
/-- The row behind a Pop. -/
def popF (ms : List Ml) (h : 0 < ms.length) : List Ml := (downP (swapM ms 0 (ms.length - 1) h (by omega)) 0 (ms.length - 1)).1.dropLast
theorem last_is {L : List Ml} {n : Nat} {x : Ml} (hl : L.length = n) (h0 : 0 < n) (hk : L[n - 1]? = some x) : L = L.dropLast ++ [x] := by
  have hne : L ≠ [] := by intro e; rw [e] at hl; simp at hl; omega
  have : L.getLast hne = x := by
    have h3 := List.getLast?_eq_getElem? (l := L)
    rw [hl, hk, List.getLast?_eq_some_getLast hne] at h3
    exact Option.some.inj h3
  rw [← this, List.dropLast_concat_getLast]
theorem popF_all (ms : List Ml) (h : 0 < ms.length) : (downP (swapM ms 0 (ms.length - 1) h (by omega)) 0 (ms.length - 1)).1 = popF ms h ++ [ms[0]] :=
  last_is (by rw [downP_len, swapM_length]) h (by rw [downP_keep _ _ _ _ (Nat.le_refl _), swapM_get?, if_pos rfl])
theorem popF_len (ms : List Ml) (h : 0 < ms.length) : (popF ms h).length = ms.length - 1 := by
  unfold popF; rw [List.length_dropLast, downP_len, swapM_length]
set_option maxHeartbeats 1000000 in
theorem hPop_any {w : World} {B D : Nat} {A : Array Value} {v : Value} {ms : List Ml} (hA : Dr D A w) (hA1 : A[1]? = some v) (h : Mb w B v ms) (h0 : 0 < ms.length) (hl : ms.length ≤ 64) :
    Calls Try.prog 36 #[.iface 71 (.pointer (some ⟨D, 1, none⟩))] w fun e w' => e = .returned (.iface 73 (.agg ms[0].arr)) ∧ ∃ v', Dr D (A.setIfInBounds 1 v') w' ∧ Mb w' B v' (popF ms h0) ∧ Kd D B w w' := by
  have c1 := hA.cell hA1
  obtain ⟨ao, cap, hv⟩ := own_shape5 h
  subst hv
  obtain ⟨N, hN⟩ : ∃ N, ms.length - 1 = N := ⟨_, rfl⟩
  have hN2 : N < ms.length := by omega
  have hLn := mLen_any (.slice ao ms.length cap) _ ⟨ao, cap, rfl⟩ w
  have hme : (method 234 71 (.pointer (some ⟨D, 1, none⟩)) "Len").run Try.prog w = .ok (81, .slice ao ms.length cap) w := meth_at (by kernel_rfl) _ D ao _ cap w c1
  have hme1 : (method 234 71 (.pointer (some ⟨D, 1, none⟩)) "Swap").run Try.prog w = .ok (83, .slice ao ms.length cap) w := meth_at (by kernel_rfl) _ D ao _ cap w c1
  have hSw := mSwap_any h 0 N h0 hN2
  have enter1 : ∀ args x, (callFunc 81 args).run Try.prog x = .ok (.enter 81 args) x := fun _ _ => by rfl
  have enter2 : ∀ args x, (callFunc 83 args).run Try.prog x = .ok (.enter 83 args) x := fun _ _ => by rfl
  have enter3 : ∀ args x, (callFunc 84 args).run Try.prog x = .ok (.enter 84 args) x := fun _ _ => by rfl
  have HPf : Hid ((downP (swapM ms 0 N h0 hN2) 0 N).1 = popF ms h0 ++ [ms[0]]) := by subst hN; exact popF_all ms h0
  have HL : Hid ((popF ms h0).length < 64) := by show _ < _; rw [popF_len]; omega
  have HA : Hid (∀ x ls, Mb x B (.slice ao ms.length cap) ls → w.grownBy x (Value.slice ao ms.length cap).ownBlock → Dr D A x ∧ Kd D B w x ∧ (Value.slice ao ms.length cap).ownBlock ≠ some D) := fun x ls h1 hx => ⟨hA.grown h hx, Kd.grown h hx, (hA.grown h hx).ne h1⟩
  have HA1 : Hid (A[1]? = some (.slice ao ms.length cap)) := hA1
  have hlen : (ms.length : Int) - 1 = (N : Int) := by omega
  have HSl : Hid ((swapM ms 0 N h0 hN2).length = ms.length) := swapM_length _ _ _ _ _
  generalize swapM ms 0 N h0 hN2 = ss at *
  clear hA hA1 h c1
  go_enter Try.func36, Try.ntmps36
  go_wp2_with fail
  refine hLn.mono ?_
  rintro e w1 ⟨rfl, rfl⟩
  clear hLn hme
  go_wp2_with fail
  refine hSw.mono ?_
  rintro e w2 ⟨rfl, M2, G2⟩
  obtain ⟨A2, K2, n2⟩ := HA.out w2 _ M2 G2
  have M2' : Mb w2 B (.slice ao ms.length cap) ss := M2
  have hDn := hdown_any (A2.cell HA1.out) n2 M2 0 N (by omega) (by rw [HSl.out]; omega) (by rw [HSl.out]; exact hl)
  clear hSw hme1
  go_wp2_with fail
  refine (show Calls Try.prog 50 #[.iface 71 (.pointer (some ⟨D, 1, none⟩)), .int .i64 0, .int .i64 N] w2 _ from hDn).mono ?_
  rintro e w3 ⟨rfl, M3, G3⟩
  rw [HPf.out] at M3
  obtain ⟨A3, K3, n3⟩ := HA.out w3 _ M3 (grown_trans G2 G3)
  have hPo := mPop_any A3 HA1.out M3 HL.out
  have hme3 : (method 234 71 (.pointer (some ⟨D, 1, none⟩)) "Pop").run Try.prog w3 = .ok (84, .pointer (some ⟨D, 1, none⟩)) w3 := meth_ptr (by kernel_rfl) _ D w3
  clear hDn
  go_wp2_with fail
  refine hPo.mono ?_
  rintro e w4 ⟨rfl, v', A4, M4, K4⟩
  have HX : Hid (Dr D (A.setIfInBounds 1 v') w4 ∧ Mb w4 B v' (popF ms h0) ∧ Kd D B w1 w4) := ⟨A4, M4, K3.trans K4⟩
  clear hPo A4 M4 K4 hme3 A3 M3 A2 M2 M2' HA
  go_wp2
  go_ret
  exact ⟨rfl, _, HX.out⟩
theorem assert_ml2 (A : Array Value) (x : World) : (Instr.typeAssert (.iface 73 (.agg A)) 20 73 true).run Try.prog x = .ok (.tuple #[.agg A, .bool true]) x := by
  simp [Instr.typeAssert, go_sem, run_underlying Try.underlying73]
set_option maxHeartbeats 1000000 in
theorem Done_some {w : World} {B D : Nat} {v vc vf : Value} {ms : List Ml} {bx tk rm lo : Int} (hA : Dr D (dA bx v tk rm vc lo vf) w) (h : Mb w B v ms) (h0 : 0 < ms.length) (hl : ms.length ≤ 64) :
    Calls Try.prog 17 #[.pointer (some ⟨D, 0, none⟩)] w fun e w' => e = .returned (.bool true) ∧ ∃ v', Dr D (dA bx v' tk rm vc lo vf) w' ∧ Mb w' B v' (popF ms h0) ∧ Kd D B w w' := by
  have hPo := hPop_any hA rfl h h0 hl
  obtain ⟨ao, cap, rfl⟩ := own_shape5 h
  have c1 := hA.cell (k := 1) (v := .slice ao ms.length cap) rfl
  have hne : ((ms.length : Int) == 0) = false := by rw [beq_eq_false_iff_ne]; omega
  have hmake : ∀ x, (Instr.typeAssert (.iface 73 (.agg ms[0].arr)) 20 73 true).run Try.prog x = .ok (.tuple #[.agg ms[0].arr, .bool true]) x := assert_ml2 _
  go_enter Try.func17, Try.ntmps17
  go_wp2_with fail
  refine hPo.mono ?_
  rintro e w1 ⟨rfl, v', A1, M1, K1⟩
  have na : Mq w1.heap.size Ml.nul (w1.alloc (.cells Ml.nul.arr 73)) := heap_alloc_new w1 _
  have bb : Below w1.heap.size w1 ((w1.alloc (.cells Ml.nul.arr 73)).setRow w1.heap.size ms[0].arr) := below_row ((Below.refl _ w1).alloc (Nat.le_refl _) _) (Nat.le_refl _) (by rw [size_alloc]; omega) _
  have HX : Hid (Dr D (dA bx v' tk rm vc lo vf) ((w1.alloc (.cells Ml.nul.arr 73)).setRow w1.heap.size ms[0].arr) ∧ Mb ((w1.alloc (.cells Ml.nul.arr 73)).setRow w1.heap.size ms[0].arr) B v' (popF ms h0) ∧ Kd D B w ((w1.alloc (.cells Ml.nul.arr 73)).setRow w1.heap.size ms[0].arr)) :=
    ⟨(bb.block D (Array.getElem?_eq_some_iff.1 A1).1).trans A1, own_below5 M1 bb, K1.trans (Kd.below bb)⟩
  clear hPo A1 M1 K1 bb
  go_wp2_with (refine na.sd ms[0] rfl _ _ rfl rfl rfl ?_)
  go_ret
  exact ⟨rfl, _, HX.out⟩
set_option maxHeartbeats 1000000 in
theorem Done_none {w : World} {D : Nat} {ao : Option Addr} {cap : Nat} {vc vf : Value} {bx tk rm lo : Int} (hA : Dr D (dA bx (.slice ao 0 cap) tk rm vc lo vf) w) :
    Calls Try.prog 17 #[.pointer (some ⟨D, 0, none⟩)] w fun e w' => e = .returned (.bool false) ∧ w' = w := by
  have c1 := hA.cell (k := 1) (v := .slice ao 0 cap) rfl
  go_enter Try.func17, Try.ntmps17
  go_wp2
  go_ret
  exact ⟨rfl, rfl⟩
end Go.Proofs.Ytfddoindcmdooaa
