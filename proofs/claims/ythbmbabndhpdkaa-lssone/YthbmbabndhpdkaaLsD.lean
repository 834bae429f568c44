/- The program's slave: a part of an address. -/
import Derived.Test.YthbmbabndhpdkaaLsC
namespace Go.Proofs.Ythbmbabndhpdkaa
open Go.RowKit
open Classical
set_option linter.unusedVariables false
set_option maxRecDepth 1000000
set_option linter.unusedSimpArgs false
theorem partU32 (A : Array Value) (k : Nat) (v : Value) (h : A[k]? = some v) (w : World) : (part 22 A k).run Try.prog w = .ok v w := by
  simp [part, isAgg, run_underlying Try.underlying22, h, go_sem]
theorem eqU32 (d : Nat) (a b : Nat) (w : World) : (Op.equalIn (d + 1) 22 (.int .u32 (a : Int)) (.int .u32 (b : Int))).run Try.prog w = .ok (decide (a = b)) w := by
  rw [run_equalIn_int w d 22 .u32 .u32 _ _ Try.underlying22]
  by_cases h : a = b
  · subst h; simp
  · have h2 : ¬ ((a : Int) = (b : Int)) := fun e => h (Int.ofNat.inj e)
    simp [h, h2]
theorem infoU32 : (Try.prog.info? 22).map (fun i => (i.zero, i.size, i.bytes)) = some (some (.int .u32 0), 1, 4) := by kernel_rfl
theorem eqA4 (a b : A4) (d : Nat) (w : World) : (Op.equalIn (d + 2) 23 (.agg a.arr) (.agg b.arr)).run Try.prog w = .ok (decide (a = b)) w := by
  obtain ⟨i0, hi0, hz0, hz1, hz2⟩ := info_parts infoU32
  have hr : List.range' 0 4 1 = [0, 1, 2, 3] := by decide
  have hab : decide (a = b) = (decide (a.x0 = b.x0) && decide (a.x1 = b.x1) && decide (a.x2 = b.x2) && decide (a.x3 = b.x3)) := by
    cases a; cases b
    rw [Bool.eq_iff_iff]
    simp [and_assoc]
  rw [hab]
  have p0 := partU32 a.arr 0 (.int .u32 (a.x0 : Int)) rfl w
  have p1 := partU32 a.arr 1 (.int .u32 (a.x1 : Int)) rfl w
  have p2 := partU32 a.arr 2 (.int .u32 (a.x2 : Int)) rfl w
  have p3 := partU32 a.arr 3 (.int .u32 (a.x3 : Int)) rfl w
  have c0 := partU32 b.arr 0 (.int .u32 (b.x0 : Int)) rfl w
  have c1 := partU32 b.arr 1 (.int .u32 (b.x1 : Int)) rfl w
  have c2 := partU32 b.arr 2 (.int .u32 (b.x2 : Int)) rfl w
  have c3 := partU32 b.arr 3 (.int .u32 (b.x3 : Int)) rfl w
  have q0 := eqU32 d a.x0 b.x0 w
  have q1 := eqU32 d a.x1 b.x1 w
  have q2 := eqU32 d a.x2 b.x2 w
  have q3 := eqU32 d a.x3 b.x3 w
  clear hab
  generalize a.arr = A at *
  generalize b.arr = B at *
  generalize decide (a.x0 = b.x0) = e0 at *
  generalize decide (a.x1 = b.x1) = e1 at *
  generalize decide (a.x2 = b.x2) = e2 at *
  generalize decide (a.x3 = b.x3) = e3 at *
  generalize (Value.int .u32 (a.x0 : Int)) = v0 at *
  generalize (Value.int .u32 (a.x1 : Int)) = v1 at *
  generalize (Value.int .u32 (a.x2 : Int)) = v2 at *
  generalize (Value.int .u32 (a.x3 : Int)) = v3 at *
  generalize (Value.int .u32 (b.x0 : Int)) = u0 at *
  generalize (Value.int .u32 (b.x1 : Int)) = u1 at *
  generalize (Value.int .u32 (b.x2 : Int)) = u2 at *
  generalize (Value.int .u32 (b.x3 : Int)) = u3 at *
  rw [Op.equalIn]
  cases e0
  case false => simp [Sem.run_bind, run_underlying Try.underlying23, sizeOf, typeInfo, hi0, hz1, hr, p0, c0, q0]
  cases e1
  case false => simp [Sem.run_bind, run_underlying Try.underlying23, sizeOf, typeInfo, hi0, hz1, hr, p0, c0, q0, p1, c1, q1]
  cases e2
  case false => simp [Sem.run_bind, run_underlying Try.underlying23, sizeOf, typeInfo, hi0, hz1, hr, p0, c0, q0, p1, c1, q1, p2, c2, q2]
  cases e3
  case false => simp [Sem.run_bind, run_underlying Try.underlying23, sizeOf, typeInfo, hi0, hz1, hr, p0, c0, q0, p1, c1, q1, p2, c2, q2, p3, c3, q3]
  simp [Sem.run_bind, run_underlying Try.underlying23, sizeOf, typeInfo, hi0, hz1, hr, p0, c0, q0, p1, c1, q1, p2, c2, q2, p3, c3, q3]
theorem guard4 : Try.prog.eqGuardType Try.prog.depth 23 = false := by kernel_rfl
theorem exec_eqA {a : Act} {o : Oper} {x y : Operand} {t : TypeId} (f g : A4) (ho : o.op = .binOp .eql 23 x y t) (hx : a.eval x = .agg f.arr) (hy : a.eval y = .agg g.arr) (w : World) : (execOp a.eval o).run Try.prog w = .ok (.value (.bool (decide (f = g)))) w := by
  have he := eqA4 f g 9998 w
  unfold execOp
  simp only [ho, hx, hy]
  simp [go_sem, run_eqGuard_agg w .eql 23 _ _ f.arr g.arr guard4, run_eql_struct, he]
theorem exec_neA {a : Act} {o : Oper} {x y : Operand} {t : TypeId} (f g : A4) (ho : o.op = .binOp .neq 23 x y t) (hx : a.eval x = .agg f.arr) (hy : a.eval y = .agg g.arr) (w : World) : (execOp a.eval o).run Try.prog w = .ok (.value (.bool (!decide (f = g)))) w := by
  have he := eqA4 f g 9998 w
  unfold execOp
  simp only [ho, hx, hy]
  simp [go_sem, run_eqGuard_agg w .neq 23 _ _ f.arr g.arr guard4, run_neq_struct, he]
theorem exec_neA_eq {a : Act} {o : Oper} {x y : Operand} {t : TypeId} (f : A4) (ho : o.op = .binOp .neq 23 x y t) (hx : a.eval x = .agg f.arr) (hy : a.eval y = .agg f.arr) (w : World) : (execOp a.eval o).run Try.prog w = .ok (.value (.bool false)) w := by
  have := exec_neA f f ho hx hy w
  simpa using this
theorem exec_neA_ne {a : Act} {o : Oper} {x y : Operand} {t : TypeId} (f g : A4) (hn : f ≠ g) (ho : o.op = .binOp .neq 23 x y t) (hx : a.eval x = .agg f.arr) (hy : a.eval y = .agg g.arr) (w : World) : (execOp a.eval o).run Try.prog w = .ok (.value (.bool true)) w := by
  have := exec_neA f g ho hx hy w
  simpa [hn] using this
theorem quietE {C : World → Prop} {ops : Array Oper} {rest : List Oper} {o : Oper} {a : Act} {Q : Act → Prop} (v : Value) (hgd : Region.wanted o (yielded ops a.tmps) = true) (hr : ∀ w, (execOp a.eval o).run Try.prog w = .ok (.value v) w)
    (hh : wpQuiet Try.prog ops C Q rest (a.put o.dst v)) : wpQuiet Try.prog ops C Q (o :: rest) a := by
  unfold wpQuiet
  rw [if_pos hgd]
  refine ⟨v, ?_, hh⟩
  intro w' _
  unfold Oper.quietAt
  simp only [hr w']
  exact ⟨rfl, rfl⟩
section
variable {g n : Nat} {p : Option Nat} {s : Ls} {w x : World}
theorem lpick_out (h : Sa g n p s w) (i : Int) (v : Nat) (h1 : i ≠ 0) (h2 : i ≠ s.pk) : Calls Try.prog 36 #[.pointer (some ⟨g, 0, none⟩), .int .i64 i, .int .u32 (v : Int)] w fun e w' => e = .returned (.bool (s.pickB i v)) ∧ Sa g n p (s.pickS i v) w' ∧ Two g g w w' := by
  obtain ⟨_, _, _, _, _, _, _, _, _, _, _, _, _, _, _, c15, _, hf⟩ := h.cells
  have f15 := hf 15
  have hB : s.pickB i v = false := by simp [Ls.pickB, h1, h2]
  have H : Hid (Sa g n p (s.pickS i v) (w.setCell ⟨g, 15, none⟩ (.int .i64 0))) := by
    unfold Ls.pickS
    rw [if_pos ⟨h1, h2⟩]
    exact Sa.set h rfl rfl
  rw [hB]
  have d1 : (i != 0) = true := by simp [h1]
  have d2 : (i != s.pk) = true := by simp [h2]
  clear h hf h1 h2 hB
  go_enter Try.func36, Try.ntmps36
  go_wp2
  go_ret
  exact ⟨rfl, H.out, (Two.refl _ _ _).at0 _ _⟩
theorem lpick_mid (h : Sa g n p s w) (i : Int) (v : Nat) (hi : i = 0 ∨ i = 1 ∨ i = 2) (h2 : i = 0 ∨ i = s.pk) : Calls Try.prog 36 #[.pointer (some ⟨g, 0, none⟩), .int .i64 i, .int .u32 (v : Int)] w fun e w' => e = .returned (.bool (s.pickB i v)) ∧ Sa g n p (s.pickS i v) w' ∧ Two g g w w' := by
  obtain ⟨_, _, _, _, _, _, _, _, _, _, _, c11, c12, c13, c14, c15, _, hf⟩ := h.cells
  have f11 := hf 11
  have f12 := hf 12
  have f13 := hf 13
  have f15 := hf 15
  have hB : s.pickB i v = false := by rcases hi with rfl | rfl | rfl <;> simp [Ls.pickB]
  have hS : s.pickS i v = { s with c := s.c.put i v, pk := (i + 1) % 4 } := by
    unfold Ls.pickS
    rw [if_neg (by omega), if_neg (by omega)]
  rw [hB, hS]
  rcases hi with rfl | rfl | rfl
  · have H : Hid (∀ m, Sa g n p { s with c := s.c.put 0 v, pk := (0 + 1) % 4 } (((w.setCell ⟨g, 11, none⟩ (.int .u32 (v : Int))).setCell ⟨g, 15, none⟩ (.int .i64 1)).drewN m)) := fun m =>
      Sa.drawn (Sa.set (s := { s with c := s.c.put 0 v }) (s' := { s with c := s.c.put 0 v, pk := (0 + 1) % 4 }) (Sa.set h rfl rfl) rfl rfl) m
    clear h hf hB hS h2
    go_enter Try.func36, Try.ntmps36
    go_wp2_with fail
    go_quiet (fail)
    go_wp2
    go_ret
    exact ⟨rfl, H.out _, (((Two.refl _ _ _).at0 _ _).at0 _ _).drawn _⟩
  · have H : Hid (∀ m, Sa g n p { s with c := s.c.put 1 v, pk := (1 + 1) % 4 } (((w.setCell ⟨g, 12, none⟩ (.int .u32 (v : Int))).setCell ⟨g, 15, none⟩ (.int .i64 2)).drewN m)) := fun m =>
      Sa.drawn (Sa.set (s := { s with c := s.c.put 1 v }) (s' := { s with c := s.c.put 1 v, pk := (1 + 1) % 4 }) (Sa.set h rfl rfl) rfl rfl) m
    have e15 : 1 = s.pk := by omega
    rw [← e15] at c15
    have d0 : (((1 : Int)) != s.pk) = false := by rw [← e15]; rfl
    clear h hf hB hS h2 e15
    go_enter Try.func36, Try.ntmps36
    go_wp2_with fail
    go_quiet (fail)
    go_wp2
    go_ret
    exact ⟨rfl, H.out _, (((Two.refl _ _ _).at0 _ _).at0 _ _).drawn _⟩
  · have H : Hid (∀ m, Sa g n p { s with c := s.c.put 2 v, pk := (2 + 1) % 4 } (((w.setCell ⟨g, 13, none⟩ (.int .u32 (v : Int))).setCell ⟨g, 15, none⟩ (.int .i64 3)).drewN m)) := fun m =>
      Sa.drawn (Sa.set (s := { s with c := s.c.put 2 v }) (s' := { s with c := s.c.put 2 v, pk := (2 + 1) % 4 }) (Sa.set h rfl rfl) rfl rfl) m
    have e15 : 2 = s.pk := by omega
    rw [← e15] at c15
    have d0 : (((2 : Int)) != s.pk) = false := by rw [← e15]; rfl
    clear h hf hB hS h2 e15
    go_enter Try.func36, Try.ntmps36
    go_wp2_with fail
    go_quiet (fail)
    go_wp2
    go_ret
    exact ⟨rfl, H.out _, (((Two.refl _ _ _).at0 _ _).at0 _ _).drawn _⟩
theorem lpick_last (h : Sa g n p s w) (v : Nat) (h2 : (3 : Int) = s.pk) : Calls Try.prog 36 #[.pointer (some ⟨g, 0, none⟩), .int .i64 3, .int .u32 (v : Int)] w fun e w' => e = .returned (.bool (s.pickB 3 v)) ∧ Sa g n p (s.pickS 3 v) w' ∧ Two g g w w' := by
  have h0 := h
  obtain ⟨c0, c1, c2, c3, c4, _, _, _, _, _, _, c11, c12, c13, c14, c15, _, hf⟩ := h.cells
  have f4 := hf 4
  have f14 := hf 14
  have f15 := hf 15
  rw [← h2] at c15
  have hq : ¬ ((3 : Int) ≠ 0 ∧ (3 : Int) ≠ s.pk) := by omega
  have hB : s.pickB 3 v = decide (s.c.put 3 v = s.a) := by
    have e1 : decide ((3 : Int) ≠ s.pk) = false := by simp; omega
    unfold Ls.pickB
    rw [e1]
    simp
  have hC : s.c.put 3 v = ⟨s.c.x0, s.c.x1, s.c.x2, v⟩ := rfl
  by_cases he : s.c.put 3 v = s.a
  · have hS : s.pickS 3 v = { s with c := s.c.put 3 v, pk := 0, mode := 1 } := by
      unfold Ls.pickS
      rw [if_neg hq, if_pos ⟨rfl, he⟩]
      rfl
    have H : Hid (∀ m, Sa g n p { s with c := s.c.put 3 v, pk := 0, mode := 1 } ((((w.setCell ⟨g, 14, none⟩ (.int .u32 (v : Int))).setCell ⟨g, 15, none⟩ (.int .i64 0)).drewN m).setCell ⟨g, 4, none⟩ (.int .i64 1))) := fun m =>
      Sa.set (s := { s with c := s.c.put 3 v, pk := 0 }) (s' := { s with c := s.c.put 3 v, pk := 0, mode := 1 }) (Sa.drawn (Sa.set (s := { s with c := s.c.put 3 v }) (s' := { s with c := s.c.put 3 v, pk := 0 }) (Sa.set h rfl rfl) rfl rfl) m) rfl rfl
    rw [hB, hS, decide_eq_true he]
    rw [← he, hC] at c0 c1 c2 c3
    clear h h0 hf hB hS h2 hq hC he
    go_enter Try.func36, Try.ntmps36
    go_wp2_with fail
    refine wp_region_quiet_lit (by kernel_rfl) (by kernel_rfl) ?_
    repeat (first | (go_big_quiet_step (fail)) | (refine quietE (.bool false) rfl (fun w => exec_neA_eq ⟨s.c.x0, s.c.x1, s.c.x2, v⟩ rfl rfl rfl w) ?_; simp only [Act.put, List.setIfInBounds_toArray, List.set_cons_succ, List.set_cons_zero]))
    refine wpQuiet_nil ?_
    intro _ hw'
    obtain ⟨nq, hw''⟩ := hw'
    subst hw''
    go_wp2
    go_ret
    exact ⟨rfl, H.out _, ((((Two.refl _ _ _).at0 _ _).at0 _ _).drawn _).at0 _ _⟩
  · have hS : s.pickS 3 v = { s with c := s.c.put 3 v, pk := 0 } := by
      unfold Ls.pickS
      rw [if_neg hq, if_neg (fun h => he h.2)]
      rfl
    have H : Hid (∀ m, Sa g n p { s with c := s.c.put 3 v, pk := 0 } (((w.setCell ⟨g, 14, none⟩ (.int .u32 (v : Int))).setCell ⟨g, 15, none⟩ (.int .i64 0)).drewN m)) := fun m =>
      Sa.drawn (Sa.set (s := { s with c := s.c.put 3 v }) (s' := { s with c := s.c.put 3 v, pk := 0 }) (Sa.set h rfl rfl) rfl rfl) m
    have hne : Hid ((⟨s.c.x0, s.c.x1, s.c.x2, v⟩ : A4) ≠ s.a) := by rw [← hC]; exact he
    rw [hB, hS, decide_eq_false he]
    clear h h0 hf hB hS h2 hq hC he
    go_enter Try.func36, Try.ntmps36
    go_wp2_with fail
    refine wp_region_quiet_lit (by kernel_rfl) (by kernel_rfl) ?_
    repeat (first | (go_big_quiet_step (fail)) | (refine quietE (.bool true) rfl (fun w => exec_neA_ne ⟨s.c.x0, s.c.x1, s.c.x2, v⟩ s.a hne.out rfl rfl rfl w) ?_; simp only [Act.put, List.setIfInBounds_toArray, List.set_cons_succ, List.set_cons_zero]))
    refine wpQuiet_nil ?_
    intro _ hw'
    obtain ⟨nq, hw''⟩ := hw'
    subst hw''
    go_wp2
    go_ret
    exact ⟨rfl, H.out _, (((Two.refl _ _ _).at0 _ _).at0 _ _).drawn _⟩
theorem lpick_any (h : Sa g n p s w) (i : Int) (v : Nat) (hi : 0 ≤ i ∧ i ≤ 3) : Calls Try.prog 36 #[.pointer (some ⟨g, 0, none⟩), .int .i64 i, .int .u32 (v : Int)] w fun e w' => e = .returned (.bool (s.pickB i v)) ∧ Sa g n p (s.pickS i v) w' ∧ Two g g w w' := by
  by_cases h1 : i ≠ 0 ∧ i ≠ s.pk
  · exact lpick_out h i v h1.1 h1.2
  · by_cases h3 : i = 3
    · subst h3
      exact lpick_last h v (by omega)
    · exact lpick_mid h i v (by omega) (by omega)
end
end Go.Proofs.Ythbmbabndhpdkaa
