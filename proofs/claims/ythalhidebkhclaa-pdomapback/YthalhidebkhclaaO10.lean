/- Contracts: beyond, weigh. -/
import Derived.Test.YthalhidebkhclaaO9
import Derived.Test.YthalhidebkhclaaTy7
import Derived.Test.YthalhidebkhclaaTy9
import Derived.OrdersHeld
namespace Go.Proofs.Ythalhidebkhclaa
open Go.RowKit Go.Proofs.Ty Go.Sort Go.Lib
set_option linter.unusedVariables false
set_option maxRecDepth 1000000
set_option linter.unusedSimpArgs false
theorem wpOp_runw {ops : Array Oper} {Q : Exit → Act → World → Prop} {K : Act → World → Prop} {a : Act} {w : World} {i : Nat} {o : Oper} (hi : ops[i]? = some o) (hg : Region.wanted o (yielded ops a.tmps) = true) (h : o.wp Try.prog a w K Q) : wpOp Try.prog ops Q i K a w := by
  unfold Go.wpOp
  simp only [hi]
  rw [if_pos hg]
  exact .inl h
theorem run_ldV {w : World} {b o : Nat} {v : Vl} (h : w.rangeAt b o (vlC v)) : (loadVar 42 ⟨b, o, none⟩).run Try.prog w = .ok (.agg v.arr) w :=
  run_loadVar_mid w b o 42 (vlC v) _ h Try.underlying42 rfl (by rw [infoV]; rfl)
theorem run_ldE {w : World} {b o : Nat} {e : En} (h : w.rangeAt b o (enC e)) : (loadVar 59 ⟨b, o, none⟩).run Try.prog w = .ok (.agg e.arr) w :=
  run_loadVar_mid w b o 59 (enC e) _ h Try.underlying59 rfl (by rw [infoE]; rfl)
theorem quiet_ldV {W : World} {ops : Array Oper} {rest : List Oper} {p : Oper} {a : Act} {Q : Act → Prop} {b o : Nat} {v : Vl} (h : W.rangeAt b o (vlC v)) (hl : b < W.heap.size) (hgd : Region.wanted p (yielded ops a.tmps) = true) (x : Operand) (ho : p.op = .load 42 x) (hx : a.eval x = .pointer (some ⟨b, o, none⟩))
    (hh : wpQuiet Try.prog ops (fun w' => ∃ x : Later W, w' = x.now) Q rest (a.put p.dst (.agg v.arr))) : wpQuiet Try.prog ops (fun w' => ∃ x : Later W, w' = x.now) Q (p :: rest) a := by
  unfold wpQuiet
  rw [if_pos hgd]
  refine ⟨.agg v.arr, ?_, hh⟩
  rintro w' ⟨y, rfl⟩
  have hl := run_ldV (rng_below h y.below hl)
  unfold Oper.quietAt execOp
  simp only [ho, hx, Instr.loadAt, Instr.sureAddr, Sem.run_bind, Sem.run_pure, Result.andThen_ok, hl]
  exact ⟨rfl, rfl⟩
theorem quiet_ldE {W : World} {ops : Array Oper} {rest : List Oper} {p : Oper} {a : Act} {Q : Act → Prop} {b o : Nat} {e : En} (h : W.rangeAt b o (enC e)) (hl : b < W.heap.size) (hgd : Region.wanted p (yielded ops a.tmps) = true) (x : Operand) (ho : p.op = .load 59 x) (hx : a.eval x = .pointer (some ⟨b, o, none⟩))
    (hh : wpQuiet Try.prog ops (fun w' => ∃ x : Later W, w' = x.now) Q rest (a.put p.dst (.agg e.arr))) : wpQuiet Try.prog ops (fun w' => ∃ x : Later W, w' = x.now) Q (p :: rest) a := by
  unfold wpQuiet
  rw [if_pos hgd]
  refine ⟨.agg e.arr, ?_, hh⟩
  rintro w' ⟨y, rfl⟩
  have hl := run_ldE (rng_below h y.below hl)
  unfold Oper.quietAt execOp
  simp only [ho, hx, Instr.loadAt, Instr.sureAddr, Sem.run_bind, Sem.run_pure, Result.andThen_ok, hl]
  exact ⟨rfl, rfl⟩
theorem bdrw {w x : World} (h : Below w.drew.heap.size w.drew x) : Below w.heap.size w x := ⟨h.os, h.tape, h.output, h.size, h.block⟩
/-- The code by which limits refuse a value. -/
def bey (e : En) (v : Vl) : Nat := if e.li = false then 0 else if 0 < ordN v e.mx then 101253169 else if ordN v e.mn < 0 then 101253170 else 0
set_option maxHeartbeats 4000000 in
theorem beyond_any {b : Nat} {e : En} {u : Vl} {w : World} (h : Ib b e u w) (v : Vl) :
    Calls Try.prog 57 #[ptrI b, .agg v.arr] w fun x w' => x = .returned (.int .u32 (bey e v)) ∧ Below w.heap.size w w' := by
  have HB : Hid (bey e v = if e.li = false then 0 else if 0 < ordN v e.mx then 101253169 else if ordN v e.mn < 0 then 101253170 else 0) := rfl
  have hO1 := Order_v v e.mx
  have hO2 := Order_v v e.mn
  have B0 : Below w.heap.size w (w.alloc (.cells v.arr 42)) := (Below.refl _ _).alloc (Nat.le_refl _) _
  have f1 := Va.new w v
  have h0 := h.below B0
  clear h
  generalize bey e v = R at *
  generalize ordN v e.mx = N1 at *
  generalize ordN v e.mn = N2 at *
  generalize ordE v e.mx = E1 at *
  generalize ordE v e.mn = E2 at *
  unfold ptrI
  go_enter Try.func57, Try.ntmps57
  go_upto_region 1 with fail
  generalize w.alloc (.cells v.arr 42) = W at *
  obtain ⟨q, hq⟩ : ∃ q, w.heap.size = q := ⟨_, rfl⟩
  simp only [hq] at f1 ⊢
  obtain ⟨c0, c1, c2, c3, c4, c11⟩ := h0.c
  have r1 := h0.r8
  have hb1 := h0.lt
  cases hli : e.li
  · rw [hli] at c4
    have e1 := hidOf2 (show R = 0 by rw [HB.out, if_pos hli])
    clear HB
    go_wp2
    go_ret
    exact ⟨ret_int (by rw [e1.out]; rfl), B0⟩
  · rw [hli] at c4
    rw [if_neg (by rw [hli]; simp)] at HB
    have hL := Later.some W
    go_upto_region 3 with fail
    clear c0 c1 c2 c3 c4 c11
    refine wp_region_later (by kernel_rfl) (by kernel_rfl) ?_
    refine quiet_ldv f1 rfl _ rfl rfl ?_
    simp only [Act.put, List.setIfInBounds_toArray, List.set_cons_succ, List.set_cons_zero]
    go_big_quiet_step (fail)
    go_big_quiet_step (fail)
    go_big_quiet_step (fail)
    go_big_quiet_step (fail)
    refine quiet_ldV r1 hb1 rfl _ rfl rfl ?_
    simp only [Act.put, List.setIfInBounds_toArray, List.set_cons_succ, List.set_cons_zero]
    repeat (go_big_quiet_step (first | (go_at_call 69; with_reducible exact later (hO1 _))))
    refine wpQuiet_nil ?_
    rintro _ ⟨x1, rfl⟩
    have h2 := h0.below x1.below
    have f2 := f1.below x1.below
    have B2 := B0.trans (x1.below.mono (by have := B0.size; omega))
    clear h0 f1 B0 hL hO1 r1 hb1
    generalize x1.now = W2 at *
    clear x1
    have r2 := h2.r5
    have hb2 := h2.lt
    by_cases hn1 : 0 < N1
    · have d1 : decide (0 < N1) = true := decide_eq_true hn1
      have e1 := hidOf2 (show R = 101253169 by rw [HB.out, if_pos hn1])
      clear HB
      go_wp2
      go_ret
      exact ⟨ret_int (by rw [e1.out]; rfl), B2⟩
    · have d1 : decide (0 < N1) = false := decide_eq_false hn1
      rw [if_neg hn1] at HB
      have hL := Later.some W2
      go_upto_region 6 with fail
      refine wp_region_later (by kernel_rfl) (by kernel_rfl) ?_
      refine quiet_ldv f2 rfl _ rfl rfl ?_
      simp only [Act.put, List.setIfInBounds_toArray, List.set_cons_succ, List.set_cons_zero]
      go_big_quiet_step (fail)
      go_big_quiet_step (fail)
      go_big_quiet_step (fail)
      go_big_quiet_step (fail)
      refine quiet_ldV r2 hb2 rfl _ rfl rfl ?_
      simp only [Act.put, List.setIfInBounds_toArray, List.set_cons_succ, List.set_cons_zero]
      repeat (go_big_quiet_step (first | (go_at_call 69; with_reducible exact later (hO2 _))))
      refine wpQuiet_nil ?_
      rintro _ ⟨x1, rfl⟩
      have B3 := B2.trans (x1.below.mono (by have := B2.size; omega))
      clear B2 h2 f2 hL r2 hb2 hO2
      generalize x1.now = W3 at *
      clear x1
      by_cases hn2 : N2 < 0
      · have d2 : decide (N2 < 0) = true := decide_eq_true hn2
        have e1 := hidOf2 (show R = 101253170 by rw [HB.out, if_pos hn2])
        clear HB
        go_wp2
        go_ret
        exact ⟨ret_int (by rw [e1.out]; rfl), by first | exact B3 | (rw [← hq]; exact B3)⟩
      · have d2 : decide (N2 < 0) = false := decide_eq_false hn2
        have e1 := hidOf2 (show R = 0 by rw [HB.out, if_neg hn2])
        clear HB
        go_wp2
        go_ret
        exact ⟨ret_int (by rw [e1.out]; rfl), by first | exact B3 | (rw [← hq]; exact B3)⟩
end Go.Proofs.Ythalhidebkhclaa
