/- The program's slave: a question of a scan. -/
import Derived.Test.YthbmbabndhpdkaaLsD
namespace Go.Proofs.Ythbmbabndhpdkaa
open Go.RowKit
set_option linter.unusedVariables false
set_option maxRecDepth 1000000
set_option linter.unusedSimpArgs false
theorem exec_shr32 {a : Act} {o : Oper} {x y : Operand} {n k : Nat} (ho : o.op = .binOp .shr 22 x y 5) (hx : a.eval x = .int .u32 (n : Int)) (hy : a.eval y = .int .u8 (k : Int)) (hk : k < 32) (w : World) : (execOp a.eval o).run Try.prog w = .ok (.value (.int .u32 ((n / 2 ^ k : Nat) : Int))) w := by
  unfold execOp
  simp only [ho, hx, hy]
  have h2 : ¬ ((k : Int) < 0) := by omega
  simp [go_sem, run_underlying Try.underlying22, h2]
theorem exec_xor32 {a : Act} {o : Oper} {x y : Operand} {m c : Nat} (ho : o.op = .binOp .xor 22 x y 22) (hx : a.eval x = .int .u32 (m : Int)) (hy : a.eval y = .int .u32 (c : Int)) (hm : m < 4294967296) (hc : c < 4294967296) (w : World) : (execOp a.eval o).run Try.prog w = .ok (.value (.int .u32 ((m ^^^ c : Nat) : Int))) w := by
  have hb := u32_xor_nat m c hm hc
  unfold execOp
  simp only [ho, hx, hy]
  simp [go_sem, run_underlying Try.underlying22, hb]
theorem exec_ne0 {a : Act} {o : Oper} {x : Operand} {m : Nat} {b : Bool} (hb : b = decide (m ≠ 0)) (ho : o.op = .binOp .neq 22 x (.const (.int .u32 0)) 22) (hx : a.eval x = .int .u32 (m : Int)) (w : World) : (execOp a.eval o).run Try.prog w = .ok (.value (.bool b)) w := by
  unfold execOp
  simp only [ho, hx]
  by_cases h : m = 0
  · subst h; subst hb; simp [go_sem, run_underlying Try.underlying22]
  · have h2 : ¬ ((m : Int) = 0) := by omega
    subst hb; simp [go_sem, run_underlying Try.underlying22, h, h2]
theorem quietL {C : World → Prop} {ops : Array Oper} {rest : List Oper} {o : Oper} {a : Act} {Q : Act → Prop} {ty : TypeId} {ad : Addr} (v : Value) (hgd : Region.wanted o (yielded ops a.tmps) = true) (x : Operand) (ho : o.op = .load ty x) (hx : a.eval x = .pointer (some ad)) (hr : ∀ w, C w → (loadVar ty ad).run Try.prog w = .ok v w)
    (hh : wpQuiet Try.prog ops C Q rest (a.put o.dst v)) : wpQuiet Try.prog ops C Q (o :: rest) a := by
  unfold wpQuiet
  rw [if_pos hgd]
  refine ⟨v, ?_, hh⟩
  intro w' hw
  unfold Oper.quietAt execOp
  simp only [ho, hx, Instr.loadAt, Instr.sureAddr, Sem.run_bind, Sem.run_pure, Result.andThen_ok, hr w' hw]
  exact ⟨rfl, rfl⟩
section
variable {g n : Nat} {p : Option Nat} {s : Ls} {w x : World}
theorem later_c {W : World} {a : Addr} {v : Value} (h : W.cell? a = some v) (hl : a.block < W.heap.size) (x : Later W) : x.now.cell? a = some v := (x.below.cell hl).trans h
set_option maxHeartbeats 4000000 in
theorem lscan_new (h : Sa g n p s w) (ho : s.Ok) (q : F8) (h1 : q.b5.toNat = 128) : Calls Try.prog 38 #[.pointer (some ⟨g, 0, none⟩), .agg q.arr] w fun e w' => e = .returned (.bool (s.scanB q)) ∧ Sa g n p (s.scanS q) w' ∧ Two g g w w' := by
  obtain ⟨W, k, hW, hk, q0, b0, hkl⟩ := Qb.fresh1 w q
  have hgk : g < k := by rw [← hk]; exact h.lt
  have T0 : Two g g w W := by rw [← hW]; exact (Two.refl _ _ _).alloc _
  have S0 : Sa g n p s W := h.below b0
  have u5 := q0.c5
  have u6 := q0.c6
  have u7 := q0.c7
  have l5 := q.b5.toNat_lt
  have l6 := q.b6.toNat_lt
  have l7 := q.b7.toNat_lt
  obtain ⟨c0, c1, c2, c3, c4, _, _, _, _, _, _, _, _, _, _, _, c16, hf⟩ := S0.cells
  have f4 := hf 4
  have f16 := hf 16
  have hB : s.scanB q = true := by simp [Ls.scanB, h1]
  have hS : s.scanS q = { s with lk := 0 } := by unfold Ls.scanS; rw [if_pos h1]
  have H : Hid (∀ m, Sa g n p { s with lk := 0 } ((W.drewN m).setCell ⟨g, 16, none⟩ (.int .u8 0))) := fun m => Sa.set (S0.drawn m) rfl rfl
  rw [hB, hS]
  rw [h1] at u5
  clear h hf h1 hB hS S0 q0 b0
  go_enter Try.func38, Try.ntmps38
  go_wp2_with fail
  go_quiet (fail)
  go_wp2
  go_ret
  exact ⟨rfl, H.out _, (T0.drawn _).at0 _ _⟩
set_option maxHeartbeats 4000000 in
theorem lscan_bit (h : Sa g n p s w) (ho : s.Ok) (q : F8) (h1 : q.b5.toNat ≠ 128) (h2 : 31 < q.b5.toNat) : Calls Try.prog 38 #[.pointer (some ⟨g, 0, none⟩), .agg q.arr] w fun e w' => e = .returned (.bool (s.scanB q)) ∧ Sa g n p (s.scanS q) w' ∧ Two g g w w' := by
  obtain ⟨W, k, hW, hk, q0, b0, hkl⟩ := Qb.fresh1 w q
  have hgk : g < k := by rw [← hk]; exact h.lt
  have T0 : Two g g w W := by rw [← hW]; exact (Two.refl _ _ _).alloc _
  have S0 : Sa g n p s W := h.below b0
  have u5 := q0.c5
  have u6 := q0.c6
  have u7 := q0.c7
  have l5 := q.b5.toNat_lt
  have l6 := q.b6.toNat_lt
  have l7 := q.b7.toNat_lt
  obtain ⟨c0, c1, c2, c3, c4, _, _, _, _, _, _, _, _, _, _, _, c16, hf⟩ := S0.cells
  have f4 := hf 4
  have f16 := hf 16
  have hQ : s.scanQ q = false := by simp [Ls.scanQ]; omega
  have hB : s.scanB q = false := by simp [Ls.scanB, h1, hQ]
  have hS : s.scanS q = s := by unfold Ls.scanS; rw [if_neg h1, hQ]; rfl
  have H : Hid (∀ m, Sa g n p s (W.drewN m)) := fun m => S0.drawn m
  have e128 : ((q.b5.toNat : Int) == 128) = false := by simp; omega
  have d1 : decide ((31 : Int) < (q.b5.toNat : Int)) = true := by simp; omega
  rw [hB, hS]
  clear h hf h1 hB hS S0 q0 b0 hQ h2
  go_enter Try.func38, Try.ntmps38
  go_wp2_with fail
  go_quiet (fail)
  go_wp2_with fail
  go_quiet (fail)
  go_wp2
  go_ret
  exact ⟨rfl, (H.out _).drawn _, (T0.drawn _).drawn _⟩
set_option maxHeartbeats 4000000 in
theorem lscan_part (h : Sa g n p s w) (ho : s.Ok) (q : F8) (h1 : q.b5.toNat ≠ 128) (h2 : q.b5.toNat ≤ 31) (h3 : (q.b6.toNat : Int) ≠ s.lk) : Calls Try.prog 38 #[.pointer (some ⟨g, 0, none⟩), .agg q.arr] w fun e w' => e = .returned (.bool (s.scanB q)) ∧ Sa g n p (s.scanS q) w' ∧ Two g g w w' := by
  obtain ⟨W, k, hW, hk, q0, b0, hkl⟩ := Qb.fresh1 w q
  have hgk : g < k := by rw [← hk]; exact h.lt
  have T0 : Two g g w W := by rw [← hW]; exact (Two.refl _ _ _).alloc _
  have S0 : Sa g n p s W := h.below b0
  have u5 := q0.c5
  have u6 := q0.c6
  have u7 := q0.c7
  have l5 := q.b5.toNat_lt
  have l6 := q.b6.toNat_lt
  have l7 := q.b7.toNat_lt
  obtain ⟨c0, c1, c2, c3, c4, _, _, _, _, _, _, _, _, _, _, _, c16, hf⟩ := S0.cells
  have f4 := hf 4
  have f16 := hf 16
  have hQ : s.scanQ q = false := by simp [Ls.scanQ]; omega
  have hB : s.scanB q = false := by simp [Ls.scanB, h1, hQ]
  have hS : s.scanS q = s := by unfold Ls.scanS; rw [if_neg h1, hQ]; rfl
  have H : Hid (∀ m, Sa g n p s (W.drewN m)) := fun m => S0.drawn m
  have e128 : ((q.b5.toNat : Int) == 128) = false := by simp; omega
  have d1 : decide ((31 : Int) < (q.b5.toNat : Int)) = false := by simp; omega
  have d2 : ((q.b6.toNat : Int) != s.lk) = true := by simp [h3]
  rw [hB, hS]
  clear h hf h1 hB hS S0 q0 b0 hQ h2 h3
  go_enter Try.func38, Try.ntmps38
  go_wp2_with fail
  go_quiet (fail)
  go_wp2_with fail
  go_quiet (fail)
  go_wp2
  go_ret
  exact ⟨rfl, (H.out _).drawn _, (T0.drawn _).drawn _⟩
set_option maxHeartbeats 4000000 in
theorem lscan_next (h : Sa g n p s w) (ho : s.Ok) (q : F8) (h1 : q.b5.toNat ≠ 128) (h2 : q.b5.toNat ≤ 31) (h3 : (q.b6.toNat : Int) = s.lk) (h4 : 4 ≤ q.b7.toNat) : Calls Try.prog 38 #[.pointer (some ⟨g, 0, none⟩), .agg q.arr] w fun e w' => e = .returned (.bool (s.scanB q)) ∧ Sa g n p (s.scanS q) w' ∧ Two g g w w' := by
  obtain ⟨W, k, hW, hk, q0, b0, hkl⟩ := Qb.fresh1 w q
  have hgk : g < k := by rw [← hk]; exact h.lt
  have T0 : Two g g w W := by rw [← hW]; exact (Two.refl _ _ _).alloc _
  have S0 : Sa g n p s W := h.below b0
  have u5 := q0.c5
  have u6 := q0.c6
  have u7 := q0.c7
  have l5 := q.b5.toNat_lt
  have l6 := q.b6.toNat_lt
  have l7 := q.b7.toNat_lt
  obtain ⟨c0, c1, c2, c3, c4, _, _, _, _, _, _, _, _, _, _, _, c16, hf⟩ := S0.cells
  have f4 := hf 4
  have f16 := hf 16
  have hQ : s.scanQ q = false := by simp [Ls.scanQ]; omega
  have hB : s.scanB q = false := by simp [Ls.scanB, h1, hQ]
  have hS : s.scanS q = s := by unfold Ls.scanS; rw [if_neg h1, hQ]; rfl
  have H : Hid (∀ m, Sa g n p s (W.drewN m)) := fun m => S0.drawn m
  have e128 : ((q.b5.toNat : Int) == 128) = false := by simp; omega
  have d1 : decide ((31 : Int) < (q.b5.toNat : Int)) = false := by simp; omega
  rw [← h3] at c16
  have d3 : decide ((4 : Int) ≤ (q.b7.toNat : Int)) = true := by simp; omega
  rw [hB, hS]
  clear h hf h1 hB hS S0 q0 b0 hQ h2 h3 h4
  go_enter Try.func38, Try.ntmps38
  go_wp2_with fail
  go_quiet (fail)
  go_wp2_with fail
  go_quiet (fail)
  go_wp2
  go_ret
  exact ⟨rfl, (H.out _).drawn _, (T0.drawn _).drawn _⟩
set_option maxHeartbeats 4000000 in
theorem lscan_in0 (h : Sa g n p s w) (ho : s.Ok) (q : F8) (h1 : q.b5.toNat ≠ 128) (h2 : q.b5.toNat ≤ 31) (h3 : q.b6.toNat = 0) (h5 : s.lk = 0) (h4 : q.b7.toNat < 4) : Calls Try.prog 38 #[.pointer (some ⟨g, 0, none⟩), .agg q.arr] w fun e w' => e = .returned (.bool (s.scanB q)) ∧ Sa g n p (s.scanS q) w' ∧ Two g g w w' := by
  obtain ⟨W, k, hW, hk, q0, b0, hkl⟩ := Qb.fresh1 w q
  have hgk : g < k := by rw [← hk]; exact h.lt
  have T0 : Two g g w W := by rw [← hW]; exact (Two.refl _ _ _).alloc _
  have S0 : Sa g n p s W := h.below b0
  have u5 := q0.c5
  have u6 := q0.c6
  have u7 := q0.c7
  have l5 := q.b5.toNat_lt
  have l6 := q.b6.toNat_lt
  have l7 := q.b7.toNat_lt
  obtain ⟨c0, c1, c2, c3, c4, _, _, _, _, _, _, _, _, _, _, _, c16, hf⟩ := S0.cells
  have f4 := hf 4
  have f16 := hf 16
  have hR : s.scanQ q = hiE s.a.x0 (numq q) q.b5.toNat := by
    unfold Ls.scanQ
    rw [h5, h3]
    simp [h2, h4]
    rfl
  have e128 : ((q.b5.toNat : Int) == 128) = false := by simp; omega
  have d1 : decide ((31 : Int) < (q.b5.toNat : Int)) = false := by simp; omega
  have d3 : decide ((4 : Int) ≤ (q.b7.toNat : Int)) = false := by simp; omega
  rw [h3] at u6
  rw [h5] at c16
  have hkW : k < W.heap.size := hkl
  have hgW : g < W.heap.size := S0.lt
  have L16 : ∀ m (y : Later (W.drewN m)), y.now.cell? ⟨g, 16, none⟩ = some (.int .u8 0) := fun m y => later_c (W := W.drewN m) c16 hgW y
  have Lj : ∀ m (y : Later (W.drewN m)), y.now.cell? ⟨g, 0, none⟩ = some (.int .u32 (s.a.x0 : Int)) := fun m y => later_c (W := W.drewN m) c0 hgW y
  have LF : Hid (∀ m (y : Later (W.drewN m)), (loadVar 34 ⟨k, 0, none⟩).run Try.prog y.now = .ok (.agg q.arr) y.now) := fun m y => (Qb.below (w := W.drewN m) q0 y.below).load
  have hNm : ∀ x, Calls Try.prog 37 #[.agg q.arr] x fun e w' => e = .returned (.int .u32 (numq q : Nat)) ∧ Below x.heap.size x w' := fun x => lnumber_any q x
  have HS0 : Hid (∀ m (y : Later (W.drewN m)), Sa g n p s y.now) := fun m y => (S0.drawn m).below y.below
  have HT0 : Hid (∀ m (y : Later (W.drewN m)), Two g g w y.now) := fun m y => (T0.drawn m).trans ⟨y.below.os, y.below.tape, y.below.output, y.below.size, fun i hi _ _ => y.below.block i hi⟩
  have hax : s.a.x0 < 4294967296 := by have := ho.a; obtain ⟨x0, x1, x2, x3⟩ := this; assumption
  have hqn := numq_lt q
  have hE : hiE s.a.x0 (numq q) q.b5.toNat = decide ((s.a.x0 ^^^ numq q) / 2 ^ q.b5.toNat = 0) := rfl
  rw [hE] at hR
  obtain ⟨R0, hR0⟩ : ∃ r, (s.a.x0 ^^^ numq q) / 2 ^ q.b5.toNat = r := ⟨_, rfl⟩
  obtain ⟨N0, hN0⟩ : ∃ r, numq q = r := ⟨_, rfl⟩
  rw [hN0] at hNm hqn hR0
  rw [hN0, hR0] at hR
  have hLt := Later.some
  have f4L : ∀ m (y : Later (W.drewN m)), y.now.frozen? ⟨g, 4, none⟩ = false := fun m y => ((HS0.out m y).cells).2.2.2.2.2.2.2.2.2.2.2.2.2.2.2.2.2 4
  have f16L : ∀ m (y : Later (W.drewN m)), y.now.frozen? ⟨g, 16, none⟩ = false := fun m y => ((HS0.out m y).cells).2.2.2.2.2.2.2.2.2.2.2.2.2.2.2.2.2 16
  have c4L : ∀ m (y : Later (W.drewN m)), y.now.cell? ⟨g, 4, none⟩ = some (.int .i64 s.mode) := fun m y => ((HS0.out m y).cells).2.2.2.2.1
  have hX : Hid ((s.a.x0 ^^^ N0) / 2 ^ q.b5.toNat = R0 ∧ s.a.x0 < 4294967296 ∧ N0 < 4294967296 ∧ q.b5.toNat < 32) := ⟨hR0, hax, hqn, by omega⟩
  have HH : Hid (s.scanB q = s.scanQ q) := by show _ = _; simp [Ls.scanB, h1]
  have HSS : Hid (s.scanS q = if s.scanQ q then (if q.b5.toNat = 0 then (if q.b7.toNat < q.b6.toNat then { s with lk := 0, mode := 1 } else { s with lk := (q.b7.toNat : Int) }) else s) else s) := by show _ = _; unfold Ls.scanS; rw [if_neg h1]
  rw [h3] at HSS
  have dx : Hid ((bits .xor .u32 (s.a.x0 : Int) (N0 : Int) / 2 ^ min q.b5.toNat 32 != 0) = decide (R0 ≠ 0)) := by
    show _ = _
    rw [u32_xor_nat _ _ hax hqn, Nat.min_eq_left (by omega : q.b5.toNat ≤ 32), show (2 : Int) ^ q.b5.toNat = ((2 ^ q.b5.toNat : Nat) : Int) by simp, ← Int.natCast_ediv, hR0]
    by_cases h : R0 = 0
    · subst h; rfl
    · have h2 : ¬ ((R0 : Int) = 0) := by omega
      simp [h, h2]
  have HR := hidOf2 hR
  have hR2 : R0 = 0 ∨ R0 ≠ 0 := by omega
  generalize s.scanB q = OB at *
  generalize s.scanS q = OS at *
  generalize s.scanQ q = OQ at *
  generalize q.b5.toNat = Q5 at *
  generalize q.b7.toNat = Q7 at *
  clear h hf S0 q0 b0 c0 c1 c2 c3 c4 f4 f16 hE hR0 hN0 hR hax hqn h1 h2 h4 hkl T0
  go_enter Try.func38, Try.ntmps38
  go_wp2_with fail
  go_quiet (fail)
  go_wp2_with fail
  refine wp_region_later (by kernel_rfl) (by kernel_rfl) ?_
  repeat (first
    | (go_big_quiet_step (first | (go_at_call 37; with_reducible exact later (hNm _))))
    | (refine quietL (.agg q.arr) rfl _ rfl rfl (fun w' hw => by obtain ⟨y, rfl⟩ := hw; exact LF.out _ y) ?_; simp only [Act.put, List.setIfInBounds_toArray, List.set_cons_succ, List.set_cons_zero]))
  refine wpQuiet_nil ?_
  rintro _ ⟨x1, rfl⟩
  have S1 := HS0.out _ x1
  have T1 := HT0.out _ x1
  have z4 := f4L _ x1
  have z16 := f16L _ x1
  have y4 := c4L _ x1
  have y16 := L16 _ x1
  clear HS0 HT0 f4L f16L c4L L16 Lj LF hNm hX
  rw [dx.out]
  clear dx
  generalize x1.now = Y at *
  rcases hR2 with e | e
  · have d : decide (R0 ≠ 0) = false := by simp [e]
    have hq : OQ = true := by rw [HR.out]; simp [e]
    have hb : Hid (OB = true) := by show _ = _; rw [HH.out, hq]
    rw [d]
    rw [hq] at HSS
    clear HR HH d hq e
    by_cases h5 : Q5 = 0
    · subst h5
      by_cases h7 : Q7 < 0
      · have hs : Hid (OS = { s with lk := 0, mode := 1 }) := by show _ = _; rw [HSS.out, if_pos rfl, if_pos rfl, if_pos h7]
        have d7 : decide ((Q7 : Int) < 0) = true := by simp only [decide_eq_true_eq]; omega
        have H : Hid (Sa g n p { s with lk := 0, mode := 1 } (((Y.setCell ⟨g, 16, none⟩ (.int .u8 (Q7 : Int))).setCell ⟨g, 4, none⟩ (.int .i64 1)).setCell ⟨g, 16, none⟩ (.int .u8 0))) :=
          Sa.set (s := { s with lk := (Q7 : Int), mode := 1 }) (s' := { s with lk := 0, mode := 1 }) (Sa.set (s := { s with lk := (Q7 : Int) }) (s' := { s with lk := (Q7 : Int), mode := 1 }) (Sa.set S1 rfl rfl) rfl rfl) rfl rfl
        clear HSS h7 S1
        go_wp2
        go_ret
        exact ⟨ret_bool hb.out.symm, by rw [hs.out]; exact H.out, ((T1.at0 _ _).at0 _ _).at0 _ _⟩
      · have hs : Hid (OS = { s with lk := (Q7 : Int) }) := by show _ = _; rw [HSS.out, if_pos rfl, if_pos rfl, if_neg h7]
        have d7 : decide ((Q7 : Int) < 0) = false := by simp only [decide_eq_false_iff_not]; omega
        have H : Hid (Sa g n p { s with lk := (Q7 : Int) } (Y.setCell ⟨g, 16, none⟩ (.int .u8 (Q7 : Int)))) := Sa.set S1 rfl rfl
        clear HSS h7 S1
        go_wp2
        go_ret
        exact ⟨ret_bool hb.out.symm, by rw [hs.out]; exact H.out, T1.at0 _ _⟩
    · have d5 : decide ((0 : Int) < (Q5 : Int)) = true := by simp; omega
      have d6 : 0 < Q5 := by omega
      have hs : Hid (OS = s) := by show _ = _; rw [HSS.out, if_pos rfl, if_neg h5]
      have H := hidOf2 S1
      clear HSS S1 h5
      go_wp2
      go_ret
      exact ⟨ret_bool hb.out.symm, by rw [hs.out]; exact H.out, T1⟩
  · have d : decide (R0 ≠ 0) = true := by simp [e]
    have hq : OQ = false := by rw [HR.out]; simp [e]
    have hb : Hid (OB = false) := by show _ = _; rw [HH.out, hq]
    have hs : Hid (OS = s) := by show _ = _; rw [HSS.out, hq]; rfl
    rw [d]
    have H := hidOf2 S1
    clear HR HH d hq HSS e S1
    go_wp2
    go_ret
    exact ⟨ret_bool hb.out.symm, by rw [hs.out]; exact H.out, T1⟩
set_option maxHeartbeats 4000000 in
theorem lscan_in1 (h : Sa g n p s w) (ho : s.Ok) (q : F8) (h1 : q.b5.toNat ≠ 128) (h2 : q.b5.toNat ≤ 31) (h3 : q.b6.toNat = 1) (h5 : s.lk = 1) (h4 : q.b7.toNat < 4) : Calls Try.prog 38 #[.pointer (some ⟨g, 0, none⟩), .agg q.arr] w fun e w' => e = .returned (.bool (s.scanB q)) ∧ Sa g n p (s.scanS q) w' ∧ Two g g w w' := by
  obtain ⟨W, k, hW, hk, q0, b0, hkl⟩ := Qb.fresh1 w q
  have hgk : g < k := by rw [← hk]; exact h.lt
  have T0 : Two g g w W := by rw [← hW]; exact (Two.refl _ _ _).alloc _
  have S0 : Sa g n p s W := h.below b0
  have u5 := q0.c5
  have u6 := q0.c6
  have u7 := q0.c7
  have l5 := q.b5.toNat_lt
  have l6 := q.b6.toNat_lt
  have l7 := q.b7.toNat_lt
  obtain ⟨c0, c1, c2, c3, c4, _, _, _, _, _, _, _, _, _, _, _, c16, hf⟩ := S0.cells
  have f4 := hf 4
  have f16 := hf 16
  have hR : s.scanQ q = hiE s.a.x1 (numq q) q.b5.toNat := by
    unfold Ls.scanQ
    rw [h5, h3]
    simp [h2, h4]
    rfl
  have e128 : ((q.b5.toNat : Int) == 128) = false := by simp; omega
  have d1 : decide ((31 : Int) < (q.b5.toNat : Int)) = false := by simp; omega
  have d3 : decide ((4 : Int) ≤ (q.b7.toNat : Int)) = false := by simp; omega
  rw [h3] at u6
  rw [h5] at c16
  have hkW : k < W.heap.size := hkl
  have hgW : g < W.heap.size := S0.lt
  have L16 : ∀ m (y : Later (W.drewN m)), y.now.cell? ⟨g, 16, none⟩ = some (.int .u8 1) := fun m y => later_c (W := W.drewN m) c16 hgW y
  have Lj : ∀ m (y : Later (W.drewN m)), y.now.cell? ⟨g, 1, none⟩ = some (.int .u32 (s.a.x1 : Int)) := fun m y => later_c (W := W.drewN m) c1 hgW y
  have LF : Hid (∀ m (y : Later (W.drewN m)), (loadVar 34 ⟨k, 0, none⟩).run Try.prog y.now = .ok (.agg q.arr) y.now) := fun m y => (Qb.below (w := W.drewN m) q0 y.below).load
  have hNm : ∀ x, Calls Try.prog 37 #[.agg q.arr] x fun e w' => e = .returned (.int .u32 (numq q : Nat)) ∧ Below x.heap.size x w' := fun x => lnumber_any q x
  have HS0 : Hid (∀ m (y : Later (W.drewN m)), Sa g n p s y.now) := fun m y => (S0.drawn m).below y.below
  have HT0 : Hid (∀ m (y : Later (W.drewN m)), Two g g w y.now) := fun m y => (T0.drawn m).trans ⟨y.below.os, y.below.tape, y.below.output, y.below.size, fun i hi _ _ => y.below.block i hi⟩
  have hax : s.a.x1 < 4294967296 := by have := ho.a; obtain ⟨x0, x1, x2, x3⟩ := this; assumption
  have hqn := numq_lt q
  have hE : hiE s.a.x1 (numq q) q.b5.toNat = decide ((s.a.x1 ^^^ numq q) / 2 ^ q.b5.toNat = 0) := rfl
  rw [hE] at hR
  obtain ⟨R0, hR0⟩ : ∃ r, (s.a.x1 ^^^ numq q) / 2 ^ q.b5.toNat = r := ⟨_, rfl⟩
  obtain ⟨N0, hN0⟩ : ∃ r, numq q = r := ⟨_, rfl⟩
  rw [hN0] at hNm hqn hR0
  rw [hN0, hR0] at hR
  have hLt := Later.some
  have f4L : ∀ m (y : Later (W.drewN m)), y.now.frozen? ⟨g, 4, none⟩ = false := fun m y => ((HS0.out m y).cells).2.2.2.2.2.2.2.2.2.2.2.2.2.2.2.2.2 4
  have f16L : ∀ m (y : Later (W.drewN m)), y.now.frozen? ⟨g, 16, none⟩ = false := fun m y => ((HS0.out m y).cells).2.2.2.2.2.2.2.2.2.2.2.2.2.2.2.2.2 16
  have c4L : ∀ m (y : Later (W.drewN m)), y.now.cell? ⟨g, 4, none⟩ = some (.int .i64 s.mode) := fun m y => ((HS0.out m y).cells).2.2.2.2.1
  have hX : Hid ((s.a.x1 ^^^ N0) / 2 ^ q.b5.toNat = R0 ∧ s.a.x1 < 4294967296 ∧ N0 < 4294967296 ∧ q.b5.toNat < 32) := ⟨hR0, hax, hqn, by omega⟩
  have HH : Hid (s.scanB q = s.scanQ q) := by show _ = _; simp [Ls.scanB, h1]
  have HSS : Hid (s.scanS q = if s.scanQ q then (if q.b5.toNat = 0 then (if q.b7.toNat < q.b6.toNat then { s with lk := 0, mode := 1 } else { s with lk := (q.b7.toNat : Int) }) else s) else s) := by show _ = _; unfold Ls.scanS; rw [if_neg h1]
  rw [h3] at HSS
  have dx : Hid ((bits .xor .u32 (s.a.x1 : Int) (N0 : Int) / 2 ^ min q.b5.toNat 32 != 0) = decide (R0 ≠ 0)) := by
    show _ = _
    rw [u32_xor_nat _ _ hax hqn, Nat.min_eq_left (by omega : q.b5.toNat ≤ 32), show (2 : Int) ^ q.b5.toNat = ((2 ^ q.b5.toNat : Nat) : Int) by simp, ← Int.natCast_ediv, hR0]
    by_cases h : R0 = 0
    · subst h; rfl
    · have h2 : ¬ ((R0 : Int) = 0) := by omega
      simp [h, h2]
  have HR := hidOf2 hR
  have hR2 : R0 = 0 ∨ R0 ≠ 0 := by omega
  generalize s.scanB q = OB at *
  generalize s.scanS q = OS at *
  generalize s.scanQ q = OQ at *
  generalize q.b5.toNat = Q5 at *
  generalize q.b7.toNat = Q7 at *
  clear h hf S0 q0 b0 c0 c1 c2 c3 c4 f4 f16 hE hR0 hN0 hR hax hqn h1 h2 h4 hkl T0
  go_enter Try.func38, Try.ntmps38
  go_wp2_with fail
  go_quiet (fail)
  go_wp2_with fail
  refine wp_region_later (by kernel_rfl) (by kernel_rfl) ?_
  repeat (first
    | (go_big_quiet_step (first | (go_at_call 37; with_reducible exact later (hNm _))))
    | (refine quietL (.agg q.arr) rfl _ rfl rfl (fun w' hw => by obtain ⟨y, rfl⟩ := hw; exact LF.out _ y) ?_; simp only [Act.put, List.setIfInBounds_toArray, List.set_cons_succ, List.set_cons_zero]))
  refine wpQuiet_nil ?_
  rintro _ ⟨x1, rfl⟩
  have S1 := HS0.out _ x1
  have T1 := HT0.out _ x1
  have z4 := f4L _ x1
  have z16 := f16L _ x1
  have y4 := c4L _ x1
  have y16 := L16 _ x1
  clear HS0 HT0 f4L f16L c4L L16 Lj LF hNm hX
  rw [dx.out]
  clear dx
  generalize x1.now = Y at *
  rcases hR2 with e | e
  · have d : decide (R0 ≠ 0) = false := by simp [e]
    have hq : OQ = true := by rw [HR.out]; simp [e]
    have hb : Hid (OB = true) := by show _ = _; rw [HH.out, hq]
    rw [d]
    rw [hq] at HSS
    clear HR HH d hq e
    by_cases h5 : Q5 = 0
    · subst h5
      by_cases h7 : Q7 < 1
      · have hs : Hid (OS = { s with lk := 0, mode := 1 }) := by show _ = _; rw [HSS.out, if_pos rfl, if_pos rfl, if_pos h7]
        have d7 : decide ((Q7 : Int) < 1) = true := by simp only [decide_eq_true_eq]; omega
        have H : Hid (Sa g n p { s with lk := 0, mode := 1 } (((Y.setCell ⟨g, 16, none⟩ (.int .u8 (Q7 : Int))).setCell ⟨g, 4, none⟩ (.int .i64 1)).setCell ⟨g, 16, none⟩ (.int .u8 0))) :=
          Sa.set (s := { s with lk := (Q7 : Int), mode := 1 }) (s' := { s with lk := 0, mode := 1 }) (Sa.set (s := { s with lk := (Q7 : Int) }) (s' := { s with lk := (Q7 : Int), mode := 1 }) (Sa.set S1 rfl rfl) rfl rfl) rfl rfl
        clear HSS h7 S1
        go_wp2
        go_ret
        exact ⟨ret_bool hb.out.symm, by rw [hs.out]; exact H.out, ((T1.at0 _ _).at0 _ _).at0 _ _⟩
      · have hs : Hid (OS = { s with lk := (Q7 : Int) }) := by show _ = _; rw [HSS.out, if_pos rfl, if_pos rfl, if_neg h7]
        have d7 : decide ((Q7 : Int) < 1) = false := by simp only [decide_eq_false_iff_not]; omega
        have H : Hid (Sa g n p { s with lk := (Q7 : Int) } (Y.setCell ⟨g, 16, none⟩ (.int .u8 (Q7 : Int)))) := Sa.set S1 rfl rfl
        clear HSS h7 S1
        go_wp2
        go_ret
        exact ⟨ret_bool hb.out.symm, by rw [hs.out]; exact H.out, T1.at0 _ _⟩
    · have d5 : decide ((0 : Int) < (Q5 : Int)) = true := by simp; omega
      have d6 : 0 < Q5 := by omega
      have hs : Hid (OS = s) := by show _ = _; rw [HSS.out, if_pos rfl, if_neg h5]
      have H := hidOf2 S1
      clear HSS S1 h5
      go_wp2
      go_ret
      exact ⟨ret_bool hb.out.symm, by rw [hs.out]; exact H.out, T1⟩
  · have d : decide (R0 ≠ 0) = true := by simp [e]
    have hq : OQ = false := by rw [HR.out]; simp [e]
    have hb : Hid (OB = false) := by show _ = _; rw [HH.out, hq]
    have hs : Hid (OS = s) := by show _ = _; rw [HSS.out, hq]; rfl
    rw [d]
    have H := hidOf2 S1
    clear HR HH d hq HSS e S1
    go_wp2
    go_ret
    exact ⟨ret_bool hb.out.symm, by rw [hs.out]; exact H.out, T1⟩
set_option maxHeartbeats 4000000 in
theorem lscan_in2 (h : Sa g n p s w) (ho : s.Ok) (q : F8) (h1 : q.b5.toNat ≠ 128) (h2 : q.b5.toNat ≤ 31) (h3 : q.b6.toNat = 2) (h5 : s.lk = 2) (h4 : q.b7.toNat < 4) : Calls Try.prog 38 #[.pointer (some ⟨g, 0, none⟩), .agg q.arr] w fun e w' => e = .returned (.bool (s.scanB q)) ∧ Sa g n p (s.scanS q) w' ∧ Two g g w w' := by
  obtain ⟨W, k, hW, hk, q0, b0, hkl⟩ := Qb.fresh1 w q
  have hgk : g < k := by rw [← hk]; exact h.lt
  have T0 : Two g g w W := by rw [← hW]; exact (Two.refl _ _ _).alloc _
  have S0 : Sa g n p s W := h.below b0
  have u5 := q0.c5
  have u6 := q0.c6
  have u7 := q0.c7
  have l5 := q.b5.toNat_lt
  have l6 := q.b6.toNat_lt
  have l7 := q.b7.toNat_lt
  obtain ⟨c0, c1, c2, c3, c4, _, _, _, _, _, _, _, _, _, _, _, c16, hf⟩ := S0.cells
  have f4 := hf 4
  have f16 := hf 16
  have hR : s.scanQ q = hiE s.a.x2 (numq q) q.b5.toNat := by
    unfold Ls.scanQ
    rw [h5, h3]
    simp [h2, h4]
    rfl
  have e128 : ((q.b5.toNat : Int) == 128) = false := by simp; omega
  have d1 : decide ((31 : Int) < (q.b5.toNat : Int)) = false := by simp; omega
  have d3 : decide ((4 : Int) ≤ (q.b7.toNat : Int)) = false := by simp; omega
  rw [h3] at u6
  rw [h5] at c16
  have hkW : k < W.heap.size := hkl
  have hgW : g < W.heap.size := S0.lt
  have L16 : ∀ m (y : Later (W.drewN m)), y.now.cell? ⟨g, 16, none⟩ = some (.int .u8 2) := fun m y => later_c (W := W.drewN m) c16 hgW y
  have Lj : ∀ m (y : Later (W.drewN m)), y.now.cell? ⟨g, 2, none⟩ = some (.int .u32 (s.a.x2 : Int)) := fun m y => later_c (W := W.drewN m) c2 hgW y
  have LF : Hid (∀ m (y : Later (W.drewN m)), (loadVar 34 ⟨k, 0, none⟩).run Try.prog y.now = .ok (.agg q.arr) y.now) := fun m y => (Qb.below (w := W.drewN m) q0 y.below).load
  have hNm : ∀ x, Calls Try.prog 37 #[.agg q.arr] x fun e w' => e = .returned (.int .u32 (numq q : Nat)) ∧ Below x.heap.size x w' := fun x => lnumber_any q x
  have HS0 : Hid (∀ m (y : Later (W.drewN m)), Sa g n p s y.now) := fun m y => (S0.drawn m).below y.below
  have HT0 : Hid (∀ m (y : Later (W.drewN m)), Two g g w y.now) := fun m y => (T0.drawn m).trans ⟨y.below.os, y.below.tape, y.below.output, y.below.size, fun i hi _ _ => y.below.block i hi⟩
  have hax : s.a.x2 < 4294967296 := by have := ho.a; obtain ⟨x0, x1, x2, x3⟩ := this; assumption
  have hqn := numq_lt q
  have hE : hiE s.a.x2 (numq q) q.b5.toNat = decide ((s.a.x2 ^^^ numq q) / 2 ^ q.b5.toNat = 0) := rfl
  rw [hE] at hR
  obtain ⟨R0, hR0⟩ : ∃ r, (s.a.x2 ^^^ numq q) / 2 ^ q.b5.toNat = r := ⟨_, rfl⟩
  obtain ⟨N0, hN0⟩ : ∃ r, numq q = r := ⟨_, rfl⟩
  rw [hN0] at hNm hqn hR0
  rw [hN0, hR0] at hR
  have hLt := Later.some
  have f4L : ∀ m (y : Later (W.drewN m)), y.now.frozen? ⟨g, 4, none⟩ = false := fun m y => ((HS0.out m y).cells).2.2.2.2.2.2.2.2.2.2.2.2.2.2.2.2.2 4
  have f16L : ∀ m (y : Later (W.drewN m)), y.now.frozen? ⟨g, 16, none⟩ = false := fun m y => ((HS0.out m y).cells).2.2.2.2.2.2.2.2.2.2.2.2.2.2.2.2.2 16
  have c4L : ∀ m (y : Later (W.drewN m)), y.now.cell? ⟨g, 4, none⟩ = some (.int .i64 s.mode) := fun m y => ((HS0.out m y).cells).2.2.2.2.1
  have hX : Hid ((s.a.x2 ^^^ N0) / 2 ^ q.b5.toNat = R0 ∧ s.a.x2 < 4294967296 ∧ N0 < 4294967296 ∧ q.b5.toNat < 32) := ⟨hR0, hax, hqn, by omega⟩
  have HH : Hid (s.scanB q = s.scanQ q) := by show _ = _; simp [Ls.scanB, h1]
  have HSS : Hid (s.scanS q = if s.scanQ q then (if q.b5.toNat = 0 then (if q.b7.toNat < q.b6.toNat then { s with lk := 0, mode := 1 } else { s with lk := (q.b7.toNat : Int) }) else s) else s) := by show _ = _; unfold Ls.scanS; rw [if_neg h1]
  rw [h3] at HSS
  have dx : Hid ((bits .xor .u32 (s.a.x2 : Int) (N0 : Int) / 2 ^ min q.b5.toNat 32 != 0) = decide (R0 ≠ 0)) := by
    show _ = _
    rw [u32_xor_nat _ _ hax hqn, Nat.min_eq_left (by omega : q.b5.toNat ≤ 32), show (2 : Int) ^ q.b5.toNat = ((2 ^ q.b5.toNat : Nat) : Int) by simp, ← Int.natCast_ediv, hR0]
    by_cases h : R0 = 0
    · subst h; rfl
    · have h2 : ¬ ((R0 : Int) = 0) := by omega
      simp [h, h2]
  have HR := hidOf2 hR
  have hR2 : R0 = 0 ∨ R0 ≠ 0 := by omega
  generalize s.scanB q = OB at *
  generalize s.scanS q = OS at *
  generalize s.scanQ q = OQ at *
  generalize q.b5.toNat = Q5 at *
  generalize q.b7.toNat = Q7 at *
  clear h hf S0 q0 b0 c0 c1 c2 c3 c4 f4 f16 hE hR0 hN0 hR hax hqn h1 h2 h4 hkl T0
  go_enter Try.func38, Try.ntmps38
  go_wp2_with fail
  go_quiet (fail)
  go_wp2_with fail
  refine wp_region_later (by kernel_rfl) (by kernel_rfl) ?_
  repeat (first
    | (go_big_quiet_step (first | (go_at_call 37; with_reducible exact later (hNm _))))
    | (refine quietL (.agg q.arr) rfl _ rfl rfl (fun w' hw => by obtain ⟨y, rfl⟩ := hw; exact LF.out _ y) ?_; simp only [Act.put, List.setIfInBounds_toArray, List.set_cons_succ, List.set_cons_zero]))
  refine wpQuiet_nil ?_
  rintro _ ⟨x1, rfl⟩
  have S1 := HS0.out _ x1
  have T1 := HT0.out _ x1
  have z4 := f4L _ x1
  have z16 := f16L _ x1
  have y4 := c4L _ x1
  have y16 := L16 _ x1
  clear HS0 HT0 f4L f16L c4L L16 Lj LF hNm hX
  rw [dx.out]
  clear dx
  generalize x1.now = Y at *
  rcases hR2 with e | e
  · have d : decide (R0 ≠ 0) = false := by simp [e]
    have hq : OQ = true := by rw [HR.out]; simp [e]
    have hb : Hid (OB = true) := by show _ = _; rw [HH.out, hq]
    rw [d]
    rw [hq] at HSS
    clear HR HH d hq e
    by_cases h5 : Q5 = 0
    · subst h5
      by_cases h7 : Q7 < 2
      · have hs : Hid (OS = { s with lk := 0, mode := 1 }) := by show _ = _; rw [HSS.out, if_pos rfl, if_pos rfl, if_pos h7]
        have d7 : decide ((Q7 : Int) < 2) = true := by simp only [decide_eq_true_eq]; omega
        have H : Hid (Sa g n p { s with lk := 0, mode := 1 } (((Y.setCell ⟨g, 16, none⟩ (.int .u8 (Q7 : Int))).setCell ⟨g, 4, none⟩ (.int .i64 1)).setCell ⟨g, 16, none⟩ (.int .u8 0))) :=
          Sa.set (s := { s with lk := (Q7 : Int), mode := 1 }) (s' := { s with lk := 0, mode := 1 }) (Sa.set (s := { s with lk := (Q7 : Int) }) (s' := { s with lk := (Q7 : Int), mode := 1 }) (Sa.set S1 rfl rfl) rfl rfl) rfl rfl
        clear HSS h7 S1
        go_wp2
        go_ret
        exact ⟨ret_bool hb.out.symm, by rw [hs.out]; exact H.out, ((T1.at0 _ _).at0 _ _).at0 _ _⟩
      · have hs : Hid (OS = { s with lk := (Q7 : Int) }) := by show _ = _; rw [HSS.out, if_pos rfl, if_pos rfl, if_neg h7]
        have d7 : decide ((Q7 : Int) < 2) = false := by simp only [decide_eq_false_iff_not]; omega
        have H : Hid (Sa g n p { s with lk := (Q7 : Int) } (Y.setCell ⟨g, 16, none⟩ (.int .u8 (Q7 : Int)))) := Sa.set S1 rfl rfl
        clear HSS h7 S1
        go_wp2
        go_ret
        exact ⟨ret_bool hb.out.symm, by rw [hs.out]; exact H.out, T1.at0 _ _⟩
    · have d5 : decide ((0 : Int) < (Q5 : Int)) = true := by simp; omega
      have d6 : 0 < Q5 := by omega
      have hs : Hid (OS = s) := by show _ = _; rw [HSS.out, if_pos rfl, if_neg h5]
      have H := hidOf2 S1
      clear HSS S1 h5
      go_wp2
      go_ret
      exact ⟨ret_bool hb.out.symm, by rw [hs.out]; exact H.out, T1⟩
  · have d : decide (R0 ≠ 0) = true := by simp [e]
    have hq : OQ = false := by rw [HR.out]; simp [e]
    have hb : Hid (OB = false) := by show _ = _; rw [HH.out, hq]
    have hs : Hid (OS = s) := by show _ = _; rw [HSS.out, hq]; rfl
    rw [d]
    have H := hidOf2 S1
    clear HR HH d hq HSS e S1
    go_wp2
    go_ret
    exact ⟨ret_bool hb.out.symm, by rw [hs.out]; exact H.out, T1⟩
set_option maxHeartbeats 4000000 in
theorem lscan_in3 (h : Sa g n p s w) (ho : s.Ok) (q : F8) (h1 : q.b5.toNat ≠ 128) (h2 : q.b5.toNat ≤ 31) (h3 : q.b6.toNat = 3) (h5 : s.lk = 3) (h4 : q.b7.toNat < 4) : Calls Try.prog 38 #[.pointer (some ⟨g, 0, none⟩), .agg q.arr] w fun e w' => e = .returned (.bool (s.scanB q)) ∧ Sa g n p (s.scanS q) w' ∧ Two g g w w' := by
  obtain ⟨W, k, hW, hk, q0, b0, hkl⟩ := Qb.fresh1 w q
  have hgk : g < k := by rw [← hk]; exact h.lt
  have T0 : Two g g w W := by rw [← hW]; exact (Two.refl _ _ _).alloc _
  have S0 : Sa g n p s W := h.below b0
  have u5 := q0.c5
  have u6 := q0.c6
  have u7 := q0.c7
  have l5 := q.b5.toNat_lt
  have l6 := q.b6.toNat_lt
  have l7 := q.b7.toNat_lt
  obtain ⟨c0, c1, c2, c3, c4, _, _, _, _, _, _, _, _, _, _, _, c16, hf⟩ := S0.cells
  have f4 := hf 4
  have f16 := hf 16
  have hR : s.scanQ q = hiE s.a.x3 (numq q) q.b5.toNat := by
    unfold Ls.scanQ
    rw [h5, h3]
    simp [h2, h4]
    rfl
  have e128 : ((q.b5.toNat : Int) == 128) = false := by simp; omega
  have d1 : decide ((31 : Int) < (q.b5.toNat : Int)) = false := by simp; omega
  have d3 : decide ((4 : Int) ≤ (q.b7.toNat : Int)) = false := by simp; omega
  rw [h3] at u6
  rw [h5] at c16
  have hkW : k < W.heap.size := hkl
  have hgW : g < W.heap.size := S0.lt
  have L16 : ∀ m (y : Later (W.drewN m)), y.now.cell? ⟨g, 16, none⟩ = some (.int .u8 3) := fun m y => later_c (W := W.drewN m) c16 hgW y
  have Lj : ∀ m (y : Later (W.drewN m)), y.now.cell? ⟨g, 3, none⟩ = some (.int .u32 (s.a.x3 : Int)) := fun m y => later_c (W := W.drewN m) c3 hgW y
  have LF : Hid (∀ m (y : Later (W.drewN m)), (loadVar 34 ⟨k, 0, none⟩).run Try.prog y.now = .ok (.agg q.arr) y.now) := fun m y => (Qb.below (w := W.drewN m) q0 y.below).load
  have hNm : ∀ x, Calls Try.prog 37 #[.agg q.arr] x fun e w' => e = .returned (.int .u32 (numq q : Nat)) ∧ Below x.heap.size x w' := fun x => lnumber_any q x
  have HS0 : Hid (∀ m (y : Later (W.drewN m)), Sa g n p s y.now) := fun m y => (S0.drawn m).below y.below
  have HT0 : Hid (∀ m (y : Later (W.drewN m)), Two g g w y.now) := fun m y => (T0.drawn m).trans ⟨y.below.os, y.below.tape, y.below.output, y.below.size, fun i hi _ _ => y.below.block i hi⟩
  have hax : s.a.x3 < 4294967296 := by have := ho.a; obtain ⟨x0, x1, x2, x3⟩ := this; assumption
  have hqn := numq_lt q
  have hE : hiE s.a.x3 (numq q) q.b5.toNat = decide ((s.a.x3 ^^^ numq q) / 2 ^ q.b5.toNat = 0) := rfl
  rw [hE] at hR
  obtain ⟨R0, hR0⟩ : ∃ r, (s.a.x3 ^^^ numq q) / 2 ^ q.b5.toNat = r := ⟨_, rfl⟩
  obtain ⟨N0, hN0⟩ : ∃ r, numq q = r := ⟨_, rfl⟩
  rw [hN0] at hNm hqn hR0
  rw [hN0, hR0] at hR
  have hLt := Later.some
  have f4L : ∀ m (y : Later (W.drewN m)), y.now.frozen? ⟨g, 4, none⟩ = false := fun m y => ((HS0.out m y).cells).2.2.2.2.2.2.2.2.2.2.2.2.2.2.2.2.2 4
  have f16L : ∀ m (y : Later (W.drewN m)), y.now.frozen? ⟨g, 16, none⟩ = false := fun m y => ((HS0.out m y).cells).2.2.2.2.2.2.2.2.2.2.2.2.2.2.2.2.2 16
  have c4L : ∀ m (y : Later (W.drewN m)), y.now.cell? ⟨g, 4, none⟩ = some (.int .i64 s.mode) := fun m y => ((HS0.out m y).cells).2.2.2.2.1
  have hX : Hid ((s.a.x3 ^^^ N0) / 2 ^ q.b5.toNat = R0 ∧ s.a.x3 < 4294967296 ∧ N0 < 4294967296 ∧ q.b5.toNat < 32) := ⟨hR0, hax, hqn, by omega⟩
  have HH : Hid (s.scanB q = s.scanQ q) := by show _ = _; simp [Ls.scanB, h1]
  have HSS : Hid (s.scanS q = if s.scanQ q then (if q.b5.toNat = 0 then (if q.b7.toNat < q.b6.toNat then { s with lk := 0, mode := 1 } else { s with lk := (q.b7.toNat : Int) }) else s) else s) := by show _ = _; unfold Ls.scanS; rw [if_neg h1]
  rw [h3] at HSS
  have dx : Hid ((bits .xor .u32 (s.a.x3 : Int) (N0 : Int) / 2 ^ min q.b5.toNat 32 != 0) = decide (R0 ≠ 0)) := by
    show _ = _
    rw [u32_xor_nat _ _ hax hqn, Nat.min_eq_left (by omega : q.b5.toNat ≤ 32), show (2 : Int) ^ q.b5.toNat = ((2 ^ q.b5.toNat : Nat) : Int) by simp, ← Int.natCast_ediv, hR0]
    by_cases h : R0 = 0
    · subst h; rfl
    · have h2 : ¬ ((R0 : Int) = 0) := by omega
      simp [h, h2]
  have HR := hidOf2 hR
  have hR2 : R0 = 0 ∨ R0 ≠ 0 := by omega
  generalize s.scanB q = OB at *
  generalize s.scanS q = OS at *
  generalize s.scanQ q = OQ at *
  generalize q.b5.toNat = Q5 at *
  generalize q.b7.toNat = Q7 at *
  clear h hf S0 q0 b0 c0 c1 c2 c3 c4 f4 f16 hE hR0 hN0 hR hax hqn h1 h2 h4 hkl T0
  go_enter Try.func38, Try.ntmps38
  go_wp2_with fail
  go_quiet (fail)
  go_wp2_with fail
  refine wp_region_later (by kernel_rfl) (by kernel_rfl) ?_
  repeat (first
    | (go_big_quiet_step (first | (go_at_call 37; with_reducible exact later (hNm _))))
    | (refine quietL (.agg q.arr) rfl _ rfl rfl (fun w' hw => by obtain ⟨y, rfl⟩ := hw; exact LF.out _ y) ?_; simp only [Act.put, List.setIfInBounds_toArray, List.set_cons_succ, List.set_cons_zero]))
  refine wpQuiet_nil ?_
  rintro _ ⟨x1, rfl⟩
  have S1 := HS0.out _ x1
  have T1 := HT0.out _ x1
  have z4 := f4L _ x1
  have z16 := f16L _ x1
  have y4 := c4L _ x1
  have y16 := L16 _ x1
  clear HS0 HT0 f4L f16L c4L L16 Lj LF hNm hX
  rw [dx.out]
  clear dx
  generalize x1.now = Y at *
  rcases hR2 with e | e
  · have d : decide (R0 ≠ 0) = false := by simp [e]
    have hq : OQ = true := by rw [HR.out]; simp [e]
    have hb : Hid (OB = true) := by show _ = _; rw [HH.out, hq]
    rw [d]
    rw [hq] at HSS
    clear HR HH d hq e
    by_cases h5 : Q5 = 0
    · subst h5
      by_cases h7 : Q7 < 3
      · have hs : Hid (OS = { s with lk := 0, mode := 1 }) := by show _ = _; rw [HSS.out, if_pos rfl, if_pos rfl, if_pos h7]
        have d7 : decide ((Q7 : Int) < 3) = true := by simp only [decide_eq_true_eq]; omega
        have H : Hid (Sa g n p { s with lk := 0, mode := 1 } (((Y.setCell ⟨g, 16, none⟩ (.int .u8 (Q7 : Int))).setCell ⟨g, 4, none⟩ (.int .i64 1)).setCell ⟨g, 16, none⟩ (.int .u8 0))) :=
          Sa.set (s := { s with lk := (Q7 : Int), mode := 1 }) (s' := { s with lk := 0, mode := 1 }) (Sa.set (s := { s with lk := (Q7 : Int) }) (s' := { s with lk := (Q7 : Int), mode := 1 }) (Sa.set S1 rfl rfl) rfl rfl) rfl rfl
        clear HSS h7 S1
        go_wp2
        go_ret
        exact ⟨ret_bool hb.out.symm, by rw [hs.out]; exact H.out, ((T1.at0 _ _).at0 _ _).at0 _ _⟩
      · have hs : Hid (OS = { s with lk := (Q7 : Int) }) := by show _ = _; rw [HSS.out, if_pos rfl, if_pos rfl, if_neg h7]
        have d7 : decide ((Q7 : Int) < 3) = false := by simp only [decide_eq_false_iff_not]; omega
        have H : Hid (Sa g n p { s with lk := (Q7 : Int) } (Y.setCell ⟨g, 16, none⟩ (.int .u8 (Q7 : Int)))) := Sa.set S1 rfl rfl
        clear HSS h7 S1
        go_wp2
        go_ret
        exact ⟨ret_bool hb.out.symm, by rw [hs.out]; exact H.out, T1.at0 _ _⟩
    · have d5 : decide ((0 : Int) < (Q5 : Int)) = true := by simp; omega
      have d6 : 0 < Q5 := by omega
      have hs : Hid (OS = s) := by show _ = _; rw [HSS.out, if_pos rfl, if_neg h5]
      have H := hidOf2 S1
      clear HSS S1 h5
      go_wp2
      go_ret
      exact ⟨ret_bool hb.out.symm, by rw [hs.out]; exact H.out, T1⟩
  · have d : decide (R0 ≠ 0) = true := by simp [e]
    have hq : OQ = false := by rw [HR.out]; simp [e]
    have hb : Hid (OB = false) := by show _ = _; rw [HH.out, hq]
    have hs : Hid (OS = s) := by show _ = _; rw [HSS.out, hq]; rfl
    rw [d]
    have H := hidOf2 S1
    clear HR HH d hq HSS e S1
    go_wp2
    go_ret
    exact ⟨ret_bool hb.out.symm, by rw [hs.out]; exact H.out, T1⟩
theorem lscan_any (h : Sa g n p s w) (ho : s.Ok) (q : F8) : Calls Try.prog 38 #[.pointer (some ⟨g, 0, none⟩), .agg q.arr] w fun e w' => e = .returned (.bool (s.scanB q)) ∧ Sa g n p (s.scanS q) w' ∧ Two g g w w' := by
  by_cases h1 : q.b5.toNat = 128
  · exact lscan_new h ho q h1
  by_cases h2 : q.b5.toNat ≤ 31
  · by_cases h3 : (q.b6.toNat : Int) = s.lk
    · by_cases h4 : q.b7.toNat < 4
      · have := ho.lk
        obtain e | e | e | e : q.b6.toNat = 0 ∨ q.b6.toNat = 1 ∨ q.b6.toNat = 2 ∨ q.b6.toNat = 3 := by omega
        · exact lscan_in0 h ho q h1 h2 e (by omega) h4
        · exact lscan_in1 h ho q h1 h2 e (by omega) h4
        · exact lscan_in2 h ho q h1 h2 e (by omega) h4
        · exact lscan_in3 h ho q h1 h2 e (by omega) h4
      · exact lscan_next h ho q h1 h2 h3 (by omega)
    · exact lscan_part h ho q h1 h2 h3
  · exact lscan_bit h ho q h1 (by omega)
end
end Go.Proofs.Ythbmbabndhpdkaa
