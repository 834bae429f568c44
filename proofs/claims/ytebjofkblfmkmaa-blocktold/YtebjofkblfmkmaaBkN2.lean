/- Contracts: a receiver is asked. -/
import Derived.Test.YtebjofkblfmkmaaBkN1
namespace Go.Proofs.Ytebjofkblfmkmaa
open Go.RowKit Go.Proofs.Ty Go.Proofs.Bits
set_option linter.unusedVariables false
set_option maxRecDepth 1000000
set_option linter.unusedSimpArgs false
theorem wp_allocA8 {o : Oper} {a : Act} {w : World} {K : Act → World → Prop} {Q : Exit → Act → World → Prop} (ho : o.op = .alloc 30) (h : K (a.put o.dst (.pointer (some ⟨w.heap.size, 0, none⟩))) (w.alloc (.cells zA8 30))) : o.wp Try.prog a w K Q := by
  obtain ⟨i0, hi0, hz0⟩ : ∃ i0, Try.prog.info? 30 = some i0 ∧ i0.zero = some (.agg zA8) := by
    have : (Try.prog.info? 30).map (·.zero) = some (some (.agg zA8)) := by kernel_rfl
    cases hh : Try.prog.info? 30 with
    | none => rw [hh] at this; cases this
    | some i0 => rw [hh] at this; exact ⟨i0, rfl, by simpa using this⟩
  unfold Oper.wp execOp
  simp [ho, go_sem, Instr.alloc, zeroValue, typeInfo, hi0, hz0, Value.cells]
  exact h
theorem wp_append_bytes {w : World} {o : Oper} {a : Act} {K : Act → World → Prop} {Q : Exit → Act → World → Prop} (s x : Operand)
    (ho : o.op = .call { callee := .builtin .append, args := #[s, x], argTypes := #[22, 22] })
    (base : Nat) (v : Value) (xs : List UInt8) (hs : a.eval s = v) (hown : w.ownsRow base 5 1 v xs.length (Lib.byteCells xs))
    (vx : Value) (l : List UInt8) (hx : a.eval x = vx) (hB : Bytes w vx l) (hbytes : xs.length + l.length ≤ 140737488355328) (hbase : base ≤ w.heap.size)
    (h : ∀ v' w', w'.ownsRow base 5 1 v' (xs ++ l).length (Lib.byteCells (xs ++ l)) → w.grownBy w' v.ownBlock → (∀ k, k < w.heap.size → v'.ownBlock = some k → v.ownBlock = some k) → K (a.put o.dst v') w') : o.wp Try.prog a w K Q := by
  obtain ⟨i0, hi, hz0, hz1, hz2⟩ := info_parts info5
  obtain ⟨ao, cap, rfl, h0, hc⟩ := hB
  cases ao with
  | none =>
    obtain ⟨rfl, rfl⟩ := h0 rfl
    have hrun := run_append_owned_none (P := Try.prog) (w := w) base 22 o.type 5 i0 1 Try.underlying22 hi v xs.length (Lib.byteCells xs) hown
    unfold Oper.wp
    simp only [List.length_nil] at hx
    simp [execOp, ho, resolve, invoke, builtin, hs, hx, hrun, Result.andThen]
    refine h _ _ ?_ (grown_refl _ _) (fun _ _ e => e)
    simpa using hown
  | some ad =>
    refine wp_append_own2 w s x 22 ho base 5 i0 (.int .u8 0) 1 1 Try.underlying22 hi hz0 hz1 hz2 rfl (by decide) v xs.length (Lib.byteCells xs) hs hown ad l.length cap (Lib.byteCells l) hx (by simp [Lib.byteCells_length]) ?_ (byteCells_one l) (by unfold maxLen; omega) (by omega) hbase ?_
    · intro j u hj
      have hlt : j < l.length := by
        have := (List.getElem?_eq_some_iff.1 hj).1
        rwa [Lib.byteCells_length] at this
      obtain ⟨b, off, ha, _, hcell⟩ := hc j hlt
      simp at ha
      subst ha
      rw [add_off, hcell]
      simp [Lib.byteCells, hlt] at hj
      rw [hj]
    · intro v' w' h1 h2 h5
      refine h v' w' ?_ h2 h5
      rw [List.length_append, Lib.byteCells_append]
      exact h1
theorem exec_convU {a : Act} {o : Oper} {x : Operand} {m : Nat} (ho : o.op = .convert 3 5 x) (hx : a.eval x = .int .i64 (m : Int)) (hm : m < 256) (w : World) : (execOp a.eval o).run Try.prog w = .ok (.value (.int .u8 (m : Int))) w := by
  unfold execOp
  simp only [ho, hx]
  have e : IntKind.u8.wrap (m : Int) = (m : Int) := by simp [IntKind.wrap, IntKind.bits, IntKind.signed]; omega
  simp [go_sem, convert, run_underlying Try.underlying3, run_underlying Try.underlying5, e]
theorem build_a3 (x : World) (a b c : Int) : (Instr.build 30 #[(0, .int .u8 a), (1, .int .u8 b), (2, .int .u8 c)]).run Try.prog x = .ok (.agg #[.int .u8 a, .int .u8 b, .int .u8 c, .int .u8 0, .int .u8 0, .int .u8 0, .int .u8 0, .int .u8 0]) x := by kernel_rfl
theorem exec_buildA {a : Act} {o : Oper} {x y t : Operand} {cm sz : Nat} (ho : o.op = .build 30 #[(0, x), (1, y), (2, t)]) (hx : a.eval x = .int .u8 162) (hy : a.eval y = .int .u8 (cm : Int)) (hz : a.eval t = .int .u8 (sz : Int)) (h1 : cm < 256) (h2 : sz < 256) (w : World) : (execOp a.eval o).run Try.prog w = .ok (.value (.agg (rAns cm sz).arr)) w := by
  have hr := build_a3 w 162 (cm : Int) (sz : Int)
  rw [← rAns_arr cm sz h1 h2] at hr
  unfold execOp
  simp [ho, hx, hy, hz, hr]
/-- What is answered, and how the receiver is then. -/
def RPost (w : World) (R : Nat) (v : Value) (r : Option F8 × Rc) (e : Ending) (w' : World) : Prop :=
  e = .returned (ansV r.1) ∧ ∃ u, Rv R r.2 u w' ∧ Kp (rB R v) w w' ∧ ∀ b, u.ownBlock = some b → v.ownBlock = some b ∨ w.heap.size ≤ b
section
variable {R : Nat} {r t : Rc} {v u : Value} {w x : World}
theorem RPost.same {w' : World} {r2 : Rc} {o : Option F8} (hr : Rv R r2 v w') (hk : Kp [R] w w') : RPost w R v (o, r2) (.returned (ansV o)) w' :=
  ⟨rfl, v, hr, hk.more (by simp [rB]), fun b hb => .inl hb⟩
set_option maxHeartbeats 8000000 in
theorem rAsk_any (h : Rv R r v w) : Calls Try.prog 17 #[.pointer (some ⟨R, 0, none⟩)] w fun e w' => RPost w R v (rAsk r) e w' := by
  obtain ⟨q, hq⟩ : ∃ q, w.heap.size = q := ⟨_, rfl⟩
  obtain ⟨W, hW⟩ : ∃ W, w.alloc (.cells zA8 30) = W := ⟨_, rfl⟩
  have b0 : Below w.heap.size w W := by rw [← hW]; exact (Below.refl _ _).alloc (Nat.le_refl _) _
  have q0 : Qb q F8.nul W := by rw [← hW, ← hq]; exact heap_alloc_new w _
  have hRq : R < q := by rw [← hq]; exact h.lt
  have r0 := h.below b0
  have y0 := r0.c0
  have HF := hidOf2 h
  have hvq : ∀ b ∈ rB R v, b < q := fun b hb => by
    rw [← hq]
    simp [rB] at hb
    rcases hb with rfl | hb
    · exact h.lt
    · exact (h.olt hb).1
  have HR : Hid (rAsk r = if r.st = 3 then (none, r) else (some (rAns r.cm r.sz), ⟨r.st, r.sz, r.bs, if r.st = 1 then 0 else r.cm, r.cd⟩)) := rfl
  have HOK := hidOf2 (rAsk_wk r h.ok)
  generalize rAsk r = RS at *
  by_cases h3 : r.st = 3
  · have d3 : ((r.st : Int) == 3) = true := by simp; omega
    have HZ := hidOf2 (q0.row F8.nul)
    have HP : Hid (RPost w R v RS (.returned (ansV none)) (W.setRow q F8.nul.arr)) := by
      show RPost _ _ _ _ _ _
      rw [HR.out, if_pos h3]
      exact RPost.same (r0.kp (Kp.setRow1 W q F8.nul.arr) (fun b hb => by have := hvq b hb; simp; omega)) ((Kp.of_below b0).fresh (Kp.setRow1 W q F8.nul.arr) (fun b hb => .inr (by simp at hb; omega)))
    clear HR r0 b0 HOK h HF
    go_enter Try.func17, Try.ntmps17
    go_upto_region 1 with fail
    change Code.wp Try.prog _ _ _ (w.alloc (.cells zA8 30))
    rw [hW]
    go_wp2_with (first | (refine sdF (g := F8.nul) q0 rfl _ _ rfl rfl rfl ?_))
    exact bodyPost_ret (Ask_results HZ.out _ rfl rfl) rfl HP.out
  · have d3 : ((r.st : Int) == 3) = false := by simp; omega
    have hcm : r.cm < 256 := by have := h.ok.cm; omega
    have hsz : r.sz < 256 := by have := h.ok.sz; omega
    have HST := hidOf2 r0
    have e1 : RS = (some (rAns r.cm r.sz), ⟨r.st, r.sz, r.bs, if r.st = 1 then 0 else r.cm, r.cd⟩) := by rw [HR.out, if_neg h3]
    have HE1 := hidOf2 e1
    obtain ⟨z, hz⟩ : ∃ z, W.heap.size = z := ⟨_, rfl⟩
    have hqz : q < z := by have := q0.lt; omega
    have HC1 : Hid (∀ y, Below W.heap.size W y → y.cell? ⟨R, 1, none⟩ = some (.int .i64 (r.sz : Int))) := fun y hy => (r0.below hy).c1
    have HC3 : Hid (∀ y, Below W.heap.size W y → y.cell? ⟨R, 3, none⟩ = some (.int .i64 (r.cm : Int))) := fun y hy => (r0.below hy).c3
    have S0 : Below W.heap.size W W.drew := bdr (Below.refl _ _) 1
    obtain ⟨Y0, hY0⟩ : ∃ Y, W.drew.alloc (.cells zA8 30) = Y := ⟨_, rfl⟩
    have HY0 := hidOf2 hY0
    have HZ0 : Hid (W.drew.heap.size = z) := hz
    have S1 : Below W.heap.size W Y0 := by rw [← hY0]; exact S0.alloc (by exact Nat.le_refl _) _
    have Q1 : Hid (Qb z F8.nul Y0) := by show Qb _ _ _; rw [← hY0, ← HZ0.out]; exact heap_alloc_new W.drew _
    obtain ⟨cm, hcm0⟩ : ∃ n, r.cm = n := ⟨_, rfl⟩
    obtain ⟨sz, hsz0⟩ : ∃ n, r.sz = n := ⟨_, rfl⟩
    rw [hcm0] at hcm HC3 HE1
    rw [hsz0] at hsz HC1 HE1
    have HCM := hidOf2 hcm0
    have HSZ := hidOf2 hsz0
    have S2 : Below W.heap.size W (Y0.setRow z (rAns cm sz).arr) := below_row S1 (by omega) S1.size _
    have Q2 := hidOf2 (Q1.out.row (rAns cm sz))
    have HQ0 := hidOf2 q0
    have HB0 := hidOf2 b0
    clear HR e1 hcm0 hsz0 hY0 b0 q0 h
    go_enter Try.func17, Try.ntmps17
    go_upto_region 1 with fail
    change Code.wp Try.prog _ _ _ (w.alloc (.cells zA8 30))
    rw [hW]
    go_upto_region 3 with fail
    refine wp_region_held (S := fun y => Below W.heap.size W y) (by kernel_rfl) ?_
    change wpAnyH _ _ _ _ _ _ _ _ W.drew
    refine wpAnyH_take (i := 0) (v := (.pointer (some ⟨R, 0, none⟩))) rfl (by kernel_rfl) (by kernel_rfl) (by kernel_rfl) (fun _ _ _ h => h) (.inl ⟨rfl, fun _ hS => rfl⟩) S0 ?_
    simp only [List.getElem_toArray, List.getElem_cons_succ, List.getElem_cons_zero, Act.put, List.setIfInBounds_toArray, List.set_cons_succ, List.set_cons_zero]
    refine wpAnyH_take (i := 1) (v := (.pointer (some ⟨R, 0, none⟩))) rfl (by kernel_rfl) (by kernel_rfl) (by kernel_rfl) (fun _ _ _ h => h) (.inl ⟨rfl, fun _ hS => by simp [execOp, go_sem, Act.eval]⟩) S0 ?_
    simp only [List.getElem_toArray, List.getElem_cons_succ, List.getElem_cons_zero, Act.put, List.setIfInBounds_toArray, List.set_cons_succ, List.set_cons_zero]
    refine wpAnyH_take (i := 2) (v := (.pointer (some ⟨R, 3, none⟩))) rfl (by kernel_rfl) (by kernel_rfl) (by kernel_rfl) (fun _ _ _ h => h) (.inl ⟨rfl, fun _ hS => by simp [execOp, go_sem, Act.eval]⟩) S0 ?_
    simp only [List.getElem_toArray, List.getElem_cons_succ, List.getElem_cons_zero, Act.put, List.setIfInBounds_toArray, List.set_cons_succ, List.set_cons_zero]
    refine wpAnyH_take (i := 3) (v := (.int .i64 (cm : Int))) rfl (by kernel_rfl) (by kernel_rfl) (by kernel_rfl) (fun _ _ _ h => h) (.inl ⟨rfl, fun _ hS => exec_load rfl rfl (load_int _ _ _ _ (HC3.out _ hS))⟩) S0 ?_
    simp only [List.getElem_toArray, List.getElem_cons_succ, List.getElem_cons_zero, Act.put, List.setIfInBounds_toArray, List.set_cons_succ, List.set_cons_zero]
    refine wpAnyH_take (i := 4) (v := (.int .u8 (cm : Int))) rfl (by kernel_rfl) (by kernel_rfl) (by kernel_rfl) (fun _ _ _ h => h) (.inl ⟨rfl, fun _ hS => exec_convU rfl rfl hcm _⟩) S0 ?_
    simp only [List.getElem_toArray, List.getElem_cons_succ, List.getElem_cons_zero, Act.put, List.setIfInBounds_toArray, List.set_cons_succ, List.set_cons_zero]
    refine wpAnyH_take (i := 5) (v := (.pointer (some ⟨R, 0, none⟩))) rfl (by kernel_rfl) (by kernel_rfl) (by kernel_rfl) (fun _ _ _ h => h) (.inl ⟨rfl, fun _ hS => rfl⟩) S0 ?_
    simp only [List.getElem_toArray, List.getElem_cons_succ, List.getElem_cons_zero, Act.put, List.setIfInBounds_toArray, List.set_cons_succ, List.set_cons_zero]
    refine wpAnyH_take (i := 6) (v := (.pointer (some ⟨R, 0, none⟩))) rfl (by kernel_rfl) (by kernel_rfl) (by kernel_rfl) (fun _ _ _ h => h) (.inl ⟨rfl, fun _ hS => by simp [execOp, go_sem, Act.eval]⟩) S0 ?_
    simp only [List.getElem_toArray, List.getElem_cons_succ, List.getElem_cons_zero, Act.put, List.setIfInBounds_toArray, List.set_cons_succ, List.set_cons_zero]
    refine wpAnyH_take (i := 7) (v := (.pointer (some ⟨R, 1, none⟩))) rfl (by kernel_rfl) (by kernel_rfl) (by kernel_rfl) (fun _ _ _ h => h) (.inl ⟨rfl, fun _ hS => by simp [execOp, go_sem, Act.eval]⟩) S0 ?_
    simp only [List.getElem_toArray, List.getElem_cons_succ, List.getElem_cons_zero, Act.put, List.setIfInBounds_toArray, List.set_cons_succ, List.set_cons_zero]
    refine wpAnyH_take (i := 8) (v := (.int .i64 (sz : Int))) rfl (by kernel_rfl) (by kernel_rfl) (by kernel_rfl) (fun _ _ _ h => h) (.inl ⟨rfl, fun _ hS => exec_load rfl rfl (load_int _ _ _ _ (HC1.out _ hS))⟩) S0 ?_
    simp only [List.getElem_toArray, List.getElem_cons_succ, List.getElem_cons_zero, Act.put, List.setIfInBounds_toArray, List.set_cons_succ, List.set_cons_zero]
    refine wpAnyH_take (i := 9) (v := (.int .u8 (sz : Int))) rfl (by kernel_rfl) (by kernel_rfl) (by kernel_rfl) (fun _ _ _ h => h) (.inl ⟨rfl, fun _ hS => exec_convU rfl rfl hsz _⟩) S0 ?_
    simp only [List.getElem_toArray, List.getElem_cons_succ, List.getElem_cons_zero, Act.put, List.setIfInBounds_toArray, List.set_cons_succ, List.set_cons_zero]
    refine wpAnyH_take (i := 10) (v := (.agg (rAns cm sz).arr)) rfl (by kernel_rfl) (by kernel_rfl) (by kernel_rfl) (fun _ _ _ h => h) (.inl ⟨rfl, fun _ hS => exec_buildA rfl rfl rfl rfl hcm hsz _⟩) S0 ?_
    simp only [List.getElem_toArray, List.getElem_cons_succ, List.getElem_cons_zero, Act.put, List.setIfInBounds_toArray, List.set_cons_succ, List.set_cons_zero]
    refine wpAnyH_all (rs := [11]) (by kernel_rfl) (by simp) ?_
    intro k hk
    simp only [List.mem_cons, List.mem_nil_iff, or_false] at hk
    subst hk
    refine wpOp_run rfl rfl (wp_allocA8 rfl ?_)
    rw [HZ0.out]
    rw [HY0.out]
    refine ⟨S1, ?_⟩
    simp only [List.getElem_toArray, List.getElem_cons_succ, List.getElem_cons_zero, Act.put, List.setIfInBounds_toArray, List.set_cons_succ, List.set_cons_zero]
    refine wpAnyH_all (rs := [12]) (by kernel_rfl) (by simp) ?_
    intro k hk
    simp only [List.mem_cons, List.mem_nil_iff, or_false] at hk
    subst hk
    refine wpOp_run rfl rfl (wp_store_row 30 _ _ rfl z (rAns cm sz).arr rfl rfl 30 _ Q1.out (by rw [F8.size]; exact infoA8s) rfl (F8.one _) ?_)
    refine ⟨S2, ?_⟩
    simp only [List.getElem_toArray, List.getElem_cons_succ, List.getElem_cons_zero, Act.put, List.setIfInBounds_toArray, List.set_cons_succ, List.set_cons_zero]
    refine wpAnyH_done (by kernel_rfl) ?_ _
    have HB2 := hidOf2 S2
    generalize Y0.setRow z (rAns cm sz).arr = Y at *
    have rY := r0.below HB2.out
    have qY := HQ0.out.below HB2.out
    have y0 := rY.c0
    have hzz := Q2.out.load
    have hKY : Kp [R] w Y := (Kp.of_below HB0.out).trans (Kp.of_below HB2.out)
    clear S0 S1 S2 Q1 HZ0 HY0 HC1 HC3 r0 HST HB0 HB2
    have hzY := Q2.out.lt
    by_cases h1 : r.st = 1
    · have d1 : ((r.st : Int) == 1) = true := by simp; omega
      have HRZ : Hid (∀ Z, Z = Y.setCell ⟨R, 3, none⟩ (.int .i64 0) → Rv R RS.2 v Z ∧ Kp [R] w Z ∧ Qb z (rAns cm sz) Z ∧ Qb q F8.nul Z) := fun Z hZ => by
        subst hZ
        have hk := Kp.cell1 Y R 3 (.int .i64 0)
        refine ⟨rY.set 3 _ ?_ ?_ HOK.out, hKY.trans hk, (hk.block z hzY (by simp; omega)).trans Q2.out, (hk.block q qY.lt (by simp; omega)).trans qY⟩
        · rw [HE1.out]; simp [rcA, h1, HSZ.out]
        · rw [HE1.out]
      have y3 := rY.c3
      have f3 := rY.fr 3
      go_upto_region 6 with fail
      obtain ⟨Z, hZ⟩ : ∃ Z, Y.setCell ⟨R, 3, none⟩ (.int .i64 0) = Z := ⟨_, rfl⟩
      rw [hZ]
      obtain ⟨rZ, kZ, zZ, qZ⟩ := HRZ.out Z hZ.symm
      have hld := zZ.load
      have HQ3 := hidOf2 (qZ.row (rAns cm sz))
      have HP : Hid (RPost w R v RS (.returned (ansV (some (rAns cm sz)))) (Z.setRow q (rAns cm sz).arr)) := by
        show RPost _ _ _ _ _ _
        have e2 : RS.1 = some (rAns cm sz) := by rw [HE1.out]
        refine ⟨by rw [e2], v, rZ.kp (Kp.setRow1 Z q _) (fun b hb => by have := hvq b hb; simp; omega), (kZ.fresh (Kp.setRow1 Z q _) (fun b hb => .inr (by simp at hb; omega))).more (by simp [rB]), fun b hb => .inl hb⟩
      clear HRZ hZ rZ kZ zZ y3 f3 y0 rY qY hKY HE1 HOK
      go_wp2_with (first | (refine ldG hld rfl _ rfl rfl ?_) | (refine sdF (g := rAns cm sz) qZ rfl _ _ rfl rfl rfl ?_))
      exact bodyPost_ret (Ask_results HQ3.out _ rfl rfl) rfl HP.out
    · have d1 : ((r.st : Int) == 1) = false := by simp; omega
      have e2 : RS = (some (rAns cm sz), r) := by
        rw [HE1.out, if_neg h1, ← HCM.out, ← HSZ.out]
      have HQ3 := hidOf2 (qY.row (rAns cm sz))
      have HP : Hid (RPost w R v RS (.returned (ansV (some (rAns cm sz)))) (Y.setRow q (rAns cm sz).arr)) := by
        show RPost _ _ _ _ _ _
        rw [e2]
        exact RPost.same (rY.kp (Kp.setRow1 Y q _) (fun b hb => by have := hvq b hb; simp; omega)) (hKY.fresh (Kp.setRow1 Y q _) (fun b hb => .inr (by simp at hb; omega)))
      clear e2 rY hKY HE1 HOK
      go_wp2_with (first | (refine ldG hzz rfl _ rfl rfl ?_) | (refine sdF (g := rAns cm sz) qY rfl _ _ rfl rfl rfl ?_))
      exact bodyPost_ret (Ask_results HQ3.out _ rfl rfl) rfl HP.out
end
end Go.Proofs.Ytebjofkblfmkmaa
