/- behind of a wheel. -/
import Derived.Test.YtjkkclojidhgdaaW7
namespace Go.Proofs.Ytjkkclojidhgdaa
open Go.RowKit Go.Maps Go.WideMaps
set_option linter.unusedVariables false
set_option maxRecDepth 1000000
set_option linter.unusedSimpArgs false

theorem wp_load_cell {o : Oper} {a : Act} {w : World} {K : Act → World → Prop} {Q : Exit → Act → World → Prop} (ty : TypeId) (x : Operand) (ho : o.op = .load ty x) (b k : Nat) (hx : a.eval x = .pointer (some ⟨b, k, none⟩)) (v : Value)
    (hr : (loadVar ty ⟨b, k, none⟩).run Try.prog w = .ok v w) (h : K (a.put o.dst v) w) : o.wp Try.prog a w K Q := by
  unfold Oper.wp execOp
  simp only [ho, hx, Instr.loadAt, Instr.sureAddr, Sem.run_bind, Sem.run_pure, Result.andThen_ok, hr]
  exact h
theorem wp_store_cell {o : Oper} {a : Act} {w w' : World} {K : Act → World → Prop} {Q : Exit → Act → World → Prop} (ty : TypeId) (x y : Operand) (ho : o.op = .store ty x y) (b k : Nat) (hx : a.eval x = .pointer (some ⟨b, k, none⟩)) (v : Value) (hy : a.eval y = v)
    (hr : (storeVar ty ⟨b, k, none⟩ v).run Try.prog w = .ok () w') (h : K (a.put o.dst undef) w') : o.wp Try.prog a w K Q := by
  unfold Oper.wp execOp
  simp only [ho, hx, hy, Instr.storeAt, Instr.sureAddr, Sem.run_bind, Sem.run_pure, Result.andThen_ok, hr]
  exact h
/-- Each timer in its own block. -/
def Bkd (ts : List Tm) : Prop := ∀ a ∈ ts, ∀ b ∈ ts, a.bk = b.bk → a.no = b.no
def replT (ts : List Tm) (t : Tm) : List Tm := ts.map (fun x => if x.no = t.no then t else x)
theorem without_low {k : Nat} {l : List Tm} (h : ∀ x ∈ l, k < x.no) : without k l = l := filter_id (fun x hx => by have := h x hx; omega)
theorem repl_put {t t' : Tm} (hno : t'.no = t.no) : ∀ {ts : List Tm}, Rise ts → t ∈ ts → putT (without t.no ts) t' = replT ts t'
  | [], _, h => by simp at h
  | y :: r, hr, h => by
    unfold Rise at hr
    rw [List.pairwise_cons] at hr
    unfold replT without
    by_cases hy : y.no = t.no
    · rw [List.filter_cons_of_neg (by simp [hy]), List.map_cons, if_pos (by rw [hy, hno])]
      have h1 : ∀ x ∈ r, t.no < x.no := fun x hx => by have := hr.1 x hx; omega
      rw [filter_id (fun x hx => by have := h1 x hx; omega)]
      rw [putT_first _ (fun x hx => by have := h1 x hx; omega)]
      congr 1
      symm
      rw [List.map_congr_left (g := id) (fun x hx => by rw [if_neg (by have := h1 x hx; omega)]; rfl), List.map_id]
    · have hin : t ∈ r := by
        rcases List.mem_cons.1 h with rfl | h
        · exact (hy rfl).elim
        · exact h
      have hlt := hr.1 t hin
      rw [List.filter_cons_of_pos (by simp [hy]), putT_cons, if_neg (by omega), List.map_cons, if_neg (by rw [hno]; exact hy)]
      congr 1
      exact repl_put hno hr.2 hin
theorem repl_ent {t t' : Tm} (hno : t'.no = t.no) (hbk : t'.bk = t.bk) {ts : List Tm} (hr : Rise ts) (h : t ∈ ts) : (replT ts t').map ent = ts.map ent := by
  unfold replT
  rw [List.map_map]
  apply List.map_congr_left
  intro x hx
  simp only [Function.comp]
  split
  · rename_i e
    have : x = t := rise_uniq hr hx h (by rw [e, hno])
    subst this
    simp [ent, hno, hbk]
  · rfl
theorem repl_rise {t' : Tm} {ts : List Tm} (hr : Rise ts) : Rise (replT ts t') := by
  unfold Rise replT at *
  rw [List.pairwise_map]
  refine hr.imp ?_
  intro a b hab
  split <;> split <;> omega
theorem mem_repl {t' x : Tm} {ts : List Tm} (h : x ∈ replT ts t') : x = t' ∨ (x ∈ ts ∧ x.no ≠ t'.no) := by
  obtain ⟨y, hy, rfl⟩ := List.mem_map.1 h
  by_cases e : y.no = t'.no
  · simp [e]
  · simp only [e, if_false]; exact .inr ⟨hy, e⟩
section
variable {g now given n : Nat} {ts ls : List Tm} {bt S : Nat} {sm : Nat → Option Nat} {w : World}
/-- A timer's next time is written. -/
theorem Wh.redue (h : Wh g now given n ts ls bt S sm w) (t : Tm) (ht : t ∈ ts) (hb : Bkd ts) (hls : ∀ x ∈ ls, x ∈ ts ∧ x.no ≠ t.no) (due : Nat) :
    Wh g now given n (replT ts { t with due := due }) ls bt S sm (w.setCell ⟨t.bk, 0, none⟩ (.int .u64 due)) ∧ Ru { t with due := due } (w.setCell ⟨t.bk, 0, none⟩ (.int .u64 due)) ∧ Kw (fun k => k = t.bk) w (w.setCell ⟨t.bk, 0, none⟩ (.int .u64 due)) := by
  have hk : ∀ j, j ≠ t.bk → (w.setCell ⟨t.bk, 0, none⟩ (.int .u64 due)).heap[j]? = w.heap[j]? := fun j hj => Below.heap_setCell w ⟨t.bk, 0, none⟩ _ j hj
  have hR := h.rts t ht
  obtain ⟨cs, r1, r2, r3⟩ := h.row
  have neT : ∀ j A T fr, T ≠ 65 → w.heap[j]? = some (Obj.cells A T fr) → j ≠ t.bk := fun j A T fr hT hj e => by
    unfold Ru at hR
    rw [e, hR] at hj; simp at hj; exact hT hj.2.1.symm
  have neM : ∀ b ts', PM w b ts' → b ≠ t.bk := fun b ts' hp => (hp.ne hR).symm
  have hR' : Ru { t with due := due } (w.setCell ⟨t.bk, 0, none⟩ (.int .u64 due)) := by
    unfold Ru at *
    simp only [World.setCell, Array.getElem?_modify, hR]
    simp [runA]
  refine ⟨⟨(hk _ (neT _ _ _ _ (by decide) h.head)).trans h.head, ?_, ⟨cs, (hk _ (neT _ _ _ _ (by decide) r1)).trans r1, r2, r3⟩, h.none', fun j c hj hc => ⟨(h.maps j c hj hc).1.same (hk c (neM _ _ (h.maps j c hj hc).1)), (h.maps j c hj hc).2⟩, h.inj, fun x hx => ?_, fun x hx => ?_, repl_rise h.up, h.upl, h.n0, h.n1, h.g1, h.w1, fun x hx => ?_⟩, hR', rfl, rfl, rfl, by simp [World.setCell], fun j hj ho => hk j ho⟩
  · have := h.tim.same (hk _ (neM _ _ h.tim))
    unfold PM at *
    rw [repl_ent (t := t) (t' := { t with due := due }) rfl rfl h.up ht, show (replT ts { t with due := due }).length = ts.length by simp [replT]]
    exact this
  · rcases mem_repl hx with rfl | ⟨h1, h2⟩
    · exact hR'
    · exact (hk _ (fun e => h2 (hb x h1 t ht e))).trans (h.rts x h1)
  · obtain ⟨h1, h2⟩ := hls x hx
    exact (hk _ (fun e => h2 (hb x h1 t ht e))).trans (h.rls x hx)
  · rcases mem_repl hx with rfl | ⟨h1, h2⟩
    · exact h.nos t ht
    · exact h.nos x h1
theorem mem_without {k : Nat} {x : Tm} {l : List Tm} (h : x ∈ without k l) : x ∈ l ∧ x.no ≠ k := by
  obtain ⟨h1, h2⟩ := List.mem_filter.1 h
  exact ⟨h1, by simpa using h2⟩
/-- When a timer runs out next behind now. -/
def nextDue (t : Tm) (now : Nat) : Nat := t.due + ((now - t.due) / t.per * t.per + t.per)
def OwT (g bt S n : Nat) (sm : Nat → Option Nat) (ts : List Tm) (k : Nat) : Prop := OwW g bt S n sm k ∨ ∃ t ∈ ts, t.bk = k
set_option maxHeartbeats 2000000 in
theorem behind_once (h : Wh g now given n ts ts bt S sm w) (t : Tm) (ht : t ∈ ts) (hp : t.per = 0) (hdu : t.due < 18446744073709551616) :
    Calls Try.prog 37 #[.pointer (some ⟨g, 0, none⟩), .int .i64 t.no, ptrV t.bk] w fun e w' => e = .returned (.tuple #[]) ∧ Wh g now given n (without t.no ts) (without t.no ts) bt S sm w' ∧ Kw (OwW g bt S n sm) w w' := by
  have hno : t.no < 4611686018427387904 := by have := h.nos t ht; have := h.g1; omega
  have hLi := lift_any h t ht hno hdu
  unfold ptrV at *
  go_enter Try.func37, Try.ntmps37
  go_wp2_with fail
  refine hLi.mono ?_
  rintro e w1 ⟨rfl, h1, k1⟩
  obtain ⟨c0, c1, c2, c3⟩ := h1.c
  obtain ⟨d0, d1, d2⟩ := (h1.rts t ht).c
  obtain ⟨w2, hr2, p2, t2⟩ := h1.tim.del t.no hno und_mapt 0
  have hr2' : ∀ ty, (Builtin.delete_ #[54, 3] ty #[.map (some bt), .int .i64 t.no]).run Try.prog w1 = .ok (.tuple #[]) w2 := fun ty => by rw [← hr2]; rfl
  have h2 : Wh g now given n (without t.no ts) (without t.no ts) bt S sm w2 := h1.timers t2 p2 (fun x hx => h1.rts x (mem_without hx).1) (rise_filter h1.up _) (fun x hx => h1.nos x (mem_without hx).1)
  have HX : Hid (Wh g now given n (without t.no ts) (without t.no ts) bt S sm w2 ∧ Kw (OwW g bt S n sm) w w2) := ⟨h2, (k1.mono (fun k hk => .inr (.inr (.inr hk)))).trans (Kw.turned t2 (.inr (.inl rfl)))⟩
  have d1' : w1.cell? ⟨t.bk, 1, none⟩ = some (.int .u64 0) := by rw [d1, hp]; rfl
  clear d1
  clear hLi h h1 k1 h2 p2 t2 hr2
  go_wp2
  exact bodyPost_ret (v := .tuple #[]) (by simp [results, Try.results37]) rfl ⟨rfl, HX.out⟩
set_option maxHeartbeats 4000000 in
theorem behind_again (h : Wh g now given n ts ts bt S sm w) (t : Tm) (ht : t ∈ ts) (hb : Bkd ts) (hp0 : 0 < t.per) (hp1 : t.per ≤ 4294967296) (hdn : t.due ≤ now) (hl : ts.length ≤ 1024) :
    Calls Try.prog 37 #[.pointer (some ⟨g, 0, none⟩), .int .i64 t.no, ptrV t.bk] w fun e w' => e = .returned (.tuple #[]) ∧ ∃ sm', Wh g now given n (replT ts { t with due := nextDue t now }) (replT ts { t with due := nextDue t now }) bt S sm' w' ∧ Kw (OwT g bt S n sm ts) w w' ∧ More n sm sm' w := by
  have hno : t.no < 4611686018427387904 := by have := h.nos t ht; have := h.g1; omega
  have hw1 := h.w1
  have hLi := lift_any h t ht hno (by omega)
  obtain ⟨N1, hN1⟩ : ∃ x, nextDue t now = x := ⟨_, rfl⟩
  have hq : (now - t.due) / t.per * t.per ≤ now - t.due := Nat.div_mul_le_self _ _
  have hN1b : N1 < 9223372036854775808 := by rw [← hN1]; unfold nextDue; omega
  obtain ⟨qo, hqo⟩ : ∃ x, (now - t.due) / t.per = x := ⟨_, rfl⟩
  obtain ⟨pr, hpr⟩ : ∃ x, qo * t.per = x := ⟨_, rfl⟩
  rw [hqo, hpr] at hq
  have hN2 : t.due + (pr + t.per) = N1 := by rw [← hN1]; unfold nextDue; rw [hqo, hpr]
  have a1 : (now : Int) - (t.due : Int) = ((now - t.due : Nat) : Int) := by omega
  have a2 : ((now - t.due : Nat) : Int).tdiv (t.per : Int) = (qo : Int) := by rw [← hqo]; rfl
  have a3 : (qo : Int) * (t.per : Int) = (pr : Int) := by rw [← hpr]; simp
  have a4 : (pr : Int) + (t.per : Int) = ((pr + t.per : Nat) : Int) := by omega
  have a5 : (t.due : Int) + ((pr + t.per : Nat) : Int) = (N1 : Int) := by omega
  rw [hN1]
  unfold ptrV at *
  go_enter Try.func37, Try.ntmps37
  go_wp2_with fail
  refine hLi.mono ?_
  rintro e w1 ⟨rfl, h1, k1⟩
  obtain ⟨c0, c1, c2, c3⟩ := h1.c
  obtain ⟨d0, d1, d2⟩ := (h1.rts t ht).c
  have hne : ((t.per : Int) == 0) = false := by rw [beq_eq_false_iff_ne]; omega
  clear hLi
  go_wp2_with fail
  refine wp_region_held (S := fun x => x.cell? ⟨g, 0, none⟩ = some (.int .u64 now) ∧ x.cell? ⟨t.bk, 1, none⟩ = some (.int .u64 t.per)) (by kernel_rfl) ?_
  obtain ⟨w2, hw2⟩ : ∃ x : World, { w1 with drawn := w1.drawn + 1 } = x := ⟨_, rfl⟩
  rw [hw2]
  have h2 : Wh g now given n ts (without t.no ts) bt S sm w2 := by rw [← hw2]; exact h1.drew _
  have k2 : Kw (OwT g bt S n sm ts) w w2 := (k1.mono (fun k hk => .inl (.inr (.inr (.inr hk))))).trans (by rw [← hw2]; exact ⟨rfl, rfl, rfl, Nat.le_refl _, fun _ _ _ => rfl⟩)
  have s1 : w2.cell? ⟨g, 0, none⟩ = some (.int .u64 now) ∧ w2.cell? ⟨t.bk, 1, none⟩ = some (.int .u64 t.per) := ⟨h2.c.1, (h2.rts t ht).c.2.1⟩
  have dd := (h2.rts t ht).c.1
  have df : w2.frozen? ⟨t.bk, 0, none⟩ = false := Lib.frozen_of_heap (h2.rts t ht) _
  obtain ⟨h3, r3, k3⟩ := h2.redue t ht hb (fun x hx => mem_without hx) N1
  have hstore : (storeVar 30 ⟨t.bk, 0, none⟩ (.int .u64 (N1 : Int))).run Try.prog w2 = .ok () (w2.setCell ⟨t.bk, 0, none⟩ (.int .u64 (N1 : Int))) := by
    simp [go_sem, run_underlying Try.underlying30, dd, df]
  have s3 : (w2.setCell ⟨t.bk, 0, none⟩ (.int .u64 (N1 : Int))).cell? ⟨g, 0, none⟩ = some (.int .u64 now) ∧ (w2.setCell ⟨t.bk, 0, none⟩ (.int .u64 (N1 : Int))).cell? ⟨t.bk, 1, none⟩ = some (.int .u64 t.per) := ⟨h3.c.1, r3.c.2.1⟩
  have hLy := lay_any h3 { t with due := N1 } r3 (fun x hx => (mem_without hx).2) hno (by show N1 < _; omega) (by have : (without t.no ts).length ≤ ts.length := List.length_filter_le _ _; omega)
  have K3 : Kw (OwT g bt S n sm ts) w (w2.setCell ⟨t.bk, 0, none⟩ (.int .u64 (N1 : Int))) := k2.trans (k3.mono (fun k hk => .inr ⟨t, ht, hk.symm⟩))
  rw [repl_put (t := t) (t' := { t with due := N1 }) rfl h.up ht] at hLy
  have hLy' : Calls Try.prog 35 #[.pointer (some ⟨g, 0, none⟩), .int .i64 t.no, .pointer (some ⟨t.bk, 0, none⟩)] (w2.setCell ⟨t.bk, 0, none⟩ (.int .u64 (N1 : Int))) _ := hLy
  have sz : w.heap.size ≤ (w2.setCell ⟨t.bk, 0, none⟩ (.int .u64 (N1 : Int))).heap.size := K3.size
  generalize w2.setCell ⟨t.bk, 0, none⟩ (.int .u64 (N1 : Int)) = w4 at *
  have u1 : IntKind.wrap .u64 ((now : Int) - (t.due : Int)) = ((now - t.due : Nat) : Int) := by rw [a1]; simp [IntKind.wrap, IntKind.signed, IntKind.bits]; omega
  have u2 : IntKind.wrap .u64 ((qo : Int) * (t.per : Int)) = (pr : Int) := by rw [a3]; simp [IntKind.wrap, IntKind.signed, IntKind.bits]; omega
  have u3 : IntKind.wrap .u64 ((pr : Int) + (t.per : Int)) = ((pr + t.per : Nat) : Int) := by rw [a4]; simp [IntKind.wrap, IntKind.signed, IntKind.bits]; omega
  have u4 : IntKind.wrap .u64 ((t.due : Int) + ((pr + t.per : Nat) : Int)) = (N1 : Int) := by rw [a5]; simp [IntKind.wrap, IntKind.signed, IntKind.bits]; omega
  have u5 : IntKind.wrap .u64 (qo : Int) = (qo : Int) := by
    have : qo ≤ now := by rw [← hqo]; exact Nat.le_trans (Nat.div_le_self _ _) (Nat.sub_le _ _)
    simp [IntKind.wrap, IntKind.signed, IntKind.bits]; omega
  have hpn : ¬ (t.per : Int) = 0 := by omega
  have hpn2 : ¬ t.per = 0 := by omega
  have u6 : IntKind.wrap .u64 ((t.due : Int) + ((pr : Int) + (t.per : Int))) = (N1 : Int) := by rw [a4]; exact u4
  clear h h1 h2 h3 r3 k1 k2 k3 hw2 c0 c1 c2 c3 d0 d1 d2 hLy
  refine wpAnyH_take (i := 0) (v := (.pointer (some ⟨t.bk, 0, none⟩))) rfl (by kernel_rfl) (by kernel_rfl) (by kernel_rfl) (fun _ _ _ h => h) (.inl ⟨rfl, fun _ hS => rfl⟩) s1 ?_
  simp only [List.getElem_toArray, List.getElem_cons_succ, List.getElem_cons_zero, Act.put, List.setIfInBounds_toArray, List.set_cons_succ, List.set_cons_zero]
  refine wpAnyH_take (i := 1) (v := (.pointer (some ⟨t.bk, 0, none⟩))) rfl (by kernel_rfl) (by kernel_rfl) (by kernel_rfl) (fun _ _ _ h => h) (.inl ⟨rfl, fun _ hS => by simp [execOp, go_sem, Act.eval]⟩) s1 ?_
  simp only [List.getElem_toArray, List.getElem_cons_succ, List.getElem_cons_zero, Act.put, List.setIfInBounds_toArray, List.set_cons_succ, List.set_cons_zero]
  refine wpAnyH_take (i := 2) (v := (.pointer (some ⟨t.bk, 0, none⟩))) rfl (by kernel_rfl) (by kernel_rfl) (by kernel_rfl) (fun _ _ _ h => h) (.inl ⟨rfl, fun _ hS => by simp [execOp, go_sem, Act.eval]⟩) s1 ?_
  simp only [List.getElem_toArray, List.getElem_cons_succ, List.getElem_cons_zero, Act.put, List.setIfInBounds_toArray, List.set_cons_succ, List.set_cons_zero]
  refine wpAnyH_take (i := 4) (v := (.pointer (some ⟨g, 0, none⟩))) rfl (by kernel_rfl) (by kernel_rfl) (by kernel_rfl) (fun _ _ _ h => h) (.inl ⟨rfl, fun _ hS => rfl⟩) s1 ?_
  simp only [List.getElem_toArray, List.getElem_cons_succ, List.getElem_cons_zero, Act.put, List.setIfInBounds_toArray, List.set_cons_succ, List.set_cons_zero]
  refine wpAnyH_take (i := 5) (v := (.pointer (some ⟨g, 0, none⟩))) rfl (by kernel_rfl) (by kernel_rfl) (by kernel_rfl) (fun _ _ _ h => h) (.inl ⟨rfl, fun _ hS => by simp [execOp, go_sem, Act.eval]⟩) s1 ?_
  simp only [List.getElem_toArray, List.getElem_cons_succ, List.getElem_cons_zero, Act.put, List.setIfInBounds_toArray, List.set_cons_succ, List.set_cons_zero]
  refine wpAnyH_take (i := 6) (v := (.pointer (some ⟨g, 0, none⟩))) rfl (by kernel_rfl) (by kernel_rfl) (by kernel_rfl) (fun _ _ _ h => h) (.inl ⟨rfl, fun _ hS => by simp [execOp, go_sem, Act.eval]⟩) s1 ?_
  simp only [List.getElem_toArray, List.getElem_cons_succ, List.getElem_cons_zero, Act.put, List.setIfInBounds_toArray, List.set_cons_succ, List.set_cons_zero]
  refine wpAnyH_take (i := 7) (v := (.int .u64 now)) rfl (by kernel_rfl) (by kernel_rfl) (by kernel_rfl) (fun _ _ _ h => h) (.inl ⟨rfl, fun _ hS => exec_load rfl rfl (load_u64 _ g 0 _ hS.1)⟩) s1 ?_
  simp only [List.getElem_toArray, List.getElem_cons_succ, List.getElem_cons_zero, Act.put, List.setIfInBounds_toArray, List.set_cons_succ, List.set_cons_zero]
  refine wpAnyH_take (i := 8) (v := (.pointer (some ⟨t.bk, 0, none⟩))) rfl (by kernel_rfl) (by kernel_rfl) (by kernel_rfl) (fun _ _ _ h => h) (.inl ⟨rfl, fun _ hS => rfl⟩) s1 ?_
  simp only [List.getElem_toArray, List.getElem_cons_succ, List.getElem_cons_zero, Act.put, List.setIfInBounds_toArray, List.set_cons_succ, List.set_cons_zero]
  refine wpAnyH_take (i := 9) (v := (.pointer (some ⟨t.bk, 0, none⟩))) rfl (by kernel_rfl) (by kernel_rfl) (by kernel_rfl) (fun _ _ _ h => h) (.inl ⟨rfl, fun _ hS => by simp [execOp, go_sem, Act.eval]⟩) s1 ?_
  simp only [List.getElem_toArray, List.getElem_cons_succ, List.getElem_cons_zero, Act.put, List.setIfInBounds_toArray, List.set_cons_succ, List.set_cons_zero]
  refine wpAnyH_take (i := 10) (v := (.pointer (some ⟨t.bk, 0, none⟩))) rfl (by kernel_rfl) (by kernel_rfl) (by kernel_rfl) (fun _ _ _ h => h) (.inl ⟨rfl, fun _ hS => by simp [execOp, go_sem, Act.eval]⟩) s1 ?_
  simp only [List.getElem_toArray, List.getElem_cons_succ, List.getElem_cons_zero, Act.put, List.setIfInBounds_toArray, List.set_cons_succ, List.set_cons_zero]
  refine wpAnyH_take (i := 13) (v := (.pointer (some ⟨t.bk, 0, none⟩))) rfl (by kernel_rfl) (by kernel_rfl) (by kernel_rfl) (fun _ _ _ h => h) (.inl ⟨rfl, fun _ hS => rfl⟩) s1 ?_
  simp only [List.getElem_toArray, List.getElem_cons_succ, List.getElem_cons_zero, Act.put, List.setIfInBounds_toArray, List.set_cons_succ, List.set_cons_zero]
  refine wpAnyH_take (i := 14) (v := (.pointer (some ⟨t.bk, 0, none⟩))) rfl (by kernel_rfl) (by kernel_rfl) (by kernel_rfl) (fun _ _ _ h => h) (.inl ⟨rfl, fun _ hS => by simp [execOp, go_sem, Act.eval]⟩) s1 ?_
  simp only [List.getElem_toArray, List.getElem_cons_succ, List.getElem_cons_zero, Act.put, List.setIfInBounds_toArray, List.set_cons_succ, List.set_cons_zero]
  refine wpAnyH_take (i := 15) (v := (.pointer (some ⟨t.bk, 1, none⟩))) rfl (by kernel_rfl) (by kernel_rfl) (by kernel_rfl) (fun _ _ _ h => h) (.inl ⟨rfl, fun _ hS => by simp [execOp, go_sem, Act.eval]⟩) s1 ?_
  simp only [List.getElem_toArray, List.getElem_cons_succ, List.getElem_cons_zero, Act.put, List.setIfInBounds_toArray, List.set_cons_succ, List.set_cons_zero]
  refine wpAnyH_take (i := 16) (v := (.int .u64 t.per)) rfl (by kernel_rfl) (by kernel_rfl) (by kernel_rfl) (fun _ _ _ h => h) (.inl ⟨rfl, fun _ hS => exec_load rfl rfl (load_u64 _ t.bk 1 _ hS.2)⟩) s1 ?_
  simp only [List.getElem_toArray, List.getElem_cons_succ, List.getElem_cons_zero, Act.put, List.setIfInBounds_toArray, List.set_cons_succ, List.set_cons_zero]
  refine wpAnyH_take (i := 18) (v := (.pointer (some ⟨t.bk, 0, none⟩))) rfl (by kernel_rfl) (by kernel_rfl) (by kernel_rfl) (fun _ _ _ h => h) (.inl ⟨rfl, fun _ hS => rfl⟩) s1 ?_
  simp only [List.getElem_toArray, List.getElem_cons_succ, List.getElem_cons_zero, Act.put, List.setIfInBounds_toArray, List.set_cons_succ, List.set_cons_zero]
  refine wpAnyH_take (i := 19) (v := (.pointer (some ⟨t.bk, 0, none⟩))) rfl (by kernel_rfl) (by kernel_rfl) (by kernel_rfl) (fun _ _ _ h => h) (.inl ⟨rfl, fun _ hS => by simp [execOp, go_sem, Act.eval]⟩) s1 ?_
  simp only [List.getElem_toArray, List.getElem_cons_succ, List.getElem_cons_zero, Act.put, List.setIfInBounds_toArray, List.set_cons_succ, List.set_cons_zero]
  refine wpAnyH_take (i := 20) (v := (.pointer (some ⟨t.bk, 1, none⟩))) rfl (by kernel_rfl) (by kernel_rfl) (by kernel_rfl) (fun _ _ _ h => h) (.inl ⟨rfl, fun _ hS => by simp [execOp, go_sem, Act.eval]⟩) s1 ?_
  simp only [List.getElem_toArray, List.getElem_cons_succ, List.getElem_cons_zero, Act.put, List.setIfInBounds_toArray, List.set_cons_succ, List.set_cons_zero]
  refine wpAnyH_take (i := 21) (v := (.int .u64 t.per)) rfl (by kernel_rfl) (by kernel_rfl) (by kernel_rfl) (fun _ _ _ h => h) (.inl ⟨rfl, fun _ hS => exec_load rfl rfl (load_u64 _ t.bk 1 _ hS.2)⟩) s1 ?_
  simp only [List.getElem_toArray, List.getElem_cons_succ, List.getElem_cons_zero, Act.put, List.setIfInBounds_toArray, List.set_cons_succ, List.set_cons_zero]
  refine wpAnyH_take (i := 23) (v := (.pointer (some ⟨t.bk, 0, none⟩))) rfl (by kernel_rfl) (by kernel_rfl) (by kernel_rfl) (fun _ _ _ h => h) (.inl ⟨rfl, fun _ hS => rfl⟩) s1 ?_
  simp only [List.getElem_toArray, List.getElem_cons_succ, List.getElem_cons_zero, Act.put, List.setIfInBounds_toArray, List.set_cons_succ, List.set_cons_zero]
  refine wpAnyH_take (i := 24) (v := (.pointer (some ⟨t.bk, 0, none⟩))) rfl (by kernel_rfl) (by kernel_rfl) (by kernel_rfl) (fun _ _ _ h => h) (.inl ⟨rfl, fun _ hS => by simp [execOp, go_sem, Act.eval]⟩) s1 ?_
  simp only [List.getElem_toArray, List.getElem_cons_succ, List.getElem_cons_zero, Act.put, List.setIfInBounds_toArray, List.set_cons_succ, List.set_cons_zero]
  refine wpAnyH_take (i := 25) (v := (.pointer (some ⟨t.bk, 1, none⟩))) rfl (by kernel_rfl) (by kernel_rfl) (by kernel_rfl) (fun _ _ _ h => h) (.inl ⟨rfl, fun _ hS => by simp [execOp, go_sem, Act.eval]⟩) s1 ?_
  simp only [List.getElem_toArray, List.getElem_cons_succ, List.getElem_cons_zero, Act.put, List.setIfInBounds_toArray, List.set_cons_succ, List.set_cons_zero]
  refine wpAnyH_take (i := 26) (v := (.int .u64 t.per)) rfl (by kernel_rfl) (by kernel_rfl) (by kernel_rfl) (fun _ _ _ h => h) (.inl ⟨rfl, fun _ hS => exec_load rfl rfl (load_u64 _ t.bk 1 _ hS.2)⟩) s1 ?_
  simp only [List.getElem_toArray, List.getElem_cons_succ, List.getElem_cons_zero, Act.put, List.setIfInBounds_toArray, List.set_cons_succ, List.set_cons_zero]
  refine wpAnyH_all (rs := [3, 11]) (by kernel_rfl) (by simp) ?_
  intro k hk
  simp only [List.mem_cons, List.mem_nil_iff, or_false] at hk
  rcases hk with rfl | rfl
  · refine wpOp_run rfl rfl (wp_load_cell 30 _ rfl t.bk 0 rfl (.int .u64 t.due) (load_u64 _ t.bk 0 _ dd) ?_)
    refine ⟨s1, ?_⟩
    simp only [List.getElem_toArray, List.getElem_cons_succ, List.getElem_cons_zero, Act.put, List.setIfInBounds_toArray, List.set_cons_succ, List.set_cons_zero]
    refine wpAnyH_all (rs := [11]) (by kernel_rfl) (by simp) ?_
    intro k hk
    simp only [List.mem_cons, List.mem_nil_iff, or_false] at hk
    subst hk
    refine wpOp_run rfl rfl (wp_load_cell 30 _ rfl t.bk 0 rfl (.int .u64 t.due) (load_u64 _ t.bk 0 _ dd) ?_)
    refine ⟨s1, ?_⟩
    simp only [List.getElem_toArray, List.getElem_cons_succ, List.getElem_cons_zero, Act.put, List.setIfInBounds_toArray, List.set_cons_succ, List.set_cons_zero]
    refine wpAnyH_take (i := 12) (v := (.int .u64 ((now - t.due : Nat) : Int))) rfl (by kernel_rfl) (by kernel_rfl) (by kernel_rfl) (fun _ _ _ h => h) (.inl ⟨rfl, fun _ hS => by simp [execOp, go_sem, Act.eval, u1]⟩) s1 ?_
    simp only [List.getElem_toArray, List.getElem_cons_succ, List.getElem_cons_zero, Act.put, List.setIfInBounds_toArray, List.set_cons_succ, List.set_cons_zero]
    refine wpAnyH_take (i := 17) (v := (.int .u64 qo)) rfl (by kernel_rfl) (by kernel_rfl) (by kernel_rfl) (fun _ _ _ h => h) (.inl ⟨rfl, fun _ hS => by simp [execOp, go_sem, Act.eval, a2, u5, hpn, hpn2]⟩) s1 ?_
    simp only [List.getElem_toArray, List.getElem_cons_succ, List.getElem_cons_zero, Act.put, List.setIfInBounds_toArray, List.set_cons_succ, List.set_cons_zero]
    refine wpAnyH_take (i := 22) (v := (.int .u64 pr)) rfl (by kernel_rfl) (by kernel_rfl) (by kernel_rfl) (fun _ _ _ h => h) (.inl ⟨rfl, fun _ hS => by simp [execOp, go_sem, Act.eval, u2]⟩) s1 ?_
    simp only [List.getElem_toArray, List.getElem_cons_succ, List.getElem_cons_zero, Act.put, List.setIfInBounds_toArray, List.set_cons_succ, List.set_cons_zero]
    refine wpAnyH_take (i := 27) (v := (.int .u64 ((pr + t.per : Nat) : Int))) rfl (by kernel_rfl) (by kernel_rfl) (by kernel_rfl) (fun _ _ _ h => h) (.inl ⟨rfl, fun _ hS => by simp [execOp, go_sem, Act.eval, u3]⟩) s1 ?_
    simp only [List.getElem_toArray, List.getElem_cons_succ, List.getElem_cons_zero, Act.put, List.setIfInBounds_toArray, List.set_cons_succ, List.set_cons_zero]
    refine wpAnyH_take (i := 28) (v := (.int .u64 N1)) rfl (by kernel_rfl) (by kernel_rfl) (by kernel_rfl) (fun _ _ _ h => h) (.inl ⟨rfl, fun _ hS => by simp [execOp, go_sem, Act.eval, u4, u6]⟩) s1 ?_
    simp only [List.getElem_toArray, List.getElem_cons_succ, List.getElem_cons_zero, Act.put, List.setIfInBounds_toArray, List.set_cons_succ, List.set_cons_zero]
    refine wpAnyH_take (i := 29) (v := (.pointer (some ⟨t.bk, 0, none⟩))) rfl (by kernel_rfl) (by kernel_rfl) (by kernel_rfl) (fun _ _ _ h => h) (.inl ⟨rfl, fun _ hS => by simp [execOp, go_sem, Act.eval]⟩) s1 ?_
    simp only [List.getElem_toArray, List.getElem_cons_succ, List.getElem_cons_zero, Act.put, List.setIfInBounds_toArray, List.set_cons_succ, List.set_cons_zero]
    refine wpAnyH_take (i := 30) (v := (.pointer (some ⟨t.bk, 0, none⟩))) rfl (by kernel_rfl) (by kernel_rfl) (by kernel_rfl) (fun _ _ _ h => h) (.inl ⟨rfl, fun _ hS => by simp [execOp, go_sem, Act.eval]⟩) s1 ?_
    simp only [List.getElem_toArray, List.getElem_cons_succ, List.getElem_cons_zero, Act.put, List.setIfInBounds_toArray, List.set_cons_succ, List.set_cons_zero]
    refine wpAnyH_all (rs := [31]) (by kernel_rfl) (by simp) ?_
    intro k hk
    simp only [List.mem_cons, List.mem_nil_iff, or_false] at hk
    subst hk
    refine wpOp_run rfl rfl (wp_store_cell 30 _ _ rfl t.bk 0 rfl _ rfl hstore ?_)
    refine ⟨s3, ?_⟩
    simp only [List.getElem_toArray, List.getElem_cons_succ, List.getElem_cons_zero, Act.put, List.setIfInBounds_toArray, List.set_cons_succ, List.set_cons_zero]
    refine wpAnyH_done (by kernel_rfl) ?_ _
    clear s1 dd df hstore
    go_wp2_with fail
    refine hLy'.mono ?_
    rintro e w5 ⟨rfl, sm', h5, k5, m5⟩
    have HX : Hid (∃ sm', Wh g now given n (replT ts { t with due := N1 }) (replT ts { t with due := N1 }) bt S sm' w5 ∧ Kw (OwT g bt S n sm ts) w w5 ∧ More n sm sm' w) := ⟨sm', h5, K3.trans (k5.mono (fun k hk => by rcases hk with hk | hk; exact .inl (.inr (.inr (.inl hk))); exact .inl (.inr (.inr (.inr hk))))), fun i b hi hb' => by rcases m5 i b hi hb' with h | h; exact .inl h; exact .inr (by omega)⟩
    clear hLy' h5 k5 m5 s3 K3
    go_wp2
    go_end0
    exact ⟨rfl, HX.out⟩
  · refine wpOp_run rfl rfl (wp_load_cell 30 _ rfl t.bk 0 rfl (.int .u64 t.due) (load_u64 _ t.bk 0 _ dd) ?_)
    refine ⟨s1, ?_⟩
    simp only [List.getElem_toArray, List.getElem_cons_succ, List.getElem_cons_zero, Act.put, List.setIfInBounds_toArray, List.set_cons_succ, List.set_cons_zero]
    refine wpAnyH_take (i := 12) (v := (.int .u64 ((now - t.due : Nat) : Int))) rfl (by kernel_rfl) (by kernel_rfl) (by kernel_rfl) (fun _ _ _ h => h) (.inl ⟨rfl, fun _ hS => by simp [execOp, go_sem, Act.eval, u1]⟩) s1 ?_
    simp only [List.getElem_toArray, List.getElem_cons_succ, List.getElem_cons_zero, Act.put, List.setIfInBounds_toArray, List.set_cons_succ, List.set_cons_zero]
    refine wpAnyH_take (i := 17) (v := (.int .u64 qo)) rfl (by kernel_rfl) (by kernel_rfl) (by kernel_rfl) (fun _ _ _ h => h) (.inl ⟨rfl, fun _ hS => by simp [execOp, go_sem, Act.eval, a2, u5, hpn, hpn2]⟩) s1 ?_
    simp only [List.getElem_toArray, List.getElem_cons_succ, List.getElem_cons_zero, Act.put, List.setIfInBounds_toArray, List.set_cons_succ, List.set_cons_zero]
    refine wpAnyH_take (i := 22) (v := (.int .u64 pr)) rfl (by kernel_rfl) (by kernel_rfl) (by kernel_rfl) (fun _ _ _ h => h) (.inl ⟨rfl, fun _ hS => by simp [execOp, go_sem, Act.eval, u2]⟩) s1 ?_
    simp only [List.getElem_toArray, List.getElem_cons_succ, List.getElem_cons_zero, Act.put, List.setIfInBounds_toArray, List.set_cons_succ, List.set_cons_zero]
    refine wpAnyH_take (i := 27) (v := (.int .u64 ((pr + t.per : Nat) : Int))) rfl (by kernel_rfl) (by kernel_rfl) (by kernel_rfl) (fun _ _ _ h => h) (.inl ⟨rfl, fun _ hS => by simp [execOp, go_sem, Act.eval, u3]⟩) s1 ?_
    simp only [List.getElem_toArray, List.getElem_cons_succ, List.getElem_cons_zero, Act.put, List.setIfInBounds_toArray, List.set_cons_succ, List.set_cons_zero]
    refine wpAnyH_all (rs := [3]) (by kernel_rfl) (by simp) ?_
    intro k hk
    simp only [List.mem_cons, List.mem_nil_iff, or_false] at hk
    subst hk
    refine wpOp_run rfl rfl (wp_load_cell 30 _ rfl t.bk 0 rfl (.int .u64 t.due) (load_u64 _ t.bk 0 _ dd) ?_)
    refine ⟨s1, ?_⟩
    simp only [List.getElem_toArray, List.getElem_cons_succ, List.getElem_cons_zero, Act.put, List.setIfInBounds_toArray, List.set_cons_succ, List.set_cons_zero]
    refine wpAnyH_take (i := 28) (v := (.int .u64 N1)) rfl (by kernel_rfl) (by kernel_rfl) (by kernel_rfl) (fun _ _ _ h => h) (.inl ⟨rfl, fun _ hS => by simp [execOp, go_sem, Act.eval, u4, u6]⟩) s1 ?_
    simp only [List.getElem_toArray, List.getElem_cons_succ, List.getElem_cons_zero, Act.put, List.setIfInBounds_toArray, List.set_cons_succ, List.set_cons_zero]
    refine wpAnyH_take (i := 29) (v := (.pointer (some ⟨t.bk, 0, none⟩))) rfl (by kernel_rfl) (by kernel_rfl) (by kernel_rfl) (fun _ _ _ h => h) (.inl ⟨rfl, fun _ hS => by simp [execOp, go_sem, Act.eval]⟩) s1 ?_
    simp only [List.getElem_toArray, List.getElem_cons_succ, List.getElem_cons_zero, Act.put, List.setIfInBounds_toArray, List.set_cons_succ, List.set_cons_zero]
    refine wpAnyH_take (i := 30) (v := (.pointer (some ⟨t.bk, 0, none⟩))) rfl (by kernel_rfl) (by kernel_rfl) (by kernel_rfl) (fun _ _ _ h => h) (.inl ⟨rfl, fun _ hS => by simp [execOp, go_sem, Act.eval]⟩) s1 ?_
    simp only [List.getElem_toArray, List.getElem_cons_succ, List.getElem_cons_zero, Act.put, List.setIfInBounds_toArray, List.set_cons_succ, List.set_cons_zero]
    refine wpAnyH_all (rs := [31]) (by kernel_rfl) (by simp) ?_
    intro k hk
    simp only [List.mem_cons, List.mem_nil_iff, or_false] at hk
    subst hk
    refine wpOp_run rfl rfl (wp_store_cell 30 _ _ rfl t.bk 0 rfl _ rfl hstore ?_)
    refine ⟨s3, ?_⟩
    simp only [List.getElem_toArray, List.getElem_cons_succ, List.getElem_cons_zero, Act.put, List.setIfInBounds_toArray, List.set_cons_succ, List.set_cons_zero]
    refine wpAnyH_done (by kernel_rfl) ?_ _
    clear s1 dd df hstore
    go_wp2_with fail
    refine hLy'.mono ?_
    rintro e w5 ⟨rfl, sm', h5, k5, m5⟩
    have HX : Hid (∃ sm', Wh g now given n (replT ts { t with due := N1 }) (replT ts { t with due := N1 }) bt S sm' w5 ∧ Kw (OwT g bt S n sm ts) w w5 ∧ More n sm sm' w) := ⟨sm', h5, K3.trans (k5.mono (fun k hk => by rcases hk with hk | hk; exact .inl (.inr (.inr (.inl hk))); exact .inl (.inr (.inr (.inr hk))))), fun i b hi hb' => by rcases m5 i b hi hb' with h | h; exact .inl h; exact .inr (by omega)⟩
    clear hLy' h5 k5 m5 s3 K3
    go_wp2
    go_end0
    exact ⟨rfl, HX.out⟩
end
end Go.Proofs.Ytjkkclojidhgdaa
