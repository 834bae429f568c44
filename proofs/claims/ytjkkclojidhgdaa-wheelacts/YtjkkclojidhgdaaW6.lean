/- New, take, Add and Every of a wheel. -/
import Derived.Test.YtjkkclojidhgdaaW5
import Derived.Deep.OwnRows
import Derived.Laws.OwnMore
namespace Go.Proofs.Ytjkkclojidhgdaa
open Go.RowKit Go.Maps Go.WideMaps
set_option linter.unusedVariables false
set_option maxRecDepth 1000000
set_option linter.unusedSimpArgs false

theorem fits_any (z : Nat) (w : World) : Calls Try.prog 26 #[.int .u64 z] w fun e w' => e = .returned (.bool (decide (1 ≤ z ∧ z ≤ 4294967296))) ∧ w' = w := by
  by_cases h1 : 1 ≤ z
  · have d1 : decide ((1 : Int) ≤ (z : Int)) = true := by simp; omega
    by_cases h2 : z ≤ 4294967296
    · have d2 : decide ((z : Int) ≤ 4294967296) = true := by simp; omega
      have HE : Hid (decide (1 ≤ z ∧ z ≤ 4294967296) = true) := by show _ = _; simp; omega
      clear h1 h2
      go_enter Try.func26, Try.ntmps26
      go_wp2
      go_ret
      exact ⟨ret_bool HE.out.symm, rfl⟩
    · have d2 : decide ((z : Int) ≤ 4294967296) = false := by simp; omega
      have HE : Hid (decide (1 ≤ z ∧ z ≤ 4294967296) = false) := by show _ = _; simp; omega
      clear h1 h2
      go_enter Try.func26, Try.ntmps26
      go_wp2
      go_ret
      exact ⟨ret_bool HE.out.symm, rfl⟩
  · have d1 : decide ((1 : Int) ≤ (z : Int)) = false := by simp; omega
    have HE : Hid (decide (1 ≤ z ∧ z ≤ 4294967296) = false) := by show _ = _; simp; omega
    clear h1
    go_enter Try.func26, Try.ntmps26
    go_wp2
    go_ret
    exact ⟨ret_bool HE.out.symm, rfl⟩
theorem size_alloc (w : World) (o : Obj) : (w.alloc o).heap.size = w.heap.size + 1 := by show (w.heap.push o).size = _; rw [Array.size_push]
theorem infoSl : (Try.prog.info? 73).map (fun i => (i.zero, i.size, i.bytes)) = some (some (.map none), 1, 8) := by kernel_rfl
set_option maxHeartbeats 1000000 in
theorem New_any (n : Nat) (h0 : 0 < n) (h1 : n ≤ 4096) (w : World) :
    Calls Try.prog 7 #[.int .i64 n] w fun e w' => ∃ g bt S, e = .returned (.tuple #[.pointer (some ⟨g, 0, none⟩), .int .i64 0]) ∧ w.heap.size ≤ g ∧ w.heap.size ≤ bt ∧ w.heap.size ≤ S ∧ Wh g 0 0 n [] [] bt S (fun _ => none) w' ∧ Below w.heap.size w w' := by
  have d1 : decide ((n : Int) < 1) = false := by simp; omega
  have d2 : decide ((4096 : Int) < (n : Int)) = false := by simp; omega
  have hmk : ∀ x : World, (Instr.makeMap 54 none).run Try.prog x = .ok (.map (some x.heap.size)) (x.alloc (.map #[] 0)) := fun x => by simp [Instr.makeMap, run_underlying Try.underlying54, Result.andThen]
  have hms : ∀ x, (Instr.makeSlice 55 (.int .i64 n) (.int .i64 n)).run Try.prog x = .ok (.slice (some ⟨x.heap.size, 0, none⟩) n n) (x.alloc (.cells (madeCells #[.map none] n) 73)) := fun x => run_make_row' (P := Try.prog) 55 73 (.map none) 8 Try.underlying55 infoSl rfl .i64 .i64 n (by omega) (by omega) x
  obtain ⟨w1, hw1⟩ : ∃ x, w.alloc (.map #[] 0) = x := ⟨_, rfl⟩
  obtain ⟨w2, hw2⟩ : ∃ x, w1.alloc (.cells (madeCells #[.map none] n) 73) = x := ⟨_, rfl⟩
  obtain ⟨w3, hw3⟩ : ∃ x, w2.alloc (.cells (whA 0 0 w.heap.size w1.heap.size n) 57) = x := ⟨_, rfl⟩
  have s1 : w1.heap.size = w.heap.size + 1 := by rw [← hw1, size_alloc]
  have s2 : w2.heap.size = w1.heap.size + 1 := by rw [← hw2, size_alloc]
  have b1 : Below w.heap.size w w1 := by rw [← hw1]; exact (Below.refl _ _).alloc (Nat.le_refl _) _
  have b2 : Below w1.heap.size w1 w2 := by rw [← hw2]; exact (Below.refl _ _).alloc (Nat.le_refl _) _
  have b3 : Below w2.heap.size w2 w3 := by rw [← hw3]; exact (Below.refl _ _).alloc (Nat.le_refl _) _
  have hP : PM w1 w.heap.size [] := by rw [← hw1]; exact PM.new w
  have hR : w2.heap[w1.heap.size]? = some (.cells (madeCells #[.map none] n) 73 (0, 0)) := by rw [← hw2]; exact heap_alloc_new w1 _
  have hH : w3.heap[w2.heap.size]? = some (.cells (whA 0 0 w.heap.size w1.heap.size n) 57 (0, 0)) := by rw [← hw3]; exact heap_alloc_new w2 _
  have HX : Hid (Wh w2.heap.size 0 0 n [] [] w.heap.size w1.heap.size (fun _ => none) w3 ∧ Below w.heap.size w w3) := by
    refine ⟨⟨hH, (hP.same (b2.block _ (by omega))).same (b3.block _ (by omega)), ⟨_, (b3.block _ (by omega)).trans hR, size_madeCells _ _, fun i hi => ?_⟩, fun i _ _ => rfl, (fun i b _ h => by cases h), (fun i j b _ _ h => by cases h), by simp, by simp, .nil, .nil, h0, h1, by omega, by omega, by simp⟩, (b1.trans (b2.mono (by omega))).trans (b3.mono (by omega))⟩
    have := congrArg (fun l => l[i]?) (toList_madeCells_one (.map none) n)
    simpa [hi] using this
  obtain ⟨p, hp⟩ : ∃ p, w.heap.size = p := ⟨_, rfl⟩
  obtain ⟨p1, hp1⟩ : ∃ p, w1.heap.size = p := ⟨_, rfl⟩
  obtain ⟨p2, hp2⟩ : ∃ p, w2.heap.size = p := ⟨_, rfl⟩
  have hw3' : w2.alloc (.cells #[.int .u64 0, .int .i64 0, .map (some p), .slice (some ⟨p1, 0, none⟩) n n] 57) = w3 := by rw [← hp, ← hp1]; exact hw3
  have l1 : w.heap.size ≤ p2 := by omega
  have l2 : w.heap.size ≤ p1 := by omega
  have l0 : w.heap.size ≤ p := by omega
  rw [hp, hp1, hp2] at HX
  clear hw3 s1 s2 b1 b2 b3 hP hR hH
  go_enter Try.func7, Try.ntmps7
  go_wp2
  go_ret2
  exact ⟨p2, p, p1, rfl, l1, l0, l2, HX.out.1, by rw [hp]; exact HX.out.2⟩
theorem putT_last {t : Tm} : ∀ {l : List Tm}, (∀ x ∈ l, x.no < t.no) → putT l t = l ++ [t]
  | [], _ => rfl
  | a :: b, h => by
    rw [putT_cons, if_neg (by have := h a (by simp); omega), putT_last (fun x hx => h x (by simp [hx]))]
    rfl
section
variable {g now given n : Nat} {ts ls : List Tm} {bt S : Nat} {sm : Nat → Option Nat} {w : World}
/-- A number in the wheel's own block changes. -/
theorem Wh.setHead (h : Wh g now given n ts ls bt S sm w) (k : Nat) (u : Value) (now' given' : Nat) (hA : (whA now given bt S n).setIfInBounds k u = whA now' given' bt S n) (h1 : given' < 4611686018427387904) (h2 : now' < 4611686018427387904) (h3 : given ≤ given') :
    Wh g now' given' n ts ls bt S sm (w.setCell ⟨g, k, none⟩ u) ∧ Kw (fun k => k = g) w (w.setCell ⟨g, k, none⟩ u) := by
  have hk : ∀ j, j ≠ g → (w.setCell ⟨g, k, none⟩ u).heap[j]? = w.heap[j]? := fun j hj => Below.heap_setCell w ⟨g, k, none⟩ u j hj
  obtain ⟨cs, r1, r2, r3⟩ := h.row
  have neT : ∀ j A T fr, T ≠ 57 → w.heap[j]? = some (Obj.cells A T fr) → j ≠ g := fun j A T fr ht hj e => by
    rw [e, h.head] at hj; simp at hj; exact ht hj.2.1.symm
  have neM : ∀ b ts', PM w b ts' → b ≠ g := fun b ts' hp => (hp.ne h.head).symm
  refine ⟨⟨?_, h.tim.same (hk _ (neM _ _ h.tim)), ⟨cs, (hk _ (neT _ _ _ _ (by decide) r1)).trans r1, r2, r3⟩, h.none', fun j c hj hc => ⟨(h.maps j c hj hc).1.same (hk c (neM _ _ (h.maps j c hj hc).1)), (h.maps j c hj hc).2⟩, h.inj, fun t ht => (hk _ (neT _ _ _ _ (by decide) (h.rts t ht))).trans (h.rts t ht), fun t ht => (hk _ (neT _ _ _ _ (by decide) (h.rls t ht))).trans (h.rls t ht), h.up, h.upl, h.n0, h.n1, h1, h2, fun t ht => Nat.le_trans (h.nos t ht) h3⟩, rfl, rfl, rfl, by simp [World.setCell], fun j hj ho => hk j ho⟩
  have hh := h.head
  simp only [World.setCell, Array.getElem?_modify, hh]
  simp [hA]
/-- A wheel's blocks. -/
def OwW (g bt S n : Nat) (sm : Nat → Option Nat) (k : Nat) : Prop := k = g ∨ k = bt ∨ k = S ∨ ∃ i, i < n ∧ sm i = some k
theorem load_mapt (x : World) (D k : Nat) (m : Option Nat) (hc : x.cell? ⟨D, k, none⟩ = some (.map m)) : (loadVar 54 ⟨D, k, none⟩).run Try.prog x = .ok (.map m) x := by
  simp [go_sem, run_underlying Try.underlying54, hc]
theorem load_int (x : World) (D k : Nat) (z : Int) (hc : x.cell? ⟨D, k, none⟩ = some (.int .i64 z)) : (loadVar 3 ⟨D, k, none⟩).run Try.prog x = .ok (.int .i64 z) x := by
  simp [go_sem, run_underlying Try.underlying3, hc]
theorem wp_put_run {o : Oper} {a : Act} {w w' : World} {K : Act → World → Prop} {Q : Exit → Act → World → Prop} (m x y : Operand) (t : TypeId) (ho : o.op = .mapUpdate t m x y) (v u z : Value) (hm : a.eval m = v) (hx : a.eval x = u) (hy : a.eval y = z)
    (hr : (Instr.mapUpdate t v u z).run Try.prog w = .ok () w') (h : K (a.put o.dst undef) w') : o.wp Try.prog a w K Q := by
  unfold Oper.wp execOp
  simp only [ho, hm, hx, hy, Sem.run_bind, hr, Result.andThen_ok]
  exact h
set_option maxHeartbeats 2000000 in
theorem take_any (h : Wh g now given n ts ts bt S sm w) (due per : Nat) (what : Int) (hd : due < 18446744073709551616) (hl : ts.length < 1024) (hg : given < 2305843009213693952) :
    Calls Try.prog 27 #[.pointer (some ⟨g, 0, none⟩), .agg #[.int .u64 due, .int .u64 per, .int .i64 what]] w fun e w' => e = .returned (.tuple #[.int .i64 ((given + 1 : Nat) : Int), .int .i64 0]) ∧ ∃ sm', Wh g now (given + 1) n (ts ++ [⟨given + 1, due, per, what, w.heap.size⟩]) (ts ++ [⟨given + 1, due, per, what, w.heap.size⟩]) bt S sm' w' ∧ Kw (OwW g bt S n sm) w w' ∧ More n sm sm' w := by
  generalize hG1 : given + 1 = G1
  obtain ⟨t, ht⟩ : ∃ t : Tm, t = ⟨G1, due, per, what, w.heap.size⟩ := ⟨_, rfl⟩
  obtain ⟨wa, hwa⟩ : ∃ x, w.alloc (.cells (runA t) 65) = x := ⟨_, rfl⟩
  have ba : Below w.heap.size w wa := by rw [← hwa]; exact (Below.refl _ _).alloc (Nat.le_refl _) _
  have ra : Ru t wa := by unfold Ru; rw [← hwa, ht]; exact heap_alloc_new w _
  have h1 := h.below ba
  obtain ⟨c0, c1, c2, c3⟩ := h1.c
  have f1 : wa.frozen? ⟨g, 1, none⟩ = false := Lib.frozen_of_heap h1.head _
  obtain ⟨h2, k2⟩ := h1.setHead 1 (.int .i64 (G1 : Int)) now G1 rfl (by omega) h.w1 (by omega)
  obtain ⟨wb, hwb⟩ : ∃ x, wa.setCell ⟨g, 1, none⟩ (.int .i64 (G1 : Int)) = x := ⟨_, rfl⟩
  rw [hwb] at h2 k2
  have rb : Ru t wb := (k2.keep t.bk (Array.getElem?_eq_some_iff.1 ra).1 (fun e => by
    have r' := ra
    unfold Ru at r'
    rw [e, h1.head] at r'; simp at r')).trans ra
  have hlen := h1.tim.len und_mapt
  have HK0 : Hid (Kw (OwW g bt S n sm) w wb) := (Kw.below ba).trans (k2.mono (fun k e => .inl e))
  have hnew : ∀ x ∈ ts, x.no ≠ t.no := fun x hx => by have := h.nos x hx; rw [ht]; show x.no ≠ G1; omega
  have hlast : ∀ x ∈ ts, x.no < t.no := fun x hx => by have := h.nos x hx; rw [ht]; show x.no < G1; omega
  have HP : Hid (putT ts t = ts ++ [t]) := putT_last hlast
  have htn : t.no = G1 := by rw [ht]
  have hbk : t.bk = w.heap.size := by rw [ht]
  have hdu : t.due = due := by rw [ht]
  have hne : ((ts.length : Int) == 1024) = false := by rw [beq_eq_false_iff_ne]; omega
  have hn0 := h.n0
  have hne2 : ((n : Int) == 0) = false := by rw [beq_eq_false_iff_ne]; omega
  have hwa2 : w.alloc (.cells #[.int .u64 due, .int .u64 per, .int .i64 what] 65) = wa := by rw [← hwa, ht]; rfl
  have HM : Hid (∀ x : World, wb.heap.size ≤ x.heap.size → w.heap.size ≤ x.heap.size) := fun x hx => Nat.le_trans (Nat.le_trans ba.size k2.size) hx
  have hgi : (given : Int) + 1 = (G1 : Int) := by omega
  have hG1b : G1 < 2305843009213693953 := by omega
  have HG1 : Hid (given + 1 = G1) := hG1
  obtain ⟨q, hq⟩ : ∃ q, w.heap.size = q := ⟨_, rfl⟩
  rw [hq] at hbk
  rw [← ht]
  clear h h1 k2 ra hwa hG1
  go_enter Try.func27, Try.ntmps27
  go_wp2_with fail
  refine wp_region_held (S := fun x => x.cell? ⟨g, 1, none⟩ = some (.int .i64 (G1 : Int)) ∧ x.cell? ⟨g, 2, none⟩ = some (.map (some bt))) (by kernel_rfl) ?_
  obtain ⟨w1, hw1⟩ : ∃ x : World, { wb with drawn := wb.drawn + 1 } = x := ⟨_, rfl⟩
  rw [hw1]
  have h3 : Wh g now G1 n ts ts bt S sm w1 := by rw [← hw1]; exact h2.drew _
  have K3 : Kw (OwW g bt S n sm) w w1 := HK0.out.trans (by rw [← hw1]; exact ⟨rfl, rfl, rfl, Nat.le_refl _, fun _ _ _ => rfl⟩)
  have r3 : Ru t w1 := by rw [← hw1]; exact rb
  have s1 : w1.cell? ⟨g, 1, none⟩ = some (.int .i64 (G1 : Int)) ∧ w1.cell? ⟨g, 2, none⟩ = some (.map (some bt)) := ⟨h3.c.2.1, h3.c.2.2.1⟩
  obtain ⟨w2, u2, p2, t2⟩ := h3.tim.put t (by rw [htn]; omega) (by omega) und_mapt
  rw [filter_id hnew, HP.out] at p2
  have h4 : Wh g now G1 n (ts ++ [t]) ts bt S sm w2 := h3.timers t2 p2 (fun x hx => by
    rcases List.mem_append.1 hx with hx | hx
    · exact h3.rts x hx
    · simp at hx; subst hx; exact r3) (by rw [← HP.out]; exact rise_put h3.up hnew) (fun x hx => by
    rcases List.mem_append.1 hx with hx | hx
    · exact h3.nos x hx
    · simp at hx; subst hx; rw [htn]; exact Nat.le_refl _)
  have K4 : Kw (OwW g bt S n sm) w w2 := K3.trans (Kw.turned t2 (.inr (.inl rfl)))
  have r4 : Ru t w2 := ((turned_block t2).2.2.2.2 t.bk (h3.tim.ne r3)).trans r3
  have s2 : w2.cell? ⟨g, 1, none⟩ = some (.int .i64 (G1 : Int)) ∧ w2.cell? ⟨g, 2, none⟩ = some (.map (some bt)) := ⟨h4.c.2.1, h4.c.2.2.1⟩
  have hLy := lay_any h4 t r4 hnew (by rw [htn]; omega) (by rw [hdu]; exact hd) (by omega)
  have s22 : w1.heap.size = w2.heap.size := (turned_block t2).2.2.2.1.symm
  have s11 : w.heap.size ≤ w2.heap.size := K4.size
  rw [htn, hbk, HP.out] at hLy
  rw [htn, hbk] at u2
  unfold ptrV at *
  clear hw1 h2 h3 rb r3 r4 p2 t2 K3 HK0
  refine wpAnyH_take (i := 0) (v := (.pointer (some ⟨g, 0, none⟩))) rfl (by kernel_rfl) (by kernel_rfl) (by kernel_rfl) (fun _ _ _ h => h) (.inl ⟨rfl, fun _ hS => rfl⟩) s1 ?_
  simp only [List.getElem_toArray, List.getElem_cons_succ, List.getElem_cons_zero, Act.put, List.setIfInBounds_toArray, List.set_cons_succ, List.set_cons_zero]
  refine wpAnyH_take (i := 1) (v := (.pointer (some ⟨g, 0, none⟩))) rfl (by kernel_rfl) (by kernel_rfl) (by kernel_rfl) (fun _ _ _ h => h) (.inl ⟨rfl, fun _ hS => by simp [execOp, go_sem, Act.eval]⟩) s1 ?_
  simp only [List.getElem_toArray, List.getElem_cons_succ, List.getElem_cons_zero, Act.put, List.setIfInBounds_toArray, List.set_cons_succ, List.set_cons_zero]
  refine wpAnyH_take (i := 2) (v := (.pointer (some ⟨g, 2, none⟩))) rfl (by kernel_rfl) (by kernel_rfl) (by kernel_rfl) (fun _ _ _ h => h) (.inl ⟨rfl, fun _ hS => by simp [execOp, go_sem, Act.eval]⟩) s1 ?_
  simp only [List.getElem_toArray, List.getElem_cons_succ, List.getElem_cons_zero, Act.put, List.setIfInBounds_toArray, List.set_cons_succ, List.set_cons_zero]
  refine wpAnyH_take (i := 3) (v := (.map (some bt))) rfl (by kernel_rfl) (by kernel_rfl) (by kernel_rfl) (fun _ _ _ h => h) (.inl ⟨rfl, fun _ hS => exec_load rfl rfl (load_mapt _ g 2 _ hS.2)⟩) s1 ?_
  simp only [List.getElem_toArray, List.getElem_cons_succ, List.getElem_cons_zero, Act.put, List.setIfInBounds_toArray, List.set_cons_succ, List.set_cons_zero]
  refine wpAnyH_take (i := 4) (v := (.pointer (some ⟨g, 0, none⟩))) rfl (by kernel_rfl) (by kernel_rfl) (by kernel_rfl) (fun _ _ _ h => h) (.inl ⟨rfl, fun _ hS => rfl⟩) s1 ?_
  simp only [List.getElem_toArray, List.getElem_cons_succ, List.getElem_cons_zero, Act.put, List.setIfInBounds_toArray, List.set_cons_succ, List.set_cons_zero]
  refine wpAnyH_take (i := 5) (v := (.pointer (some ⟨g, 0, none⟩))) rfl (by kernel_rfl) (by kernel_rfl) (by kernel_rfl) (fun _ _ _ h => h) (.inl ⟨rfl, fun _ hS => by simp [execOp, go_sem, Act.eval]⟩) s1 ?_
  simp only [List.getElem_toArray, List.getElem_cons_succ, List.getElem_cons_zero, Act.put, List.setIfInBounds_toArray, List.set_cons_succ, List.set_cons_zero]
  refine wpAnyH_take (i := 6) (v := (.pointer (some ⟨g, 1, none⟩))) rfl (by kernel_rfl) (by kernel_rfl) (by kernel_rfl) (fun _ _ _ h => h) (.inl ⟨rfl, fun _ hS => by simp [execOp, go_sem, Act.eval]⟩) s1 ?_
  simp only [List.getElem_toArray, List.getElem_cons_succ, List.getElem_cons_zero, Act.put, List.setIfInBounds_toArray, List.set_cons_succ, List.set_cons_zero]
  refine wpAnyH_take (i := 7) (v := (.int .i64 (G1 : Int))) rfl (by kernel_rfl) (by kernel_rfl) (by kernel_rfl) (fun _ _ _ h => h) (.inl ⟨rfl, fun _ hS => exec_load rfl rfl (load_int _ g 1 _ hS.1)⟩) s1 ?_
  simp only [List.getElem_toArray, List.getElem_cons_succ, List.getElem_cons_zero, Act.put, List.setIfInBounds_toArray, List.set_cons_succ, List.set_cons_zero]
  refine wpAnyH_all (rs := [8]) (by kernel_rfl) (by simp) ?_
  intro k hk
  simp only [List.mem_cons, List.mem_nil_iff, or_false] at hk
  subst hk
  refine wpOp_run rfl rfl (wp_put_run _ _ _ 54 rfl (.map (some bt)) (.int .i64 (G1 : Int)) (.pointer (some ⟨q, 0, none⟩)) rfl rfl rfl u2 ?_)
  refine ⟨s2, ?_⟩
  simp only [List.getElem_toArray, List.getElem_cons_succ, List.getElem_cons_zero, Act.put, List.setIfInBounds_toArray, List.set_cons_succ, List.set_cons_zero]
  refine wpAnyH_done (by kernel_rfl) ?_ _
  clear s1 u2
  obtain ⟨e1, e2⟩ := s2
  go_wp2_with fail
  refine hLy.mono ?_
  rintro e w5 ⟨rfl, sm', h5, k5, m5⟩
  have e5 := h5.c.2.1
  have HX : Hid (∃ sm', Wh g now G1 n (ts ++ [t]) (ts ++ [t]) bt S sm' w5 ∧ Kw (OwW g bt S n sm) w w5 ∧ More n sm sm' w) := ⟨sm', h5, K4.trans (k5.mono (fun k hk => by rcases hk with hk | hk; exact .inr (.inr (.inl hk)); exact .inr (.inr (.inr hk)))), fun i b hi hb => by rcases m5 i b hi hb with h | h; exact .inl h; exact .inr (by omega)⟩
  clear hLy h5 k5 m5 h4 K4
  go_wp2
  go_ret2
  exact ⟨rfl, HX.out⟩
end
end Go.Proofs.Ytjkkclojidhgdaa
