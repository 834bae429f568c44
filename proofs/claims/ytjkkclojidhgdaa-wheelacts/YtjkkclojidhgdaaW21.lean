/- behind of a wheel, with an iterator over the timers under way; pass. -/
import Derived.Test.YtjkkclojidhgdaaW17
namespace Go.Proofs.Ytjkkclojidhgdaa
open Go.RowKit Go.Maps Go.WideMaps
set_option linter.unusedVariables false
set_option maxRecDepth 1000000
set_option linter.unusedSimpArgs false
/-- What behind touches, the timers' map aside. -/
def OwB (S n : Nat) (sm : Nat → Option Nat) (ts : List Tm) (k : Nat) : Prop := k = S ∨ (∃ i, i < n ∧ sm i = some k) ∨ ∃ t ∈ ts, t.bk = k
/-- An iterator lies in block r. -/
def ItrAt (w : World) (r : Nat) : Prop := ∃ m s seen c, w.heap[r]? = some (.mapIter m s seen c)
theorem ranges_same {w w' : World} {b r n : Nat} {D : DataW Unit} {left : Lit → Bool} {cnt : Nat} (h : w.ranges Try.prog 3 ptrR b r n D left cnt) (hb : w'.heap[b]? = w.heap[b]?) (hr : w'.heap[r]? = w.heap[r]?) : w'.ranges Try.prog 3 ptrR b r n D left cnt := by
  obtain ⟨es, clock, since, seen, c0, h1, h2, h3, h4, h5, h6⟩ := h
  exact ⟨es, clock, since, seen, c0, hb.trans h1, h2, h3, h4, hr.trans h5, h6⟩
theorem ranges_itr {w : World} {b r n : Nat} {D : DataW Unit} {left : Lit → Bool} {cnt : Nat} (h : w.ranges Try.prog 3 ptrR b r n D left cnt) : r < w.heap.size ∧ ItrAt w r := by
  refine ⟨h.lt, ?_⟩
  obtain ⟨es, clock, since, seen, c0, h1, h2, h3, h4, h5, h6⟩ := h
  exact ⟨_, _, _, _, h5⟩
/-- An iterator over the timers goes on, whatever was done with the timer of this number. -/
def Itr (w : World) (bt : Nat) (ts : List Tm) (w' : World) (ts' : List Tm) (no : Nat) : Prop :=
  ∀ (r : Nat) (left : Lit → Bool) (cnt m : Nat), w.ranges Try.prog 3 ptrR bt r m (.map (ts.map ent)) (fun z => left z && !z.sameKey (.int .i64 no)) cnt → ∃ cnt', cnt' ≤ cnt ∧ w'.ranges Try.prog 3 ptrR bt r m (.map (ts'.map ent)) (fun z => left z && !z.sameKey (.int .i64 no)) cnt'
theorem Itr.drop {w w1 w2 : World} {bt no : Nat} {ts : List Tm} (hk : ∀ (r : Nat), (h : r < w.heap.size ∧ ItrAt w r) → w1.heap[r]? = w.heap[r]?) (hb : w1.heap[bt]? = w.heap[bt]?) (hno : no < 4611686018427387904) (hr : (Builtin.delete_ #[54, 3] 0 #[.map (some bt), .int .i64 no]).run Try.prog w1 = .ok (.tuple #[]) w2) : Itr w bt ts w2 (without no ts) no := by
  intro r left cnt m h
  have h1 := ranges_same h hb (hk r (ranges_itr h))
  obtain ⟨w', cnt', hrun, hrg, hle, _⟩ := h1.drop lawI und_mapt (key_int no ⟨by omega, by omega⟩) 0
  have e : w' = w2 := by
    rw [hr] at hrun
    injection hrun with _ e
    exact e.symm
  rw [e, strike_twice] at hrg
  refine ⟨cnt', hle, ?_⟩
  have e2 : (DataW.map (ts.map ent)).del (.int .i64 no) = .map ((without no ts).map ent) := by
    show DataW.map ((ts.map ent).filter _) = _
    rw [filt_ents]
    rfl
  rw [e2] at hrg
  exact hrg
section
variable {g now given n : Nat} {ts ls : List Tm} {bt S : Nat} {sm : Nat → Option Nat} {w : World}
theorem Wh.not_slot (h : Wh g now given n ts ls bt S sm w) {i r : Nat} (hi : i < n) (e : sm i = some r) : ¬ ItrAt w r := by
  rintro ⟨m, s, seen, c, hr⟩
  obtain ⟨es, clock, hb, _⟩ := (h.maps i r hi e).1
  rw [hr] at hb
  cases hb
theorem Wh.not_S (h : Wh g now given n ts ls bt S sm w) : ¬ ItrAt w S := by
  rintro ⟨m, s, seen, c, hr⟩
  obtain ⟨cs, h1, _⟩ := h.row
  rw [hr] at h1
  cases h1
theorem Wh.not_bk (h : Wh g now given n ts ls bt S sm w) {t : Tm} (ht : t ∈ ts) : ¬ ItrAt w t.bk := by
  rintro ⟨m, s, seen, c, hr⟩
  have h1 := h.rts t ht
  unfold Ru at h1
  rw [hr] at h1
  cases h1
theorem Wh.bt_S (h : Wh g now given n ts ls bt S sm w) : bt ≠ S := by
  intro e
  obtain ⟨es, clock, hb, _⟩ := h.tim
  obtain ⟨cs, h1, _⟩ := h.row
  rw [e, h1] at hb
  cases hb
theorem Wh.bt_bk (h : Wh g now given n ts ls bt S sm w) {t : Tm} (ht : t ∈ ts) : bt ≠ t.bk := by
  intro e
  obtain ⟨es, clock, hb, _⟩ := h.tim
  have h1 := h.rts t ht
  unfold Ru at h1
  rw [e, h1] at hb
  cases hb
set_option maxHeartbeats 2000000 in
theorem behind_once2 (h : Wh g now given n ts ts bt S sm w) (t : Tm) (ht : t ∈ ts) (hp : t.per = 0) (hdu : t.due < 18446744073709551616) :
    Calls Try.prog 37 #[.pointer (some ⟨g, 0, none⟩), .int .i64 t.no, ptrV t.bk] w fun e w' => e = .returned (.tuple #[]) ∧ Wh g now given n (without t.no ts) (without t.no ts) bt S sm w' ∧ Kw (OwW g bt S n sm) w w' ∧ Itr w bt ts w' (without t.no ts) t.no := by
  have hno : t.no < 4611686018427387904 := by have := h.nos t ht; have := h.g1; omega
  have hLi := lift_any h t ht hno hdu
  unfold ptrV at *
  go_enter Try.func37, Try.ntmps37
  go_wp2_with fail
  refine hLi.mono ?_
  rintro e w1 ⟨rfl, h1, k1⟩
  obtain ⟨c0, c1, c2, c3⟩ := h1.c
  obtain ⟨d0, d1, d2⟩ := (h1.rts t ht).c
  obtain ⟨w2, hr2, p2, t2⟩ := h1.tim.del t.no hno und_mapt 0
  have hr2' : ∀ ty, (Builtin.delete_ #[54, 3] ty #[.map (some bt), .int .i64 t.no]).run Try.prog w1 = .ok (.tuple #[]) w2 := fun ty => by rw [← hr2]; rfl
  have h2 : Wh g now given n (without t.no ts) (without t.no ts) bt S sm w2 := h1.timers t2 p2 (fun x hx => h1.rts x (mem_without hx).1) (rise_filter h1.up _) (fun x hx => h1.nos x (mem_without hx).1)
  have HX : Hid (Wh g now given n (without t.no ts) (without t.no ts) bt S sm w2 ∧ Kw (OwW g bt S n sm) w w2 ∧ Itr w bt ts w2 (without t.no ts) t.no) := ⟨h2, (k1.mono (fun k hk => .inr (.inr (.inr hk)))).trans (Kw.turned t2 (.inr (.inl rfl))), Itr.drop (fun r hr => k1.keep r hr.1 (fun ⟨i, hi, e⟩ => h.not_slot hi e hr.2)) (k1.keep bt h.tim.lt (fun ⟨i, hi, e⟩ => (h.maps i _ hi e).2 rfl)) hno hr2⟩
  have d1' : w1.cell? ⟨t.bk, 1, none⟩ = some (.int .u64 0) := by rw [d1, hp]; rfl
  clear d1
  clear hLi h h1 k1 h2 p2 t2 hr2
  go_wp2
  exact bodyPost_ret (v := .tuple #[]) (by simp [results, Try.results37]) rfl ⟨rfl, HX.out⟩
set_option maxHeartbeats 4000000 in
theorem behind_again2 (h : Wh g now given n ts ts bt S sm w) (t : Tm) (ht : t ∈ ts) (hb : Bkd ts) (hp0 : 0 < t.per) (hp1 : t.per ≤ 4294967296) (hdn : t.due ≤ now) (hl : ts.length ≤ 1024) :
    Calls Try.prog 37 #[.pointer (some ⟨g, 0, none⟩), .int .i64 t.no, ptrV t.bk] w fun e w' => e = .returned (.tuple #[]) ∧ ∃ sm', Wh g now given n (replT ts { t with due := nextDue t now }) (replT ts { t with due := nextDue t now }) bt S sm' w' ∧ Kw (OwB S n sm ts) w w' ∧ More n sm sm' w := by
  have hno : t.no < 4611686018427387904 := by have := h.nos t ht; have := h.g1; omega
  have hw1 := h.w1
  have hLi := lift_any h t ht hno (by omega)
  obtain ⟨N1, hN1⟩ : ∃ x, nextDue t now = x := ⟨_, rfl⟩
  have hq : (now - t.due) / t.per * t.per ≤ now - t.due := Nat.div_mul_le_self _ _
  have hN1b : N1 < 9223372036854775808 := by rw [← hN1]; unfold nextDue; omega
  obtain ⟨qo, hqo⟩ : ∃ x, (now - t.due) / t.per = x := ⟨_, rfl⟩
  obtain ⟨pr, hpr⟩ : ∃ x, qo * t.per = x := ⟨_, rfl⟩
  rw [hqo, hpr] at hq
  have hN2 : t.due + (pr + t.per) = N1 := by rw [← hN1]; unfold nextDue; rw [hqo, hpr]
  have a1 : (now : Int) - (t.due : Int) = ((now - t.due : Nat) : Int) := by omega
  have a2 : ((now - t.due : Nat) : Int).tdiv (t.per : Int) = (qo : Int) := by rw [← hqo]; rfl
  have a3 : (qo : Int) * (t.per : Int) = (pr : Int) := by rw [← hpr]; simp
  have a4 : (pr : Int) + (t.per : Int) = ((pr + t.per : Nat) : Int) := by omega
  have a5 : (t.due : Int) + ((pr + t.per : Nat) : Int) = (N1 : Int) := by omega
  rw [hN1]
  unfold ptrV at *
  go_enter Try.func37, Try.ntmps37
  go_wp2_with fail
  refine hLi.mono ?_
  rintro e w1 ⟨rfl, h1, k1⟩
  obtain ⟨c0, c1, c2, c3⟩ := h1.c
  obtain ⟨d0, d1, d2⟩ := (h1.rts t ht).c
  have hne : ((t.per : Int) == 0) = false := by rw [beq_eq_false_iff_ne]; omega
  clear hLi
  go_wp2_with fail
  refine wp_region_held (S := fun x => x.cell? ⟨g, 0, none⟩ = some (.int .u64 now) ∧ x.cell? ⟨t.bk, 1, none⟩ = some (.int .u64 t.per)) (by kernel_rfl) ?_
  obtain ⟨w2, hw2⟩ : ∃ x : World, { w1 with drawn := w1.drawn + 1 } = x := ⟨_, rfl⟩
  rw [hw2]
  have h2 : Wh g now given n ts (without t.no ts) bt S sm w2 := by rw [← hw2]; exact h1.drew _
  have k2 : Kw (OwB S n sm ts) w w2 := (k1.mono (fun k hk => .inr (.inl hk))).trans (by rw [← hw2]; exact ⟨rfl, rfl, rfl, Nat.le_refl _, fun _ _ _ => rfl⟩)
  have s1 : w2.cell? ⟨g, 0, none⟩ = some (.int .u64 now) ∧ w2.cell? ⟨t.bk, 1, none⟩ = some (.int .u64 t.per) := ⟨h2.c.1, (h2.rts t ht).c.2.1⟩
  have dd := (h2.rts t ht).c.1
  have df : w2.frozen? ⟨t.bk, 0, none⟩ = false := Lib.frozen_of_heap (h2.rts t ht) _
  obtain ⟨h3, r3, k3⟩ := h2.redue t ht hb (fun x hx => mem_without hx) N1
  have hstore : (storeVar 30 ⟨t.bk, 0, none⟩ (.int .u64 (N1 : Int))).run Try.prog w2 = .ok () (w2.setCell ⟨t.bk, 0, none⟩ (.int .u64 (N1 : Int))) := by
    simp [go_sem, run_underlying Try.underlying30, dd, df]
  have s3 : (w2.setCell ⟨t.bk, 0, none⟩ (.int .u64 (N1 : Int))).cell? ⟨g, 0, none⟩ = some (.int .u64 now) ∧ (w2.setCell ⟨t.bk, 0, none⟩ (.int .u64 (N1 : Int))).cell? ⟨t.bk, 1, none⟩ = some (.int .u64 t.per) := ⟨h3.c.1, r3.c.2.1⟩
  have hLy := lay_any h3 { t with due := N1 } r3 (fun x hx => (mem_without hx).2) hno (by show N1 < _; omega) (by have : (without t.no ts).length ≤ ts.length := List.length_filter_le _ _; omega)
  have K3 : Kw (OwB S n sm ts) w (w2.setCell ⟨t.bk, 0, none⟩ (.int .u64 (N1 : Int))) := k2.trans (k3.mono (fun k hk => .inr (.inr ⟨t, ht, hk.symm⟩)))
  rw [repl_put (t := t) (t' := { t with due := N1 }) rfl h.up ht] at hLy
  have hLy' : Calls Try.prog 35 #[.pointer (some ⟨g, 0, none⟩), .int .i64 t.no, .pointer (some ⟨t.bk, 0, none⟩)] (w2.setCell ⟨t.bk, 0, none⟩ (.int .u64 (N1 : Int))) _ := hLy
  have sz : w.heap.size ≤ (w2.setCell ⟨t.bk, 0, none⟩ (.int .u64 (N1 : Int))).heap.size := K3.size
  generalize w2.setCell ⟨t.bk, 0, none⟩ (.int .u64 (N1 : Int)) = w4 at *
  have u1 : IntKind.wrap .u64 ((now : Int) - (t.due : Int)) = ((now - t.due : Nat) : Int) := by rw [a1]; simp [IntKind.wrap, IntKind.signed, IntKind.bits]; omega
  have u2 : IntKind.wrap .u64 ((qo : Int) * (t.per : Int)) = (pr : Int) := by rw [a3]; simp [IntKind.wrap, IntKind.signed, IntKind.bits]; omega
  have u3 : IntKind.wrap .u64 ((pr : Int) + (t.per : Int)) = ((pr + t.per : Nat) : Int) := by rw [a4]; simp [IntKind.wrap, IntKind.signed, IntKind.bits]; omega
  have u4 : IntKind.wrap .u64 ((t.due : Int) + ((pr + t.per : Nat) : Int)) = (N1 : Int) := by rw [a5]; simp [IntKind.wrap, IntKind.signed, IntKind.bits]; omega
  have u5 : IntKind.wrap .u64 (qo : Int) = (qo : Int) := by
    have : qo ≤ now := by rw [← hqo]; exact Nat.le_trans (Nat.div_le_self _ _) (Nat.sub_le _ _)
    simp [IntKind.wrap, IntKind.signed, IntKind.bits]; omega
  have hpn : ¬ (t.per : Int) = 0 := by omega
  have hpn2 : ¬ t.per = 0 := by omega
  have u6 : IntKind.wrap .u64 ((t.due : Int) + ((pr : Int) + (t.per : Int))) = (N1 : Int) := by rw [a4]; exact u4
  clear h h1 h2 h3 r3 k1 k2 k3 hw2 c0 c1 c2 c3 d0 d1 d2 hLy
  refine wpAnyH_take (i := 0) (v := (.pointer (some ⟨t.bk, 0, none⟩))) rfl (by kernel_rfl) (by kernel_rfl) (by kernel_rfl) (fun _ _ _ h => h) (.inl ⟨rfl, fun _ hS => rfl⟩) s1 ?_
  simp only [List.getElem_toArray, List.getElem_cons_succ, List.getElem_cons_zero, Act.put, List.setIfInBounds_toArray, List.set_cons_succ, List.set_cons_zero]
  refine wpAnyH_take (i := 1) (v := (.pointer (some ⟨t.bk, 0, none⟩))) rfl (by kernel_rfl) (by kernel_rfl) (by kernel_rfl) (fun _ _ _ h => h) (.inl ⟨rfl, fun _ hS => by simp [execOp, go_sem, Act.eval]⟩) s1 ?_
  simp only [List.getElem_toArray, List.getElem_cons_succ, List.getElem_cons_zero, Act.put, List.setIfInBounds_toArray, List.set_cons_succ, List.set_cons_zero]
  refine wpAnyH_take (i := 2) (v := (.pointer (some ⟨t.bk, 0, none⟩))) rfl (by kernel_rfl) (by kernel_rfl) (by kernel_rfl) (fun _ _ _ h => h) (.inl ⟨rfl, fun _ hS => by simp [execOp, go_sem, Act.eval]⟩) s1 ?_
  simp only [List.getElem_toArray, List.getElem_cons_succ, List.getElem_cons_zero, Act.put, List.setIfInBounds_toArray, List.set_cons_succ, List.set_cons_zero]
  refine wpAnyH_take (i := 4) (v := (.pointer (some ⟨g, 0, none⟩))) rfl (by kernel_rfl) (by kernel_rfl) (by kernel_rfl) (fun _ _ _ h => h) (.inl ⟨rfl, fun _ hS => rfl⟩) s1 ?_
  simp only [List.getElem_toArray, List.getElem_cons_succ, List.getElem_cons_zero, Act.put, List.setIfInBounds_toArray, List.set_cons_succ, List.set_cons_zero]
  refine wpAnyH_take (i := 5) (v := (.pointer (some ⟨g, 0, none⟩))) rfl (by kernel_rfl) (by kernel_rfl) (by kernel_rfl) (fun _ _ _ h => h) (.inl ⟨rfl, fun _ hS => by simp [execOp, go_sem, Act.eval]⟩) s1 ?_
  simp only [List.getElem_toArray, List.getElem_cons_succ, List.getElem_cons_zero, Act.put, List.setIfInBounds_toArray, List.set_cons_succ, List.set_cons_zero]
  refine wpAnyH_take (i := 6) (v := (.pointer (some ⟨g, 0, none⟩))) rfl (by kernel_rfl) (by kernel_rfl) (by kernel_rfl) (fun _ _ _ h => h) (.inl ⟨rfl, fun _ hS => by simp [execOp, go_sem, Act.eval]⟩) s1 ?_
  simp only [List.getElem_toArray, List.getElem_cons_succ, List.getElem_cons_zero, Act.put, List.setIfInBounds_toArray, List.set_cons_succ, List.set_cons_zero]
  refine wpAnyH_take (i := 7) (v := (.int .u64 now)) rfl (by kernel_rfl) (by kernel_rfl) (by kernel_rfl) (fun _ _ _ h => h) (.inl ⟨rfl, fun _ hS => exec_load rfl rfl (load_u64 _ g 0 _ hS.1)⟩) s1 ?_
  simp only [List.getElem_toArray, List.getElem_cons_succ, List.getElem_cons_zero, Act.put, List.setIfInBounds_toArray, List.set_cons_succ, List.set_cons_zero]
  refine wpAnyH_take (i := 8) (v := (.pointer (some ⟨t.bk, 0, none⟩))) rfl (by kernel_rfl) (by kernel_rfl) (by kernel_rfl) (fun _ _ _ h => h) (.inl ⟨rfl, fun _ hS => rfl⟩) s1 ?_
  simp only [List.getElem_toArray, List.getElem_cons_succ, List.getElem_cons_zero, Act.put, List.setIfInBounds_toArray, List.set_cons_succ, List.set_cons_zero]
  refine wpAnyH_take (i := 9) (v := (.pointer (some ⟨t.bk, 0, none⟩))) rfl (by kernel_rfl) (by kernel_rfl) (by kernel_rfl) (fun _ _ _ h => h) (.inl ⟨rfl, fun _ hS => by simp [execOp, go_sem, Act.eval]⟩) s1 ?_
  simp only [List.getElem_toArray, List.getElem_cons_succ, List.getElem_cons_zero, Act.put, List.setIfInBounds_toArray, List.set_cons_succ, List.set_cons_zero]
  refine wpAnyH_take (i := 10) (v := (.pointer (some ⟨t.bk, 0, none⟩))) rfl (by kernel_rfl) (by kernel_rfl) (by kernel_rfl) (fun _ _ _ h => h) (.inl ⟨rfl, fun _ hS => by simp [execOp, go_sem, Act.eval]⟩) s1 ?_
  simp only [List.getElem_toArray, List.getElem_cons_succ, List.getElem_cons_zero, Act.put, List.setIfInBounds_toArray, List.set_cons_succ, List.set_cons_zero]
  refine wpAnyH_take (i := 13) (v := (.pointer (some ⟨t.bk, 0, none⟩))) rfl (by kernel_rfl) (by kernel_rfl) (by kernel_rfl) (fun _ _ _ h => h) (.inl ⟨rfl, fun _ hS => rfl⟩) s1 ?_
  simp only [List.getElem_toArray, List.getElem_cons_succ, List.getElem_cons_zero, Act.put, List.setIfInBounds_toArray, List.set_cons_succ, List.set_cons_zero]
  refine wpAnyH_take (i := 14) (v := (.pointer (some ⟨t.bk, 0, none⟩))) rfl (by kernel_rfl) (by kernel_rfl) (by kernel_rfl) (fun _ _ _ h => h) (.inl ⟨rfl, fun _ hS => by simp [execOp, go_sem, Act.eval]⟩) s1 ?_
  simp only [List.getElem_toArray, List.getElem_cons_succ, List.getElem_cons_zero, Act.put, List.setIfInBounds_toArray, List.set_cons_succ, List.set_cons_zero]
  refine wpAnyH_take (i := 15) (v := (.pointer (some ⟨t.bk, 1, none⟩))) rfl (by kernel_rfl) (by kernel_rfl) (by kernel_rfl) (fun _ _ _ h => h) (.inl ⟨rfl, fun _ hS => by simp [execOp, go_sem, Act.eval]⟩) s1 ?_
  simp only [List.getElem_toArray, List.getElem_cons_succ, List.getElem_cons_zero, Act.put, List.setIfInBounds_toArray, List.set_cons_succ, List.set_cons_zero]
  refine wpAnyH_take (i := 16) (v := (.int .u64 t.per)) rfl (by kernel_rfl) (by kernel_rfl) (by kernel_rfl) (fun _ _ _ h => h) (.inl ⟨rfl, fun _ hS => exec_load rfl rfl (load_u64 _ t.bk 1 _ hS.2)⟩) s1 ?_
  simp only [List.getElem_toArray, List.getElem_cons_succ, List.getElem_cons_zero, Act.put, List.setIfInBounds_toArray, List.set_cons_succ, List.set_cons_zero]
  refine wpAnyH_take (i := 18) (v := (.pointer (some ⟨t.bk, 0, none⟩))) rfl (by kernel_rfl) (by kernel_rfl) (by kernel_rfl) (fun _ _ _ h => h) (.inl ⟨rfl, fun _ hS => rfl⟩) s1 ?_
  simp only [List.getElem_toArray, List.getElem_cons_succ, List.getElem_cons_zero, Act.put, List.setIfInBounds_toArray, List.set_cons_succ, List.set_cons_zero]
  refine wpAnyH_take (i := 19) (v := (.pointer (some ⟨t.bk, 0, none⟩))) rfl (by kernel_rfl) (by kernel_rfl) (by kernel_rfl) (fun _ _ _ h => h) (.inl ⟨rfl, fun _ hS => by simp [execOp, go_sem, Act.eval]⟩) s1 ?_
  simp only [List.getElem_toArray, List.getElem_cons_succ, List.getElem_cons_zero, Act.put, List.setIfInBounds_toArray, List.set_cons_succ, List.set_cons_zero]
  refine wpAnyH_take (i := 20) (v := (.pointer (some ⟨t.bk, 1, none⟩))) rfl (by kernel_rfl) (by kernel_rfl) (by kernel_rfl) (fun _ _ _ h => h) (.inl ⟨rfl, fun _ hS => by simp [execOp, go_sem, Act.eval]⟩) s1 ?_
  simp only [List.getElem_toArray, List.getElem_cons_succ, List.getElem_cons_zero, Act.put, List.setIfInBounds_toArray, List.set_cons_succ, List.set_cons_zero]
  refine wpAnyH_take (i := 21) (v := (.int .u64 t.per)) rfl (by kernel_rfl) (by kernel_rfl) (by kernel_rfl) (fun _ _ _ h => h) (.inl ⟨rfl, fun _ hS => exec_load rfl rfl (load_u64 _ t.bk 1 _ hS.2)⟩) s1 ?_
  simp only [List.getElem_toArray, List.getElem_cons_succ, List.getElem_cons_zero, Act.put, List.setIfInBounds_toArray, List.set_cons_succ, List.set_cons_zero]
  refine wpAnyH_take (i := 23) (v := (.pointer (some ⟨t.bk, 0, none⟩))) rfl (by kernel_rfl) (by kernel_rfl) (by kernel_rfl) (fun _ _ _ h => h) (.inl ⟨rfl, fun _ hS => rfl⟩) s1 ?_
  simp only [List.getElem_toArray, List.getElem_cons_succ, List.getElem_cons_zero, Act.put, List.setIfInBounds_toArray, List.set_cons_succ, List.set_cons_zero]
  refine wpAnyH_take (i := 24) (v := (.pointer (some ⟨t.bk, 0, none⟩))) rfl (by kernel_rfl) (by kernel_rfl) (by kernel_rfl) (fun _ _ _ h => h) (.inl ⟨rfl, fun _ hS => by simp [execOp, go_sem, Act.eval]⟩) s1 ?_
  simp only [List.getElem_toArray, List.getElem_cons_succ, List.getElem_cons_zero, Act.put, List.setIfInBounds_toArray, List.set_cons_succ, List.set_cons_zero]
  refine wpAnyH_take (i := 25) (v := (.pointer (some ⟨t.bk, 1, none⟩))) rfl (by kernel_rfl) (by kernel_rfl) (by kernel_rfl) (fun _ _ _ h => h) (.inl ⟨rfl, fun _ hS => by simp [execOp, go_sem, Act.eval]⟩) s1 ?_
  simp only [List.getElem_toArray, List.getElem_cons_succ, List.getElem_cons_zero, Act.put, List.setIfInBounds_toArray, List.set_cons_succ, List.set_cons_zero]
  refine wpAnyH_take (i := 26) (v := (.int .u64 t.per)) rfl (by kernel_rfl) (by kernel_rfl) (by kernel_rfl) (fun _ _ _ h => h) (.inl ⟨rfl, fun _ hS => exec_load rfl rfl (load_u64 _ t.bk 1 _ hS.2)⟩) s1 ?_
  simp only [List.getElem_toArray, List.getElem_cons_succ, List.getElem_cons_zero, Act.put, List.setIfInBounds_toArray, List.set_cons_succ, List.set_cons_zero]
  refine wpAnyH_all (rs := [3, 11]) (by kernel_rfl) (by simp) ?_
  intro k hk
  simp only [List.mem_cons, List.mem_nil_iff, or_false] at hk
  rcases hk with rfl | rfl
  · refine wpOp_run rfl rfl (wp_load_cell 30 _ rfl t.bk 0 rfl (.int .u64 t.due) (load_u64 _ t.bk 0 _ dd) ?_)
    refine ⟨s1, ?_⟩
    simp only [List.getElem_toArray, List.getElem_cons_succ, List.getElem_cons_zero, Act.put, List.setIfInBounds_toArray, List.set_cons_succ, List.set_cons_zero]
    refine wpAnyH_all (rs := [11]) (by kernel_rfl) (by simp) ?_
    intro k hk
    simp only [List.mem_cons, List.mem_nil_iff, or_false] at hk
    subst hk
    refine wpOp_run rfl rfl (wp_load_cell 30 _ rfl t.bk 0 rfl (.int .u64 t.due) (load_u64 _ t.bk 0 _ dd) ?_)
    refine ⟨s1, ?_⟩
    simp only [List.getElem_toArray, List.getElem_cons_succ, List.getElem_cons_zero, Act.put, List.setIfInBounds_toArray, List.set_cons_succ, List.set_cons_zero]
    refine wpAnyH_take (i := 12) (v := (.int .u64 ((now - t.due : Nat) : Int))) rfl (by kernel_rfl) (by kernel_rfl) (by kernel_rfl) (fun _ _ _ h => h) (.inl ⟨rfl, fun _ hS => by simp [execOp, go_sem, Act.eval, u1]⟩) s1 ?_
    simp only [List.getElem_toArray, List.getElem_cons_succ, List.getElem_cons_zero, Act.put, List.setIfInBounds_toArray, List.set_cons_succ, List.set_cons_zero]
    refine wpAnyH_take (i := 17) (v := (.int .u64 qo)) rfl (by kernel_rfl) (by kernel_rfl) (by kernel_rfl) (fun _ _ _ h => h) (.inl ⟨rfl, fun _ hS => by simp [execOp, go_sem, Act.eval, a2, u5, hpn, hpn2]⟩) s1 ?_
    simp only [List.getElem_toArray, List.getElem_cons_succ, List.getElem_cons_zero, Act.put, List.setIfInBounds_toArray, List.set_cons_succ, List.set_cons_zero]
    refine wpAnyH_take (i := 22) (v := (.int .u64 pr)) rfl (by kernel_rfl) (by kernel_rfl) (by kernel_rfl) (fun _ _ _ h => h) (.inl ⟨rfl, fun _ hS => by simp [execOp, go_sem, Act.eval, u2]⟩) s1 ?_
    simp only [List.getElem_toArray, List.getElem_cons_succ, List.getElem_cons_zero, Act.put, List.setIfInBounds_toArray, List.set_cons_succ, List.set_cons_zero]
    refine wpAnyH_take (i := 27) (v := (.int .u64 ((pr + t.per : Nat) : Int))) rfl (by kernel_rfl) (by kernel_rfl) (by kernel_rfl) (fun _ _ _ h => h) (.inl ⟨rfl, fun _ hS => by simp [execOp, go_sem, Act.eval, u3]⟩) s1 ?_
    simp only [List.getElem_toArray, List.getElem_cons_succ, List.getElem_cons_zero, Act.put, List.setIfInBounds_toArray, List.set_cons_succ, List.set_cons_zero]
    refine wpAnyH_take (i := 28) (v := (.int .u64 N1)) rfl (by kernel_rfl) (by kernel_rfl) (by kernel_rfl) (fun _ _ _ h => h) (.inl ⟨rfl, fun _ hS => by simp [execOp, go_sem, Act.eval, u4, u6]⟩) s1 ?_
    simp only [List.getElem_toArray, List.getElem_cons_succ, List.getElem_cons_zero, Act.put, List.setIfInBounds_toArray, List.set_cons_succ, List.set_cons_zero]
    refine wpAnyH_take (i := 29) (v := (.pointer (some ⟨t.bk, 0, none⟩))) rfl (by kernel_rfl) (by kernel_rfl) (by kernel_rfl) (fun _ _ _ h => h) (.inl ⟨rfl, fun _ hS => by simp [execOp, go_sem, Act.eval]⟩) s1 ?_
    simp only [List.getElem_toArray, List.getElem_cons_succ, List.getElem_cons_zero, Act.put, List.setIfInBounds_toArray, List.set_cons_succ, List.set_cons_zero]
    refine wpAnyH_take (i := 30) (v := (.pointer (some ⟨t.bk, 0, none⟩))) rfl (by kernel_rfl) (by kernel_rfl) (by kernel_rfl) (fun _ _ _ h => h) (.inl ⟨rfl, fun _ hS => by simp [execOp, go_sem, Act.eval]⟩) s1 ?_
    simp only [List.getElem_toArray, List.getElem_cons_succ, List.getElem_cons_zero, Act.put, List.setIfInBounds_toArray, List.set_cons_succ, List.set_cons_zero]
    refine wpAnyH_all (rs := [31]) (by kernel_rfl) (by simp) ?_
    intro k hk
    simp only [List.mem_cons, List.mem_nil_iff, or_false] at hk
    subst hk
    refine wpOp_run rfl rfl (wp_store_cell 30 _ _ rfl t.bk 0 rfl _ rfl hstore ?_)
    refine ⟨s3, ?_⟩
    simp only [List.getElem_toArray, List.getElem_cons_succ, List.getElem_cons_zero, Act.put, List.setIfInBounds_toArray, List.set_cons_succ, List.set_cons_zero]
    refine wpAnyH_done (by kernel_rfl) ?_ _
    clear s1 dd df hstore
    go_wp2_with fail
    refine hLy'.mono ?_
    rintro e w5 ⟨rfl, sm', h5, k5, m5⟩
    have HX : Hid (∃ sm', Wh g now given n (replT ts { t with due := N1 }) (replT ts { t with due := N1 }) bt S sm' w5 ∧ Kw (OwB S n sm ts) w w5 ∧ More n sm sm' w) := ⟨sm', h5, K3.trans (k5.mono (fun k hk => by rcases hk with hk | hk; exact .inl hk; exact .inr (.inl hk))), fun i b hi hb' => by rcases m5 i b hi hb' with h | h; exact .inl h; exact .inr (by omega)⟩
    clear hLy' h5 k5 m5 s3 K3
    go_wp2
    go_end0
    exact ⟨rfl, HX.out⟩
  · refine wpOp_run rfl rfl (wp_load_cell 30 _ rfl t.bk 0 rfl (.int .u64 t.due) (load_u64 _ t.bk 0 _ dd) ?_)
    refine ⟨s1, ?_⟩
    simp only [List.getElem_toArray, List.getElem_cons_succ, List.getElem_cons_zero, Act.put, List.setIfInBounds_toArray, List.set_cons_succ, List.set_cons_zero]
    refine wpAnyH_take (i := 12) (v := (.int .u64 ((now - t.due : Nat) : Int))) rfl (by kernel_rfl) (by kernel_rfl) (by kernel_rfl) (fun _ _ _ h => h) (.inl ⟨rfl, fun _ hS => by simp [execOp, go_sem, Act.eval, u1]⟩) s1 ?_
    simp only [List.getElem_toArray, List.getElem_cons_succ, List.getElem_cons_zero, Act.put, List.setIfInBounds_toArray, List.set_cons_succ, List.set_cons_zero]
    refine wpAnyH_take (i := 17) (v := (.int .u64 qo)) rfl (by kernel_rfl) (by kernel_rfl) (by kernel_rfl) (fun _ _ _ h => h) (.inl ⟨rfl, fun _ hS => by simp [execOp, go_sem, Act.eval, a2, u5, hpn, hpn2]⟩) s1 ?_
    simp only [List.getElem_toArray, List.getElem_cons_succ, List.getElem_cons_zero, Act.put, List.setIfInBounds_toArray, List.set_cons_succ, List.set_cons_zero]
    refine wpAnyH_take (i := 22) (v := (.int .u64 pr)) rfl (by kernel_rfl) (by kernel_rfl) (by kernel_rfl) (fun _ _ _ h => h) (.inl ⟨rfl, fun _ hS => by simp [execOp, go_sem, Act.eval, u2]⟩) s1 ?_
    simp only [List.getElem_toArray, List.getElem_cons_succ, List.getElem_cons_zero, Act.put, List.setIfInBounds_toArray, List.set_cons_succ, List.set_cons_zero]
    refine wpAnyH_take (i := 27) (v := (.int .u64 ((pr + t.per : Nat) : Int))) rfl (by kernel_rfl) (by kernel_rfl) (by kernel_rfl) (fun _ _ _ h => h) (.inl ⟨rfl, fun _ hS => by simp [execOp, go_sem, Act.eval, u3]⟩) s1 ?_
    simp only [List.getElem_toArray, List.getElem_cons_succ, List.getElem_cons_zero, Act.put, List.setIfInBounds_toArray, List.set_cons_succ, List.set_cons_zero]
    refine wpAnyH_all (rs := [3]) (by kernel_rfl) (by simp) ?_
    intro k hk
    simp only [List.mem_cons, List.mem_nil_iff, or_false] at hk
    subst hk
    refine wpOp_run rfl rfl (wp_load_cell 30 _ rfl t.bk 0 rfl (.int .u64 t.due) (load_u64 _ t.bk 0 _ dd) ?_)
    refine ⟨s1, ?_⟩
    simp only [List.getElem_toArray, List.getElem_cons_succ, List.getElem_cons_zero, Act.put, List.setIfInBounds_toArray, List.set_cons_succ, List.set_cons_zero]
    refine wpAnyH_take (i := 28) (v := (.int .u64 N1)) rfl (by kernel_rfl) (by kernel_rfl) (by kernel_rfl) (fun _ _ _ h => h) (.inl ⟨rfl, fun _ hS => by simp [execOp, go_sem, Act.eval, u4, u6]⟩) s1 ?_
    simp only [List.getElem_toArray, List.getElem_cons_succ, List.getElem_cons_zero, Act.put, List.setIfInBounds_toArray, List.set_cons_succ, List.set_cons_zero]
    refine wpAnyH_take (i := 29) (v := (.pointer (some ⟨t.bk, 0, none⟩))) rfl (by kernel_rfl) (by kernel_rfl) (by kernel_rfl) (fun _ _ _ h => h) (.inl ⟨rfl, fun _ hS => by simp [execOp, go_sem, Act.eval]⟩) s1 ?_
    simp only [List.getElem_toArray, List.getElem_cons_succ, List.getElem_cons_zero, Act.put, List.setIfInBounds_toArray, List.set_cons_succ, List.set_cons_zero]
    refine wpAnyH_take (i := 30) (v := (.pointer (some ⟨t.bk, 0, none⟩))) rfl (by kernel_rfl) (by kernel_rfl) (by kernel_rfl) (fun _ _ _ h => h) (.inl ⟨rfl, fun _ hS => by simp [execOp, go_sem, Act.eval]⟩) s1 ?_
    simp only [List.getElem_toArray, List.getElem_cons_succ, List.getElem_cons_zero, Act.put, List.setIfInBounds_toArray, List.set_cons_succ, List.set_cons_zero]
    refine wpAnyH_all (rs := [31]) (by kernel_rfl) (by simp) ?_
    intro k hk
    simp only [List.mem_cons, List.mem_nil_iff, or_false] at hk
    subst hk
    refine wpOp_run rfl rfl (wp_store_cell 30 _ _ rfl t.bk 0 rfl _ rfl hstore ?_)
    refine ⟨s3, ?_⟩
    simp only [List.getElem_toArray, List.getElem_cons_succ, List.getElem_cons_zero, Act.put, List.setIfInBounds_toArray, List.set_cons_succ, List.set_cons_zero]
    refine wpAnyH_done (by kernel_rfl) ?_ _
    clear s1 dd df hstore
    go_wp2_with fail
    refine hLy'.mono ?_
    rintro e w5 ⟨rfl, sm', h5, k5, m5⟩
    have HX : Hid (∃ sm', Wh g now given n (replT ts { t with due := N1 }) (replT ts { t with due := N1 }) bt S sm' w5 ∧ Kw (OwB S n sm ts) w w5 ∧ More n sm sm' w) := ⟨sm', h5, K3.trans (k5.mono (fun k hk => by rcases hk with hk | hk; exact .inl hk; exact .inr (.inl hk))), fun i b hi hb' => by rcases m5 i b hi hb' with h | h; exact .inl h; exact .inr (by omega)⟩
    clear hLy' h5 k5 m5 s3 K3
    go_wp2
    go_end0
    exact ⟨rfl, HX.out⟩
theorem behind_any2 (h : Wh g now given n ts ts bt S sm w) (t : Tm) (ht : t ∈ ts) (hb : Bkd ts) (hp1 : t.per ≤ 4294967296) (hdn : t.due ≤ now) (hl : ts.length ≤ 1024) :
    Calls Try.prog 37 #[.pointer (some ⟨g, 0, none⟩), .int .i64 t.no, ptrV t.bk] w fun e w' => e = .returned (.tuple #[]) ∧ ∃ sm', Wh g now given n (run1 now ts t) (run1 now ts t) bt S sm' w' ∧ Kw (OwT g bt S n sm ts) w w' ∧ More n sm sm' w ∧ Itr w bt ts w' (run1 now ts t) t.no := by
  have hw1 := h.w1
  unfold run1
  by_cases hp : t.per = 0
  · rw [if_pos hp]
    refine (behind_once2 h t ht hp (by omega)).mono ?_
    rintro e w' ⟨rfl, h1, k1, i1⟩
    exact ⟨rfl, sm, h1, k1.mono (fun k hk => .inl hk), fun i b hi hb => .inl hb, i1⟩
  · rw [if_neg hp]
    refine (behind_again2 h t ht hb (by omega) hp1 hdn hl).mono ?_
    rintro e w' ⟨rfl, sm', h1, k1, m1⟩
    refine ⟨rfl, sm', h1, k1.mono (fun k hk => ?_), m1, ?_⟩
    · rcases hk with hk | hk | hk
      · exact .inl (.inr (.inr (.inl hk)))
      · exact .inl (.inr (.inr (.inr hk)))
      · exact .inr hk
    · intro r left cnt m hr
      obtain ⟨hlt, hit⟩ := ranges_itr hr
      refine ⟨cnt, Nat.le_refl _, ?_⟩
      rw [repl_ent (t := t) (t' := { t with due := nextDue t now }) rfl rfl h.up ht]
      refine ranges_same hr (k1.keep bt h.tim.lt ?_) (k1.keep r hlt ?_)
      · rintro (e | ⟨i, hi, e⟩ | ⟨x, hx, e⟩)
        · exact h.bt_S e
        · exact (h.maps i _ hi e).2 rfl
        · exact h.bt_bk hx e.symm
      · rintro (e | ⟨i, hi, e⟩ | ⟨x, hx, e⟩)
        · exact h.not_S (e ▸ hit)
        · exact h.not_slot hi e hit
        · exact h.not_bk hx (e ▸ hit)
end
end Go.Proofs.Ytjkkclojidhgdaa
