/- runOut of a wheel. -/
import Derived.Test.YtjkkclojidhgdaaWApp
namespace Go.Proofs.Ytjkkclojidhgdaa
open Go.RowKit Go.Maps Go.WideMaps
set_option linter.unusedVariables false
set_option maxRecDepth 1000000
set_option linter.unusedSimpArgs false
theorem wp_range_run {o : Oper} {a : Act} {w w' : World} {K : Act → World → Prop} {Q : Exit → Act → World → Prop} (m : Operand) (t : TypeId) (ho : o.op = .range t m) (v u : Value) (hm : a.eval m = v)
    (hr : (Instr.range t v).run Try.prog w = .ok u w') (h : K (a.put o.dst u) w') : o.wp Try.prog a w K Q := by
  unfold Oper.wp execOp
  simp only [ho, hm, Sem.run_bind, Sem.run_pure, Result.andThen_ok, hr]
  exact h
section
variable {g now given n : Nat} {ts ls : List Tm} {bt S : Nat} {sm : Nat → Option Nat} {w : World}
set_option maxHeartbeats 2000000 in
theorem runOut_nil (h : Wh g now given n ts ts bt S sm w) (tv : Value) (hs : sm (now % n) = none) :
    Calls Try.prog 36 #[.pointer (some ⟨g, 0, none⟩), tv] w fun e w' => e = .returned tv ∧ Below w.heap.size w w' := by
  obtain ⟨i, hi⟩ : ∃ i, now % n = i := ⟨_, rfl⟩
  rw [hi] at hs
  have hin : i < n := by rw [← hi]; exact Nat.mod_lt _ h.n0
  go_enter Try.func36, Try.ntmps36
  go_wp2_with fail
  refine wp_region_held (S := fun x => x.cell? ⟨g, 3, none⟩ = some (.slice (some ⟨S, 0, none⟩) n n) ∧ x.cell? ⟨g, 0, none⟩ = some (.int .u64 now) ∧ x.cell? ⟨S, i, none⟩ = some (.map none)) (by kernel_rfl) ?_
  obtain ⟨w1, hw1⟩ : ∃ x : World, { w with drawn := w.drawn + 1 } = x := ⟨_, rfl⟩
  rw [hw1]
  have h1 : Wh g now given n ts ts bt S sm w1 := by rw [← hw1]; exact h.drew _
  have hB : Below w.heap.size w w1 := by rw [← hw1]; exact ⟨rfl, rfl, rfl, Nat.le_refl _, fun _ _ => rfl⟩
  have s1 : w1.cell? ⟨g, 3, none⟩ = some (.slice (some ⟨S, 0, none⟩) n n) ∧ w1.cell? ⟨g, 0, none⟩ = some (.int .u64 now) ∧ w1.cell? ⟨S, i, none⟩ = some (.map none) := by
    obtain ⟨cs, r1, r2, r3⟩ := h1.row
    exact ⟨h1.c.2.2.2, h1.c.1, by rw [Lib.cell_of_heap r1, r3 i hin, hs]⟩
  have hPl := place_any h1 now (by have := h1.w1; omega)
  rw [hi] at hPl
  have hnx : ∀ ty, (Instr.next (.pointer (some ⟨w1.heap.size, 0, none⟩)) false ty).run Try.prog (w1.alloc (.mapIter none 0 #[] 0)) = _ := fun ty => run_next_nilMap _ ty 0 0 #[]
  have hso := Try.slices_Sort_int_none none 0 (w1.alloc (.mapIter none 0 #[] 0))
  have hrg := run_range_nilMap (P := Try.prog) w1 73 3 66 und_slot
  have s2 : (w1.alloc (.mapIter none 0 #[] 0)).cell? ⟨g, 3, none⟩ = some (.slice (some ⟨S, 0, none⟩) n n) ∧ (w1.alloc (.mapIter none 0 #[] 0)).cell? ⟨g, 0, none⟩ = some (.int .u64 now) ∧ (w1.alloc (.mapIter none 0 #[] 0)).cell? ⟨S, i, none⟩ = some (.map none) := by
    have h2 := h1.below ((Below.refl w1.heap.size w1).alloc (Nat.le_refl _) (.mapIter none 0 #[] 0))
    obtain ⟨cs, r1, r2, r3⟩ := h2.row
    exact ⟨h2.c.2.2.2, h2.c.1, by rw [Lib.cell_of_heap r1, r3 i hin, hs]⟩
  have HX : Hid (Below w.heap.size w (w1.alloc (.mapIter none 0 #[] 0))) := by
    have e1 : w1.heap.size = w.heap.size := by rw [← hw1]
    exact hB.trans ((Below.refl w.heap.size w1).alloc (by omega) _)
  have hin2 : (i : Int) < (n : Int) := by omega
  clear h h1 hw1 hB
  refine wpAnyH_take (i := 0) (v := (.pointer (some ⟨g, 0, none⟩))) rfl (by kernel_rfl) (by kernel_rfl) (by kernel_rfl) (fun _ _ _ h => h) (.inl ⟨rfl, fun _ hS => rfl⟩) s1 ?_
  simp only [List.getElem_toArray, List.getElem_cons_succ, List.getElem_cons_zero, Act.put, List.setIfInBounds_toArray, List.set_cons_succ, List.set_cons_zero]
  refine wpAnyH_take (i := 1) (v := (.pointer (some ⟨g, 0, none⟩))) rfl (by kernel_rfl) (by kernel_rfl) (by kernel_rfl) (fun _ _ _ h => h) (.inl ⟨rfl, fun _ hS => by simp [execOp, go_sem, Act.eval]⟩) s1 ?_
  simp only [List.getElem_toArray, List.getElem_cons_succ, List.getElem_cons_zero, Act.put, List.setIfInBounds_toArray, List.set_cons_succ, List.set_cons_zero]
  refine wpAnyH_take (i := 2) (v := (.pointer (some ⟨g, 3, none⟩))) rfl (by kernel_rfl) (by kernel_rfl) (by kernel_rfl) (fun _ _ _ h => h) (.inl ⟨rfl, fun _ hS => by simp [execOp, go_sem, Act.eval]⟩) s1 ?_
  simp only [List.getElem_toArray, List.getElem_cons_succ, List.getElem_cons_zero, Act.put, List.setIfInBounds_toArray, List.set_cons_succ, List.set_cons_zero]
  refine wpAnyH_take (i := 3) (v := (.slice (some ⟨S, 0, none⟩) n n)) rfl (by kernel_rfl) (by kernel_rfl) (by kernel_rfl) (fun _ _ _ h => h) (.inl ⟨rfl, fun _ hS => exec_load rfl rfl (load_slots _ g 3 _ _ _ hS.1)⟩) s1 ?_
  simp only [List.getElem_toArray, List.getElem_cons_succ, List.getElem_cons_zero, Act.put, List.setIfInBounds_toArray, List.set_cons_succ, List.set_cons_zero]
  refine wpAnyH_take (i := 4) (v := (.pointer (some ⟨g, 0, none⟩))) rfl (by kernel_rfl) (by kernel_rfl) (by kernel_rfl) (fun _ _ _ h => h) (.inl ⟨rfl, fun _ hS => rfl⟩) s1 ?_
  simp only [List.getElem_toArray, List.getElem_cons_succ, List.getElem_cons_zero, Act.put, List.setIfInBounds_toArray, List.set_cons_succ, List.set_cons_zero]
  refine wpAnyH_take (i := 5) (v := (.pointer (some ⟨g, 0, none⟩))) rfl (by kernel_rfl) (by kernel_rfl) (by kernel_rfl) (fun _ _ _ h => h) (.inl ⟨rfl, fun _ hS => rfl⟩) s1 ?_
  simp only [List.getElem_toArray, List.getElem_cons_succ, List.getElem_cons_zero, Act.put, List.setIfInBounds_toArray, List.set_cons_succ, List.set_cons_zero]
  refine wpAnyH_take (i := 6) (v := (.pointer (some ⟨g, 0, none⟩))) rfl (by kernel_rfl) (by kernel_rfl) (by kernel_rfl) (fun _ _ _ h => h) (.inl ⟨rfl, fun _ hS => by simp [execOp, go_sem, Act.eval]⟩) s1 ?_
  simp only [List.getElem_toArray, List.getElem_cons_succ, List.getElem_cons_zero, Act.put, List.setIfInBounds_toArray, List.set_cons_succ, List.set_cons_zero]
  refine wpAnyH_take (i := 7) (v := (.pointer (some ⟨g, 0, none⟩))) rfl (by kernel_rfl) (by kernel_rfl) (by kernel_rfl) (fun _ _ _ h => h) (.inl ⟨rfl, fun _ hS => by simp [execOp, go_sem, Act.eval]⟩) s1 ?_
  simp only [List.getElem_toArray, List.getElem_cons_succ, List.getElem_cons_zero, Act.put, List.setIfInBounds_toArray, List.set_cons_succ, List.set_cons_zero]
  refine wpAnyH_take (i := 8) (v := (.int .u64 now)) rfl (by kernel_rfl) (by kernel_rfl) (by kernel_rfl) (fun _ _ _ h => h) (.inl ⟨rfl, fun _ hS => exec_load rfl rfl (load_u64 _ g 0 _ hS.2.1)⟩) s1 ?_
  simp only [List.getElem_toArray, List.getElem_cons_succ, List.getElem_cons_zero, Act.put, List.setIfInBounds_toArray, List.set_cons_succ, List.set_cons_zero]
  refine wpAnyH_all (rs := [9]) (by kernel_rfl) (by simp) ?_
  intro k hk
  simp only [List.mem_cons, List.mem_nil_iff, or_false] at hk
  subst hk
  refine wpOp_run rfl rfl (wp_call_fn 38 #[.pointer (some ⟨g, 0, none⟩), .int .u64 now] (by simp [execOp, go_sem, Act.eval, resolve, invoke, enterPlace]) (hPl.mono ?_))
  rintro e w9 ⟨rfl, rfl⟩
  refine ⟨s1, ?_⟩
  simp only [List.getElem_toArray, List.getElem_cons_succ, List.getElem_cons_zero, Act.put, List.setIfInBounds_toArray, List.set_cons_succ, List.set_cons_zero]
  refine wpAnyH_take (i := 10) (v := (.pointer (some ⟨S, i, none⟩))) rfl (by kernel_rfl) (by kernel_rfl) (by kernel_rfl) (fun _ _ _ h => h) (.inl ⟨rfl, fun _ hS => by simp [execOp, go_sem, Act.eval, hin]⟩) s1 ?_
  simp only [List.getElem_toArray, List.getElem_cons_succ, List.getElem_cons_zero, Act.put, List.setIfInBounds_toArray, List.set_cons_succ, List.set_cons_zero]
  refine wpAnyH_take (i := 11) (v := (.map none)) rfl (by kernel_rfl) (by kernel_rfl) (by kernel_rfl) (fun _ _ _ h => h) (.inl ⟨rfl, fun _ hS => exec_load rfl rfl (load_slot _ S i _ hS.2.2)⟩) s1 ?_
  simp only [List.getElem_toArray, List.getElem_cons_succ, List.getElem_cons_zero, Act.put, List.setIfInBounds_toArray, List.set_cons_succ, List.set_cons_zero]
  refine wpAnyH_all (rs := [12]) (by kernel_rfl) (by simp) ?_
  intro k hk
  simp only [List.mem_cons, List.mem_nil_iff, or_false] at hk
  subst hk
  refine wpOp_run rfl rfl (wp_range_run _ 73 rfl (.map none) _ rfl hrg ?_)
  refine ⟨s2, ?_⟩
  simp only [List.getElem_toArray, List.getElem_cons_succ, List.getElem_cons_zero, Act.put, List.setIfInBounds_toArray, List.set_cons_succ, List.set_cons_zero]
  refine wpAnyH_done (by kernel_rfl) ?_ _
  clear s1 s2 hPl hrg
  go_wp2_with fail
  refine wp_loop_rounds 1 ?_
  rw [rounds_succ]
  go_wp2_with fail
  refine hso.mono ?_
  rintro e w8 ⟨rfl, rfl⟩
  clear hso hnx
  go_wp2_with fail
  refine wp_loop_rounds 1 ?_
  rw [rounds_succ]
  go_wp2
  go_ret
  exact ⟨rfl, HX.out⟩
end
end Go.Proofs.Ytjkkclojidhgdaa
