/- lift and lay of a wheel. -/
import Derived.Test.YtjkkclojidhgdaaW3
import Derived.OrdersHeld
import Derived.Deep.Upon
namespace Go.Proofs.Ytjkkclojidhgdaa
open Go.RowKit Go.Maps Go.WideMaps
set_option linter.unusedVariables false
set_option maxRecDepth 1000000
set_option linter.unusedSimpArgs false

/-- Nothing changes but what O names, and what is new. -/
structure Kw (O : Nat → Prop) (w w' : World) : Prop where
  os : w'.os = w.os
  tape : w'.tape = w.tape
  output : w'.output = w.output
  size : w.heap.size ≤ w'.heap.size
  keep : ∀ k, k < w.heap.size → ¬ O k → w'.heap[k]? = w.heap[k]?
theorem Kw.below {O : Nat → Prop} {w w' : World} (hb : Below w.heap.size w w') : Kw O w w' := ⟨hb.os, hb.tape, hb.output, hb.size, fun k hk _ => hb.block k hk⟩
theorem Kw.trans {O : Nat → Prop} {w x y : World} (h1 : Kw O w x) (h2 : Kw O x y) : Kw O w y :=
  ⟨h2.os.trans h1.os, h2.tape.trans h1.tape, h2.output.trans h1.output, Nat.le_trans h1.size h2.size, fun k hk ho => (h2.keep k (Nat.lt_of_lt_of_le hk h1.size) ho).trans (h1.keep k hk ho)⟩
theorem Kw.mono {O O' : Nat → Prop} {w w' : World} (h : Kw O w w') (hO : ∀ k, O k → O' k) : Kw O' w w' := ⟨h.os, h.tape, h.output, h.size, fun k hk ho => h.keep k hk (fun x => ho (hO k x))⟩
theorem Kw.turned {O : Nat → Prop} {w w' : World} {b : Nat} (h : w.mapTurned w' b) (hO : O b) : Kw O w w' := by
  obtain ⟨h1, h2, h3, h4, h5⟩ := turned_block h
  exact ⟨h1, h2, h3, by omega, fun k _ ho => h5 k (fun e => ho (by rw [e]; exact hO))⟩
theorem wpOp_run {ops : Array Oper} {Q : Exit → Act → World → Prop} {K : Act → World → Prop} {a : Act} {w : World} {i : Nat} {o : Oper} (hi : ops[i]? = some o) (hg : o.guard = none) (h : o.wp Try.prog a w K Q) : wpOp Try.prog ops Q i K a w := by
  unfold Go.wpOp
  simp only [hi]
  rw [if_pos (by simp [Region.wanted, hg])]
  exact .inl h
theorem wp_call_fn {o : Oper} {a : Act} {w : World} {K : Act → World → Prop} {Q : Exit → Act → World → Prop} (g : Nat) (args : Array Value) (hr : (execOp a.eval o).run Try.prog w = .ok (.enter g args) w)
    (h : Calls Try.prog g args w fun
      | .returned v, w'' => K (a.put o.dst v) w''
      | .panicked chain, w'' => Q (.panic chain) a w''
      | .outgrown, _ => LetsOut Q) : o.wp Try.prog a w K Q := by
  unfold Oper.wp
  rw [hr]
  exact h
theorem exec_load {a : Act} {o : Oper} {x : Operand} {ty : TypeId} {ad : Addr} {v : Value} {w : World} (ho : o.op = .load ty x) (hx : a.eval x = .pointer (some ad)) (hr : (loadVar ty ad).run Try.prog w = .ok v w) :
    (execOp a.eval o).run Try.prog w = .ok (.value v) w := by
  unfold execOp
  simp only [ho, hx, Instr.loadAt, Instr.sureAddr, Sem.run_bind, Sem.run_pure, Result.andThen_ok, hr]
theorem load_slots (x : World) (D k : Nat) (ao : Option Addr) (l c : Nat) (hc : x.cell? ⟨D, k, none⟩ = some (.slice ao l c)) : (loadVar 55 ⟨D, k, none⟩).run Try.prog x = .ok (.slice ao l c) x := by
  simp [go_sem, run_underlying Try.underlying55, hc]
theorem load_u64 (x : World) (D k : Nat) (z : Int) (hc : x.cell? ⟨D, k, none⟩ = some (.int .u64 z)) : (loadVar 30 ⟨D, k, none⟩).run Try.prog x = .ok (.int .u64 z) x := by
  simp [go_sem, run_underlying Try.underlying30, hc]
theorem load_slot (x : World) (D k : Nat) (m : Option Nat) (hc : x.cell? ⟨D, k, none⟩ = some (.map m)) : (loadVar 73 ⟨D, k, none⟩).run Try.prog x = .ok (.map m) x := by
  simp [go_sem, run_underlying Try.underlying73, hc]
theorem wp_del_run {o : Oper} {a : Act} {w w' : World} {K : Act → World → Prop} {Q : Exit → Act → World → Prop} (m x : Operand) (t k : TypeId) (ho : o.op = .call { callee := .builtin .delete, args := #[m, x], argTypes := #[t, k] }) (v u : Value) (hm : a.eval m = v) (hx : a.eval x = u)
    (hr : ∀ ty, (Builtin.delete_ #[t, k] ty #[v, u]).run Try.prog w = .ok (.tuple #[]) w') (h : K (a.put o.dst (.tuple #[])) w') : o.wp Try.prog a w K Q := by
  unfold Oper.wp execOp
  simp only [ho, resolve, invoke, builtin, Sem.run_bind, Sem.run_pure, Result.andThen_ok, List.map_toArray, List.map_cons, List.map_nil, hm, hx, hr]
  exact h
theorem enterPlace : ∀ args x, (callFunc 38 args).run Try.prog x = .ok (.enter 38 args) x := fun _ _ => by rfl
section
variable {g now given n : Nat} {ts ls : List Tm} {bt S : Nat} {sm : Nat → Option Nat} {w : World}
theorem Wh.drew (h : Wh g now given n ts ls bt S sm w) (k : Nat) : Wh g now given n ts ls bt S sm { w with drawn := k } := h.below ⟨rfl, rfl, rfl, Nat.le_refl _, fun _ _ => rfl⟩
set_option maxHeartbeats 2000000 in
theorem lift_any (h : Wh g now given n ts ls bt S sm w) (t : Tm) (ht : t ∈ ls) (hno : t.no < 4611686018427387904) (hdu : t.due < 18446744073709551616) :
    Calls Try.prog 31 #[.pointer (some ⟨g, 0, none⟩), .int .i64 t.no, ptrV t.bk] w fun e w' => e = .returned (.tuple #[]) ∧ Wh g now given n ts (without t.no ls) bt S sm w' ∧ Kw (fun k => ∃ i, i < n ∧ sm i = some k) w w' := by
  obtain ⟨i, hi⟩ : ∃ i, t.due % n = i := ⟨_, rfl⟩
  have hin : i < n := by rw [← hi]; exact Nat.mod_lt _ h.n0
  have hmem : t ∈ inSlot n i ls := List.mem_filter.2 ⟨ht, by simp [hi]⟩
  obtain ⟨b, hb⟩ : ∃ b, sm i = some b := by
    cases hs : sm i with
    | none => rw [h.none' i hin hs] at hmem; simp at hmem
    | some b => exact ⟨b, rfl⟩
  unfold ptrV
  go_enter Try.func31, Try.ntmps31
  go_wp2_with fail
  refine wp_region_held (S := fun x => x.cell? ⟨g, 3, none⟩ = some (.slice (some ⟨S, 0, none⟩) n n) ∧ x.cell? ⟨t.bk, 0, none⟩ = some (.int .u64 t.due) ∧ x.cell? ⟨S, i, none⟩ = some (.map (some b))) (by kernel_rfl) ?_
  obtain ⟨w1, hw1⟩ : ∃ x : World, { w with drawn := w.drawn + 1 } = x := ⟨_, rfl⟩
  rw [hw1]
  have h1 : Wh g now given n ts ls bt S sm w1 := by rw [← hw1]; exact h.drew _
  have hK : Kw (fun k => ∃ i, i < n ∧ sm i = some k) w w1 := by rw [← hw1]; exact ⟨rfl, rfl, rfl, Nat.le_refl _, fun _ _ _ => rfl⟩
  have s1 : w1.cell? ⟨g, 3, none⟩ = some (.slice (some ⟨S, 0, none⟩) n n) ∧ w1.cell? ⟨t.bk, 0, none⟩ = some (.int .u64 t.due) ∧ w1.cell? ⟨S, i, none⟩ = some (.map (some b)) := by
    obtain ⟨cs, r1, r2, r3⟩ := h1.row
    exact ⟨h1.c.2.2.2, (h1.rls t ht).c.1, by rw [Lib.cell_of_heap r1, r3 i hin, hb]⟩
  have hPl := place_any h1 t.due hdu
  rw [hi] at hPl
  obtain ⟨w2, hr2, p2, t2⟩ := (h1.maps i b hin hb).1.del t.no hno und_slot 0
  have hr2' : ∀ ty, (Builtin.delete_ #[73, 3] ty #[.map (some b), .int .i64 t.no]).run Try.prog w1 = .ok (.tuple #[]) w2 := fun ty => by
    obtain ⟨w2', hr2', _⟩ := (h1.maps i b hin hb).1.del t.no hno und_slot ty
    rw [← hr2]; rfl
  have h2 : Wh g now given n ts (without t.no ls) bt S sm w2 := h1.slot hin hb t2 (ls' := without t.no ls) (by rw [slot_without]; exact p2) (fun j hj => slot_other h1.upl ht (by rw [hi]; exact hj)) (fun x hx => h1.rls x (List.mem_filter.1 hx).1) (rise_filter h1.upl _)
  have s2 : w2.cell? ⟨g, 3, none⟩ = some (.slice (some ⟨S, 0, none⟩) n n) ∧ w2.cell? ⟨t.bk, 0, none⟩ = some (.int .u64 t.due) ∧ w2.cell? ⟨S, i, none⟩ = some (.map (some b)) := by
    obtain ⟨_, _, _, _, hk⟩ := turned_block t2
    have hP := (h1.maps i b hin hb).1
    obtain ⟨cs, r1, r2, r3⟩ := h1.row
    exact ⟨(World.cell?_of_block (a := ⟨g, 3, none⟩) (hk g (hP.ne h1.head))).trans s1.1, (World.cell?_of_block (a := ⟨t.bk, 0, none⟩) (hk t.bk (hP.ne (h1.rls t ht)))).trans s1.2.1, (World.cell?_of_block (a := ⟨S, i, none⟩) (hk S (hP.ne r1))).trans s1.2.2⟩
  have HX : Hid (Wh g now given n ts (without t.no ls) bt S sm w2 ∧ Kw (fun k => ∃ i, i < n ∧ sm i = some k) w w2) := ⟨h2, hK.trans (Kw.turned t2 ⟨i, hin, hb⟩)⟩
  have hin2 : (i : Int) < (n : Int) := by omega
  clear h h1 h2 hw1 p2 t2 hK hr2
  refine wpAnyH_take (i := 0) (v := (.pointer (some ⟨g, 0, none⟩))) rfl (by kernel_rfl) (by kernel_rfl) (by kernel_rfl) (fun _ _ _ h => h) (.inl ⟨rfl, fun _ hS => rfl⟩) s1 ?_
  simp only [List.getElem_toArray, List.getElem_cons_succ, List.getElem_cons_zero, Act.put, List.setIfInBounds_toArray, List.set_cons_succ, List.set_cons_zero]
  refine wpAnyH_take (i := 1) (v := (.pointer (some ⟨g, 0, none⟩))) rfl (by kernel_rfl) (by kernel_rfl) (by kernel_rfl) (fun _ _ _ h => h) (.inl ⟨rfl, fun _ hS => by simp [execOp, go_sem, Act.eval]⟩) s1 ?_
  simp only [List.getElem_toArray, List.getElem_cons_succ, List.getElem_cons_zero, Act.put, List.setIfInBounds_toArray, List.set_cons_succ, List.set_cons_zero]
  refine wpAnyH_take (i := 2) (v := (.pointer (some ⟨g, 3, none⟩))) rfl (by kernel_rfl) (by kernel_rfl) (by kernel_rfl) (fun _ _ _ h => h) (.inl ⟨rfl, fun _ hS => by simp [execOp, go_sem, Act.eval]⟩) s1 ?_
  simp only [List.getElem_toArray, List.getElem_cons_succ, List.getElem_cons_zero, Act.put, List.setIfInBounds_toArray, List.set_cons_succ, List.set_cons_zero]
  refine wpAnyH_take (i := 3) (v := (.slice (some ⟨S, 0, none⟩) n n)) rfl (by kernel_rfl) (by kernel_rfl) (by kernel_rfl) (fun _ _ _ h => h) (.inl ⟨rfl, fun _ hS => exec_load rfl rfl (load_slots _ g 3 _ _ _ hS.1)⟩) s1 ?_
  simp only [List.getElem_toArray, List.getElem_cons_succ, List.getElem_cons_zero, Act.put, List.setIfInBounds_toArray, List.set_cons_succ, List.set_cons_zero]
  refine wpAnyH_take (i := 4) (v := (.pointer (some ⟨g, 0, none⟩))) rfl (by kernel_rfl) (by kernel_rfl) (by kernel_rfl) (fun _ _ _ h => h) (.inl ⟨rfl, fun _ hS => rfl⟩) s1 ?_
  simp only [List.getElem_toArray, List.getElem_cons_succ, List.getElem_cons_zero, Act.put, List.setIfInBounds_toArray, List.set_cons_succ, List.set_cons_zero]
  refine wpAnyH_take (i := 5) (v := (.pointer (some ⟨t.bk, 0, none⟩))) rfl (by kernel_rfl) (by kernel_rfl) (by kernel_rfl) (fun _ _ _ h => h) (.inl ⟨rfl, fun _ hS => rfl⟩) s1 ?_
  simp only [List.getElem_toArray, List.getElem_cons_succ, List.getElem_cons_zero, Act.put, List.setIfInBounds_toArray, List.set_cons_succ, List.set_cons_zero]
  refine wpAnyH_take (i := 6) (v := (.pointer (some ⟨t.bk, 0, none⟩))) rfl (by kernel_rfl) (by kernel_rfl) (by kernel_rfl) (fun _ _ _ h => h) (.inl ⟨rfl, fun _ hS => by simp [execOp, go_sem, Act.eval]⟩) s1 ?_
  simp only [List.getElem_toArray, List.getElem_cons_succ, List.getElem_cons_zero, Act.put, List.setIfInBounds_toArray, List.set_cons_succ, List.set_cons_zero]
  refine wpAnyH_take (i := 7) (v := (.pointer (some ⟨t.bk, 0, none⟩))) rfl (by kernel_rfl) (by kernel_rfl) (by kernel_rfl) (fun _ _ _ h => h) (.inl ⟨rfl, fun _ hS => by simp [execOp, go_sem, Act.eval]⟩) s1 ?_
  simp only [List.getElem_toArray, List.getElem_cons_succ, List.getElem_cons_zero, Act.put, List.setIfInBounds_toArray, List.set_cons_succ, List.set_cons_zero]
  refine wpAnyH_take (i := 8) (v := (.int .u64 t.due)) rfl (by kernel_rfl) (by kernel_rfl) (by kernel_rfl) (fun _ _ _ h => h) (.inl ⟨rfl, fun _ hS => exec_load rfl rfl (load_u64 _ t.bk 0 _ hS.2.1)⟩) s1 ?_
  simp only [List.getElem_toArray, List.getElem_cons_succ, List.getElem_cons_zero, Act.put, List.setIfInBounds_toArray, List.set_cons_succ, List.set_cons_zero]
  refine wpAnyH_take (i := 12) (v := (.int .i64 t.no)) rfl (by kernel_rfl) (by kernel_rfl) (by kernel_rfl) (fun _ _ _ h => h) (.inl ⟨rfl, fun _ hS => rfl⟩) s1 ?_
  simp only [List.getElem_toArray, List.getElem_cons_succ, List.getElem_cons_zero, Act.put, List.setIfInBounds_toArray, List.set_cons_succ, List.set_cons_zero]
  refine wpAnyH_all (rs := [9]) (by kernel_rfl) (by simp) ?_
  intro k hk
  simp only [List.mem_cons, List.mem_nil_iff, or_false] at hk
  subst hk
  refine wpOp_run rfl rfl (wp_call_fn 38 #[.pointer (some ⟨g, 0, none⟩), .int .u64 t.due] (by simp [execOp, go_sem, Act.eval, resolve, invoke, enterPlace]) (hPl.mono ?_))
  rintro e w9 ⟨rfl, rfl⟩
  refine ⟨s1, ?_⟩
  simp only [List.getElem_toArray, List.getElem_cons_succ, List.getElem_cons_zero, Act.put, List.setIfInBounds_toArray, List.set_cons_succ, List.set_cons_zero]
  refine wpAnyH_take (i := 10) (v := (.pointer (some ⟨S, i, none⟩))) rfl (by kernel_rfl) (by kernel_rfl) (by kernel_rfl) (fun _ _ _ h => h) (.inl ⟨rfl, fun _ hS => by simp [execOp, go_sem, Act.eval, hin]⟩) s1 ?_
  simp only [List.getElem_toArray, List.getElem_cons_succ, List.getElem_cons_zero, Act.put, List.setIfInBounds_toArray, List.set_cons_succ, List.set_cons_zero]
  refine wpAnyH_take (i := 11) (v := (.map (some b))) rfl (by kernel_rfl) (by kernel_rfl) (by kernel_rfl) (fun _ _ _ h => h) (.inl ⟨rfl, fun _ hS => exec_load rfl rfl (load_slot _ S i _ hS.2.2)⟩) s1 ?_
  simp only [List.getElem_toArray, List.getElem_cons_succ, List.getElem_cons_zero, Act.put, List.setIfInBounds_toArray, List.set_cons_succ, List.set_cons_zero]
  refine wpAnyH_all (rs := [13]) (by kernel_rfl) (by simp) ?_
  intro k hk
  simp only [List.mem_cons, List.mem_nil_iff, or_false] at hk
  subst hk
  refine wpOp_run rfl rfl (wp_del_run _ _ 73 3 rfl (.map (some b)) (.int .i64 t.no) rfl rfl hr2' ?_)
  refine ⟨s2, ?_⟩
  simp only [List.getElem_toArray, List.getElem_cons_succ, List.getElem_cons_zero, Act.put, List.setIfInBounds_toArray, List.set_cons_succ, List.set_cons_zero]
  refine wpAnyH_done (by kernel_rfl) ?_ _
  clear s1 s2 hPl hr2'
  go_wp2
  go_end0
  exact ⟨rfl, HX.out⟩
end
end Go.Proofs.Ytjkkclojidhgdaa
