/- Tick of a program's producer. -/
import Derived.Test.YtnmjeomhmmfgmaaYaB
import Derived.OrdersHeld
import Derived.Maps.RangeWalk
import Derived.Deep.Cut
import Derived.Laws.AppendOwn
namespace Go.Proofs.Ytnmjeomhmmfgmaa
open Go.RowKit
set_option linter.unusedVariables false
set_option maxRecDepth 1000000
set_option linter.unusedSimpArgs false
theorem wpOp_run {ops : Array Oper} {Q : Exit → Act → World → Prop} {K : Act → World → Prop} {a : Act} {w : World} {i : Nat} {o : Oper} (hi : ops[i]? = some o) (hg : o.guard = none) (h : o.wp Try.prog a w K Q) : wpOp Try.prog ops Q i K a w := by
  unfold Go.wpOp
  simp only [hi]
  rw [if_pos (by simp [Region.wanted, hg])]
  exact .inl h
theorem wpOp_runw {ops : Array Oper} {Q : Exit → Act → World → Prop} {K : Act → World → Prop} {a : Act} {w : World} {i : Nat} {o : Oper} (hi : ops[i]? = some o) (hg : Region.wanted o (yielded ops a.tmps) = true) (h : o.wp Try.prog a w K Q) : wpOp Try.prog ops Q i K a w := by
  unfold Go.wpOp
  simp only [hi]
  rw [if_pos hg]
  exact .inl h
theorem wp_call_fn {o : Oper} {a : Act} {w : World} {K : Act → World → Prop} {Q : Exit → Act → World → Prop} (g : Nat) (args : Array Value) (hr : (execOp a.eval o).run Try.prog w = .ok (.enter g args) w)
    (h : Calls Try.prog g args w fun
      | .returned v, w'' => K (a.put o.dst v) w''
      | .panicked chain, w'' => Q (.panic chain) a w''
      | .outgrown, _ => LetsOut Q) : o.wp Try.prog a w K Q := by
  unfold Oper.wp
  rw [hr]
  exact h
theorem exec_load {a : Act} {o : Oper} {x : Operand} {ty : TypeId} {ad : Addr} {v : Value} {w : World} (ho : o.op = .load ty x) (hx : a.eval x = .pointer (some ad)) (hr : (loadVar ty ad).run Try.prog w = .ok v w) :
    (execOp a.eval o).run Try.prog w = .ok (.value v) w := by
  unfold execOp
  simp only [ho, hx, Instr.loadAt, Instr.sureAddr, Sem.run_bind, Sem.run_pure, Result.andThen_ok, hr]
theorem wp_load_cell {o : Oper} {a : Act} {w : World} {K : Act → World → Prop} {Q : Exit → Act → World → Prop} (ty : TypeId) (x : Operand) (ho : o.op = .load ty x) (b k : Nat) (hx : a.eval x = .pointer (some ⟨b, k, none⟩)) (v : Value)
    (hr : (loadVar ty ⟨b, k, none⟩).run Try.prog w = .ok v w) (h : K (a.put o.dst v) w) : o.wp Try.prog a w K Q := by
  unfold Oper.wp execOp
  simp only [ho, hx, Instr.loadAt, Instr.sureAddr, Sem.run_bind, Sem.run_pure, Result.andThen_ok, hr]
  exact h
theorem wp_store_cell {o : Oper} {a : Act} {w : World} {K : Act → World → Prop} {Q : Exit → Act → World → Prop} (ty : TypeId) (x y : Operand) (ho : o.op = .store ty x y) (b k : Nat) (hx : a.eval x = .pointer (some ⟨b, k, none⟩)) (v : Value) (hy : a.eval y = v)
    (hr : (storeVar ty ⟨b, k, none⟩ v).run Try.prog w = .ok () (w.setCell ⟨b, k, none⟩ v)) (h : K (a.put o.dst undef) (w.setCell ⟨b, k, none⟩ v)) : o.wp Try.prog a w K Q := by
  unfold Oper.wp execOp
  simp only [ho, hx, hy, Instr.storeAt, Instr.sureAddr, Sem.run_bind, Sem.run_pure, Result.andThen_ok, hr]
  exact h
theorem load_int (x : World) (D k : Nat) (z : Int) (hc : x.cell? ⟨D, k, none⟩ = some (.int .i64 z)) : (loadVar 3 ⟨D, k, none⟩).run Try.prog x = .ok (.int .i64 z) x := by
  simp [go_sem, run_underlying Try.underlying3, hc]
theorem load_u64 (x : World) (D k : Nat) (z : Int) (hc : x.cell? ⟨D, k, none⟩ = some (.int .u64 z)) : (loadVar 22 ⟨D, k, none⟩).run Try.prog x = .ok (.int .u64 z) x := by
  simp [go_sem, run_underlying Try.underlying22, hc]
theorem store_int (x : World) (D k : Nat) (u : Value) (z : Int) (hc : x.cell? ⟨D, k, none⟩ = some u) (hf : x.frozen? ⟨D, k, none⟩ = false) : (storeVar 3 ⟨D, k, none⟩ (.int .i64 z)).run Try.prog x = .ok () (x.setCell ⟨D, k, none⟩ (.int .i64 z)) := by
  simp [go_sem, run_underlying Try.underlying3, hc, hf]
theorem store_u64 (x : World) (D k : Nat) (u : Value) (z : Int) (hc : x.cell? ⟨D, k, none⟩ = some u) (hf : x.frozen? ⟨D, k, none⟩ = false) : (storeVar 22 ⟨D, k, none⟩ (.int .u64 z)).run Try.prog x = .ok () (x.setCell ⟨D, k, none⟩ (.int .u64 z)) := by
  simp [go_sem, run_underlying Try.underlying22, hc, hf]
theorem enterBe : ∀ args z, (callFunc 27 args).run Try.prog z = .ok (.enter 27 args) z := fun _ _ => by rfl
theorem info_parts {T : TypeId} {z : Option Value} {s b : Nat} (h : (Try.prog.info? T).map (fun i => (i.zero, i.size, i.bytes)) = some (z, s, b)) : ∃ i, Try.prog.info? T = some i ∧ i.zero = z ∧ i.size = s ∧ i.bytes = b := by
  cases hi : Try.prog.info? T with
  | none => rw [hi] at h; cases h
  | some i =>
    rw [hi] at h
    simp only [Option.map_some, Option.some.injEq, Prod.mk.injEq] at h
    exact ⟨i, rfl, h.1, h.2.1, h.2.2⟩
theorem infoI : (Try.prog.info? 3).map (fun i => (i.zero, i.size, i.bytes)) = some (some (.int .i64 0), 1, 8) := by kernel_rfl
theorem cell_one_new (w : World) (u : Value) (T : TypeId) : ∀ j v, [u][j]? = some v → (w.alloc (.cells #[u] T)).cell? ((⟨w.heap.size, 0, none⟩ : Addr).add j) = some v := by
  intro j v hj
  match j, hj with
  | 0, hj =>
    simp at hj
    subst hj
    exact (Lib.cell_of_heap (heap_alloc_new w _) 0).trans rfl
theorem own_lt {w : World} {base : Nat} {e : TypeId} {size : Nat} {v : Value} {n : Nat} {xs : List Value} (h : w.ownsRow base e size v n xs) : ∀ k, v.ownBlock = some k → base ≤ k := by
  intro k hk
  rcases h.2 with ⟨rfl, _⟩ | ⟨g, cap, cur, rfl, hb, _⟩
  · simp [Value.ownBlock] at hk
  · simp [Value.ownBlock] at hk; omega
theorem row_below {w w' : World} {B : Nat} {e : TypeId} {c m : Nat} {v : Value} {xs : List Value} (h : w.ownsRow B e c v m xs) (hb : Below w.heap.size w w') : w'.ownsRow B e c v m xs :=
  h.kept (row := none) ⟨hb.os, hb.tape, hb.output, hb.size, fun k hk _ => hb.block k hk⟩ (by cases hv : v.ownBlock with | none => exact .inl rfl | some q => exact .inr (by simp))
/-- A row of numbers of one's own. -/
def RowI (B : Nat) (v : Value) (zs : List Int) (w : World) : Prop := w.ownsRow B 3 1 v zs.length (zs.map (Value.int .i64))
theorem RowI.two {B g : Nat} {v : Value} {zs : List Int} {w w' : World} (h : RowI B v zs w) (t : Two g g w w') (hg : g < B) : RowI B v zs w' :=
  World.ownsRow.kept h (row := some g) ⟨t.os, t.tape, t.output, t.size, fun k hk hn => t.block k hk (fun e => hn (by rw [e])) (fun e => hn (by rw [e]))⟩ (by
    cases hv : v.ownBlock with
    | none => exact .inl rfl
    | some q => exact .inr (fun e => by have := own_lt h q hv; injection e with e; omega))
theorem Two.grown {g B : Nat} {a w w' : World} {v : Value} {zs : List Int} (x : Two g g a w) (h : RowI a.heap.size v zs w) (hg : w.grownBy w' v.ownBlock) : Two g g a w' :=
  ⟨hg.os.trans x.os, hg.tape.trans x.tape, hg.output.trans x.output, Nat.le_trans x.size hg.size, fun k hk h1 h2 => (hg.block k (Nat.lt_of_lt_of_le hk x.size) (fun e => by have := own_lt h k e.symm; omega)).trans (x.block k hk h1 h2)⟩
theorem Pa.grown {g B : Nat} {s : Ps} {w w' : World} {v : Value} {zs : List Int} (x : Pa g s w) (h : RowI B v zs w) (hB : g < B) (hg : w.grownBy w' v.ownBlock) : Pa g s w' :=
  (hg.block g x.lt (fun e => by have := own_lt h g e.symm; omega)).trans x
/-- A producer's block while it is written. -/
def Gb (g : Nat) (P O : Nat) (a b : Value) (w : World) : Prop := w.heap[g]? = some (.cells #[.int .u64 P, .int .i64 O, a, b] 65 (0, 0))
section
variable {g P O : Nat} {a b : Value} {w : World}
theorem Gb.set2 (h : Gb g P O a b w) (v : Value) : Gb g P O v b (w.setCell ⟨g, 2, none⟩ v) := by
  unfold Gb at *; simp [World.setCell, Array.getElem?_modify, h]
theorem Gb.set3 (h : Gb g P O a b w) (v : Value) : Gb g P O a v (w.setCell ⟨g, 3, none⟩ v) := by
  unfold Gb at *; simp [World.setCell, Array.getElem?_modify, h]
theorem Gb.c0 (h : Gb g P O a b w) : w.cell? ⟨g, 0, none⟩ = some (.int .u64 P) := Lib.cell_of_heap h 0
theorem Gb.c1 (h : Gb g P O a b w) : w.cell? ⟨g, 1, none⟩ = some (.int .i64 O) := Lib.cell_of_heap h 1
theorem Gb.c2 (h : Gb g P O a b w) : w.cell? ⟨g, 2, none⟩ = some a := Lib.cell_of_heap h 2
theorem Gb.c3 (h : Gb g P O a b w) : w.cell? ⟨g, 3, none⟩ = some b := Lib.cell_of_heap h 3
theorem Gb.fr (h : Gb g P O a b w) (k : Nat) : w.frozen? ⟨g, k, none⟩ = false := Lib.frozen_of_heap h k
end
section
variable {g : Nat} {s : Ps} {w : World}
theorem tick_off (hk : s.ok) (h : Pa g s w) (ho : s.on = false) (n : Int) : Calls Try.prog 12 #[.pointer (some ⟨g, 0, none⟩), .int .u64 n] w fun e w' => e = .returned (.slice none 0 0) ∧ w' = w := by
  obtain ⟨c0, c1, c2, c3, hf⟩ := h.cells
  have e1 : s.left = 0 := by simp [Ps.left, ho]
  rw [e1] at c2
  clear e1
  go_enter Try.func12, Try.ntmps12
  go_wp2
  go_ret
  exact ⟨rfl, rfl⟩
set_option maxHeartbeats 4000000 in
theorem tick_lo (hk : s.ok) (h : Pa g s w) (ho : s.on = true) (n : Nat) (hn : n ≤ 65536) : Calls Try.prog 12 #[.pointer (some ⟨g, 0, none⟩), .int .u64 n] w fun e w' => ∃ v, e = .returned v ∧ RowI w.heap.size v (s.em n) w' ∧ Pa g (s.tk n) w' ∧ Two g g w w' := by
  obtain ⟨k1, k2, k3, k4⟩ := hk
  obtain ⟨c0, c1, c2, c3, hf⟩ := h.cells
  have hL : s.left = s.per - s.went := by simp [Ps.left, ho]
  have d0 : ((s.left : Int) == 0) = false := by simp; omega
  have hgw := h.lt
  have dn : ¬ ((65536 : Int) < (n : Int)) := by omega
  have H0 : Hid (Pa g s w ∧ RowI w.heap.size (.slice none 0 0) [] w ∧ s.ok ∧ s.on = true ∧ g < w.heap.size) := ⟨h, World.ownsRow_nil _ _ _ _, ⟨k1, k2, k3, k4⟩, ho, hgw⟩
  have HE : Hid (∃ x, s.em n = x) := ⟨_, rfl⟩
  obtain ⟨i0, hi0, hz0, hz1, hz2⟩ := info_parts infoI
  clear c0 c1 c3 hf h hgw k1 k2 k3 k4 ho
  generalize s.left = L0 at *
  clear hL
  go_enter Try.func12, Try.ntmps12
  go_wp2_with fail
  go_loopw [1, 5] (fun nv tv wr => ∃ (m : Nat) (t : Ps) (acc : List Int), nv = .int .u64 m ∧ m ≤ n ∧ t.ok ∧ t.on = true ∧ t.tk m = s.tk n ∧ s.em n = acc ++ t.em m ∧ acc.length + m ≤ 65536 ∧ RowI w.heap.size tv acc wr ∧ Pa g t wr ∧ Two g g w wr) (fun nv _ _ => (intOf nv).toNat)
  case atStart =>
    obtain ⟨h1, h2, h3, h4, h5⟩ := H0.out
    exact ⟨n, s, [], rfl, Nat.le_refl _, h3, h4, rfl, rfl, by simp; try omega, h2, h1, Two.refl _ _ _⟩
  case round =>
    obtain ⟨m, t, acc, rfl, hmN, hto, hon, htk, hem, hac, hrow, hPa, hTw⟩ := hrel
    obtain ⟨k1, k2, k3, k4⟩ := hto
    obtain ⟨c0, c1, c2, c3, hf⟩ := hPa.cells
    have hL : t.left = t.per - t.went := by simp [Ps.left, hon]
    have hgw := H0.out.2.2.2.2
    have hsz := hTw.size
    have f2 := hf 2
    by_cases hge : t.left ≤ m
    · have hd : decide ((t.left : Int) ≤ (m : Int)) = true := by simp; omega
      obtain ⟨e1, e2⟩ := Ps.tk_big hon k4 (by rw [← hL]; exact hge)
      rw [← hL] at e1 e2
      have HT : Hid (Ps.ok ⟨t.per, t.ov, true, 0, t.told + 1⟩ ∧ Ps.tk (m - t.left) ⟨t.per, t.ov, true, 0, t.told + 1⟩ = s.tk n ∧ s.em n = (acc ++ [(cnt t.ov (t.told + 1) : Int)]) ++ Ps.em (m - t.left) ⟨t.per, t.ov, true, 0, t.told + 1⟩) := ⟨⟨k1, k2, k3, by simp only; omega⟩, by rw [← e1, htk], by rw [hem, e2]; simp⟩
      have HN : Hid (∀ x, Gb g t.per t.ov (.int .u64 t.per) (.int .i64 (cnt t.ov (t.told + 1))) x → Pa g ⟨t.per, t.ov, true, 0, t.told + 1⟩ x) := fun x hx => hx
      have HG : Hid (Gb g t.per t.ov (.int .u64 t.left) (.int .i64 (cnt t.ov t.told)) wr) := hPa
      have HBe : Hid (∀ x : World, Calls Try.prog 27 #[.int .i64 (cnt t.ov t.told), .int .i64 t.ov] x fun e w' => e = .returned (.int .i64 (cnt t.ov (t.told + 1))) ∧ ∃ n, w' = x.drewN n) := fun x => by rw [cnt_next]; exact behind_any x _ _ (Nat.le_trans (cnt_le _ _) k3) k3
      have hl1 : 1 ≤ t.left := by omega
      have HO : Hid ((⟨t.per, t.ov, true, 0, t.told + 1⟩ : Ps).on = true) := rfl
      have HRT : Hid (RowI w.heap.size u5 acc wr ∧ Two g g w wr) := ⟨hrow, hTw⟩
      generalize hC1 : cnt t.ov (t.told + 1) = C1 at *
      generalize cnt t.ov t.told = C at *
      generalize (⟨t.per, t.ov, true, 0, t.told + 1⟩ : Ps) = t' at *
      generalize t.left = L at *
      generalize t.per = P at *
      generalize t.ov = O at *
      obtain ⟨m', hm'⟩ : ∃ m', m - L = m' := ⟨_, rfl⟩
      have hsub : (m : Int) - (L : Int) = (m' : Int) := by omega
      rw [hm'] at HT e1 e2
      clear e1 e2 hem htk hon hPa hL k4 hrow hTw hC1 H0
      have HM : Hid (m - L = m') := hm'
      clear hm'
      have HS0 : Hid (∀ y : World, (∃ a b, Gb g P O a b y) → y.cell? ⟨g, 0, none⟩ = some (.int .u64 (P : Int))) := fun y ⟨_, _, h⟩ => h.c0
      have HS1 : Hid (∀ y : World, (∃ a b, Gb g P O a b y) → y.cell? ⟨g, 1, none⟩ = some (.int .i64 (O : Int))) := fun y ⟨_, _, h⟩ => h.c1
      go_upto_region 7 with fail
      refine wp_region_held (S := fun y => ∃ a b, Gb g P O a b y) (by kernel_rfl) ?_
      obtain ⟨x1, hx1⟩ : ∃ x : World, { wr with drawn := wr.drawn + 1 } = x := ⟨_, rfl⟩
      have G1 : Gb g P O (.int .u64 (L : Int)) (.int .i64 (C : Int)) x1 := by rw [← hx1]; exact HG.out
      have T1 : Two g g wr x1 := by rw [← hx1]; exact (Two.refl g g wr).drawn 1
      rw [hx1]
      refine wpAnyH_take (i := 0) (v := (.pointer (some ⟨g, 0, none⟩))) rfl (by kernel_rfl) (by kernel_rfl) (by kernel_rfl) (fun _ _ _ h => h) (.inl ⟨rfl, fun _ hS => rfl⟩) ⟨_, _, G1⟩ ?_
      simp only [List.getElem_toArray, List.getElem_cons_succ, List.getElem_cons_zero, Act.put, List.setIfInBounds_toArray, List.set_cons_succ, List.set_cons_zero]
      refine wpAnyH_take (i := 1) (v := (.pointer (some ⟨g, 0, none⟩))) rfl (by kernel_rfl) (by kernel_rfl) (by kernel_rfl) (fun _ _ _ h => h) (.inl ⟨rfl, fun _ hS => rfl⟩) ⟨_, _, G1⟩ ?_
      simp only [List.getElem_toArray, List.getElem_cons_succ, List.getElem_cons_zero, Act.put, List.setIfInBounds_toArray, List.set_cons_succ, List.set_cons_zero]
      refine wpAnyH_take (i := 2) (v := (.pointer (some ⟨g, 0, none⟩))) rfl (by kernel_rfl) (by kernel_rfl) (by kernel_rfl) (fun _ _ _ h => h) (.inl ⟨rfl, fun _ hS => rfl⟩) ⟨_, _, G1⟩ ?_
      simp only [List.getElem_toArray, List.getElem_cons_succ, List.getElem_cons_zero, Act.put, List.setIfInBounds_toArray, List.set_cons_succ, List.set_cons_zero]
      refine wpAnyH_take (i := 3) (v := (.pointer (some ⟨g, 0, none⟩))) rfl (by kernel_rfl) (by kernel_rfl) (by kernel_rfl) (fun _ _ _ h => h) (.inl ⟨rfl, fun _ hS => by simp [execOp, go_sem, Act.eval]⟩) ⟨_, _, G1⟩ ?_
      simp only [List.getElem_toArray, List.getElem_cons_succ, List.getElem_cons_zero, Act.put, List.setIfInBounds_toArray, List.set_cons_succ, List.set_cons_zero]
      refine wpAnyH_take (i := 4) (v := (.pointer (some ⟨g, 0, none⟩))) rfl (by kernel_rfl) (by kernel_rfl) (by kernel_rfl) (fun _ _ _ h => h) (.inl ⟨rfl, fun _ hS => by simp [execOp, go_sem, Act.eval]⟩) ⟨_, _, G1⟩ ?_
      simp only [List.getElem_toArray, List.getElem_cons_succ, List.getElem_cons_zero, Act.put, List.setIfInBounds_toArray, List.set_cons_succ, List.set_cons_zero]
      refine wpAnyH_take (i := 5) (v := (.int .u64 (P : Int))) rfl (by kernel_rfl) (by kernel_rfl) (by kernel_rfl) (fun _ _ _ h => h) (.inl ⟨rfl, fun _ hS => exec_load rfl rfl (load_u64 _ _ _ _ (HS0.out _ hS))⟩) ⟨_, _, G1⟩ ?_
      simp only [List.getElem_toArray, List.getElem_cons_succ, List.getElem_cons_zero, Act.put, List.setIfInBounds_toArray, List.set_cons_succ, List.set_cons_zero]
      refine wpAnyH_take (i := 6) (v := (.pointer (some ⟨g, 0, none⟩))) rfl (by kernel_rfl) (by kernel_rfl) (by kernel_rfl) (fun _ _ _ h => h) (.inl ⟨rfl, fun _ hS => rfl⟩) ⟨_, _, G1⟩ ?_
      simp only [List.getElem_toArray, List.getElem_cons_succ, List.getElem_cons_zero, Act.put, List.setIfInBounds_toArray, List.set_cons_succ, List.set_cons_zero]
      refine wpAnyH_take (i := 7) (v := (.pointer (some ⟨g, 0, none⟩))) rfl (by kernel_rfl) (by kernel_rfl) (by kernel_rfl) (fun _ _ _ h => h) (.inl ⟨rfl, fun _ hS => by simp [execOp, go_sem, Act.eval]⟩) ⟨_, _, G1⟩ ?_
      simp only [List.getElem_toArray, List.getElem_cons_succ, List.getElem_cons_zero, Act.put, List.setIfInBounds_toArray, List.set_cons_succ, List.set_cons_zero]
      refine wpAnyH_take (i := 8) (v := (.pointer (some ⟨g, 3, none⟩))) rfl (by kernel_rfl) (by kernel_rfl) (by kernel_rfl) (fun _ _ _ h => h) (.inl ⟨rfl, fun _ hS => by simp [execOp, go_sem, Act.eval]⟩) ⟨_, _, G1⟩ ?_
      simp only [List.getElem_toArray, List.getElem_cons_succ, List.getElem_cons_zero, Act.put, List.setIfInBounds_toArray, List.set_cons_succ, List.set_cons_zero]
      refine wpAnyH_take (i := 10) (v := (.pointer (some ⟨g, 0, none⟩))) rfl (by kernel_rfl) (by kernel_rfl) (by kernel_rfl) (fun _ _ _ h => h) (.inl ⟨rfl, fun _ hS => rfl⟩) ⟨_, _, G1⟩ ?_
      simp only [List.getElem_toArray, List.getElem_cons_succ, List.getElem_cons_zero, Act.put, List.setIfInBounds_toArray, List.set_cons_succ, List.set_cons_zero]
      refine wpAnyH_take (i := 11) (v := (.pointer (some ⟨g, 0, none⟩))) rfl (by kernel_rfl) (by kernel_rfl) (by kernel_rfl) (fun _ _ _ h => h) (.inl ⟨rfl, fun _ hS => by simp [execOp, go_sem, Act.eval]⟩) ⟨_, _, G1⟩ ?_
      simp only [List.getElem_toArray, List.getElem_cons_succ, List.getElem_cons_zero, Act.put, List.setIfInBounds_toArray, List.set_cons_succ, List.set_cons_zero]
      refine wpAnyH_take (i := 12) (v := (.pointer (some ⟨g, 1, none⟩))) rfl (by kernel_rfl) (by kernel_rfl) (by kernel_rfl) (fun _ _ _ h => h) (.inl ⟨rfl, fun _ hS => by simp [execOp, go_sem, Act.eval]⟩) ⟨_, _, G1⟩ ?_
      simp only [List.getElem_toArray, List.getElem_cons_succ, List.getElem_cons_zero, Act.put, List.setIfInBounds_toArray, List.set_cons_succ, List.set_cons_zero]
      refine wpAnyH_take (i := 13) (v := (.int .i64 (O : Int))) rfl (by kernel_rfl) (by kernel_rfl) (by kernel_rfl) (fun _ _ _ h => h) (.inl ⟨rfl, fun _ hS => exec_load rfl rfl (load_int _ _ _ _ (HS1.out _ hS))⟩) ⟨_, _, G1⟩ ?_
      simp only [List.getElem_toArray, List.getElem_cons_succ, List.getElem_cons_zero, Act.put, List.setIfInBounds_toArray, List.set_cons_succ, List.set_cons_zero]
      refine wpAnyH_all (rs := [9]) (by kernel_rfl) (by simp) ?_
      intro k hk
      simp only [List.mem_cons, List.mem_nil_iff, or_false] at hk
      subst hk
      refine wpOp_run rfl rfl (wp_load_cell 3 _ rfl g 3 rfl (.int .i64 (C : Int)) (load_int _ _ _ _ G1.c3) ?_)
      refine ⟨⟨_, _, G1⟩, ?_⟩
      simp only [List.getElem_toArray, List.getElem_cons_succ, List.getElem_cons_zero, Act.put, List.setIfInBounds_toArray, List.set_cons_succ, List.set_cons_zero]
      refine wpAnyH_all (rs := [14]) (by kernel_rfl) (by simp) ?_
      intro k hk
      simp only [List.mem_cons, List.mem_nil_iff, or_false] at hk
      subst hk
      refine wpOp_run rfl rfl (wp_call_fn 27 #[.int .i64 (C : Int), .int .i64 (O : Int)] (by simp [execOp, go_sem, Act.eval, resolve, invoke, enterBe]) ?_)
      refine (HBe.out _).mono ?_
      rintro e x2 ⟨rfl, nb, rfl⟩
      have G2 : Gb g P O (.int .u64 (L : Int)) (.int .i64 (C : Int)) (x1.drewN nb) := G1
      have T2 : Two g g wr (x1.drewN nb) := T1.drawn nb
      refine ⟨⟨_, _, G2⟩, ?_⟩
      simp only [List.getElem_toArray, List.getElem_cons_succ, List.getElem_cons_zero, Act.put, List.setIfInBounds_toArray, List.set_cons_succ, List.set_cons_zero]
      refine wpAnyH_take (i := 15) (v := (.pointer (some ⟨g, 0, none⟩))) rfl (by kernel_rfl) (by kernel_rfl) (by kernel_rfl) (fun _ _ _ h => h) (.inl ⟨rfl, fun _ hS => by simp [execOp, go_sem, Act.eval]⟩) ⟨_, _, G2⟩ ?_
      simp only [List.getElem_toArray, List.getElem_cons_succ, List.getElem_cons_zero, Act.put, List.setIfInBounds_toArray, List.set_cons_succ, List.set_cons_zero]
      refine wpAnyH_take (i := 16) (v := (.pointer (some ⟨g, 2, none⟩))) rfl (by kernel_rfl) (by kernel_rfl) (by kernel_rfl) (fun _ _ _ h => h) (.inl ⟨rfl, fun _ hS => by simp [execOp, go_sem, Act.eval]⟩) ⟨_, _, G2⟩ ?_
      simp only [List.getElem_toArray, List.getElem_cons_succ, List.getElem_cons_zero, Act.put, List.setIfInBounds_toArray, List.set_cons_succ, List.set_cons_zero]
      refine wpAnyH_all (rs := [17]) (by kernel_rfl) (by simp) ?_
      intro k hk
      simp only [List.mem_cons, List.mem_nil_iff, or_false] at hk
      subst hk
      refine wpOp_run rfl rfl (wp_store_cell 22 _ _ rfl g 2 rfl (.int .u64 (P : Int)) rfl (store_u64 _ _ _ _ _ G2.c2 (G2.fr 2)) ?_)
      have G3 := G2.set2 (.int .u64 (P : Int))
      have T3 := T2.at0 2 (.int .u64 (P : Int))
      refine ⟨⟨_, _, G3⟩, ?_⟩
      simp only [List.getElem_toArray, List.getElem_cons_succ, List.getElem_cons_zero, Act.put, List.setIfInBounds_toArray, List.set_cons_succ, List.set_cons_zero]
      refine wpAnyH_take (i := 18) (v := (.pointer (some ⟨g, 0, none⟩))) rfl (by kernel_rfl) (by kernel_rfl) (by kernel_rfl) (fun _ _ _ h => h) (.inl ⟨rfl, fun _ hS => by simp [execOp, go_sem, Act.eval]⟩) ⟨_, _, G3⟩ ?_
      simp only [List.getElem_toArray, List.getElem_cons_succ, List.getElem_cons_zero, Act.put, List.setIfInBounds_toArray, List.set_cons_succ, List.set_cons_zero]
      refine wpAnyH_take (i := 19) (v := (.pointer (some ⟨g, 3, none⟩))) rfl (by kernel_rfl) (by kernel_rfl) (by kernel_rfl) (fun _ _ _ h => h) (.inl ⟨rfl, fun _ hS => by simp [execOp, go_sem, Act.eval]⟩) ⟨_, _, G3⟩ ?_
      simp only [List.getElem_toArray, List.getElem_cons_succ, List.getElem_cons_zero, Act.put, List.setIfInBounds_toArray, List.set_cons_succ, List.set_cons_zero]
      refine wpAnyH_all (rs := [20]) (by kernel_rfl) (by simp) ?_
      intro k hk
      simp only [List.mem_cons, List.mem_nil_iff, or_false] at hk
      subst hk
      refine wpOp_run rfl rfl (wp_store_cell 3 _ _ rfl g 3 rfl (.int .i64 (C1 : Int)) rfl (store_int _ _ _ _ _ G3.c3 (G3.fr 3)) ?_)
      have G4 := G3.set3 (.int .i64 (C1 : Int))
      have T4 := T3.at0 3 (.int .i64 (C1 : Int))
      refine ⟨⟨_, _, G4⟩, ?_⟩
      simp only [List.getElem_toArray, List.getElem_cons_succ, List.getElem_cons_zero, Act.put, List.setIfInBounds_toArray, List.set_cons_succ, List.set_cons_zero]
      refine wpAnyH_done (by kernel_rfl) ?_ _
      have HP2 := HN.out _ G4
      have c3 := G4.c3
      have R4 := HRT.out.1.two T4 hgw
      have T5 := HRT.out.2.trans T4
      have hsz4 := T5.size
      obtain ⟨x4, hx4⟩ : ∃ x4, ((x1.drewN nb).setCell ⟨g, 2, none⟩ (.int .u64 (P : Int))).setCell ⟨g, 3, none⟩ (.int .i64 (C1 : Int)) = x4 := ⟨_, rfl⟩
      rw [hx4] at HP2 c3 R4 T5 hsz4 ⊢
      clear G4 T4 G3 T3 G2 T2 G1 T1 HG HBe HS0 HS1 hx1 hx4 HN HRT hf f2 c0 c1 c2
      have HH : Hid (Pa g t' x4 ∧ Two g g w x4 ∧ RowI w.heap.size u5 acc x4) := ⟨HP2, T5, R4⟩
      unfold RowI at R4
      clear HP2 T5
      go_wp2_with (at_builtin; refine wpList_plain rfl fun _ hK => wp_append_own _ _ _ 36 rfl w.heap.size 3 i0 (.int .i64 0) 1 8 Try.underlying36 hi0 hz0 hz1 hz2 rfl (by decide) _ _ _ rfl (R4.alloc _) ⟨x4.heap.size, 0, none⟩ 1 1 [.int .i64 (C1 : Int)] rfl rfl (cell_one_new _ _ _) (by simp [Value.oneCell']) (by unfold maxLen at *; omega) (by omega) (by simp; omega) ?_; intro v' w5 hown' hg5 _; refine hK _ _ ?_; go_frame)
      obtain ⟨p1, p2, p3⟩ := HH.out
      have q1 : RowI w.heap.size v' (acc ++ [(C1 : Int)]) w5 := by unfold RowI; simpa using hown'
      have p3' : RowI w.heap.size u5 acc (x4.alloc (.cells #[.int .i64 (C1 : Int)] 3)) := World.ownsRow.alloc p3 _
      have q2 := (p1.alloc (.cells #[.int .i64 (C1 : Int)] 3)).grown p3' hgw hg5
      have q3 := (p2.alloc (.cells #[.int .i64 (C1 : Int)] 3)).grown (B := 0) p3' hg5
      have HQ : Hid (RowI w.heap.size v' (acc ++ [(C1 : Int)]) w5 ∧ Pa g t' w5 ∧ Two g g w w5) := ⟨q1, q2, q3⟩
      clear p1 p2 p3 p3' q1 q2 q3 hown' hg5 HH R4
      try go_wp2
      go_roundw
      case rel =>
        obtain ⟨q1, q2, q3⟩ := HQ.out
        obtain ⟨r1, r2, r3⟩ := HT.out
        have hm := HM.out
        exact ⟨m', t', acc ++ [(C1 : Int)], rfl, by omega, r1, HO.out, r2, r3, by simp; omega, q1, q2, q3⟩
      case measure =>
        have hm := HM.out
        simp [intOf]
        omega
    · have hd : decide ((t.left : Int) ≤ (m : Int)) = false := by simp; omega
      obtain ⟨e1, e2⟩ := Ps.tk_small hon (n := m) (by omega)
      rw [e2, List.append_nil] at hem
      have hl9 : (⟨t.per, t.ov, true, t.went + m, t.told⟩ : Ps).left = t.left - m := by rw [hL]; simp [Ps.left]; omega
      have hP9 := hPa.set2 ⟨t.per, t.ov, true, t.went + m, t.told⟩ rfl rfl rfl
      rw [hl9] at hP9
      have hsub : (t.left : Int) - (m : Int) = ((t.left - m : Nat) : Int) := by omega
      have hT9 := hTw.at0 2 (.int .u64 ((t.left - m : Nat) : Int))
      have hR9 := hrow.two ((Two.refl g g wr).at0 2 (.int .u64 ((t.left - m : Nat) : Int))) hgw
      rw [← hem] at hR9
      rw [← e1, htk] at hP9
      have HH : Hid (RowI w.heap.size u5 (s.em n) (wr.setCell ⟨g, 2, none⟩ (.int .u64 ((t.left - m : Nat) : Int))) ∧ Pa g (s.tk n) (wr.setCell ⟨g, 2, none⟩ (.int .u64 ((t.left - m : Nat) : Int))) ∧ Two g g w (wr.setCell ⟨g, 2, none⟩ (.int .u64 ((t.left - m : Nat) : Int)))) := ⟨hR9, hP9, hT9⟩
      have hlb : t.left ≤ 4294967296 := by omega
      generalize hm' : t.left - m = m' at *
      clear hP9 hT9 hR9 hem htk e1 e2 hPa hTw hrow hl9 hL H0 HE hon
      generalize t.left = L at *
      clear hm'
      go_wp2
      go_ret
      exact ⟨_, rfl, HH.out⟩
set_option maxHeartbeats 4000000 in
theorem tick_hi (hk : s.ok) (h : Pa g s w) (ho : s.on = true) (n : Nat) (hn : 65536 < n) : Calls Try.prog 12 #[.pointer (some ⟨g, 0, none⟩), .int .u64 n] w fun e w' => ∃ v, e = .returned v ∧ RowI w.heap.size v (s.em 65536) w' ∧ Pa g (s.tk 65536) w' ∧ Two g g w w' := by
  obtain ⟨k1, k2, k3, k4⟩ := hk
  obtain ⟨c0, c1, c2, c3, hf⟩ := h.cells
  have hL : s.left = s.per - s.went := by simp [Ps.left, ho]
  have d0 : ((s.left : Int) == 0) = false := by simp; omega
  have hgw := h.lt
  have dn : (65536 : Int) < (n : Int) := by omega
  have H0 : Hid (Pa g s w ∧ RowI w.heap.size (.slice none 0 0) [] w ∧ s.ok ∧ s.on = true ∧ g < w.heap.size) := ⟨h, World.ownsRow_nil _ _ _ _, ⟨k1, k2, k3, k4⟩, ho, hgw⟩
  have HE : Hid (∃ x, s.em 65536 = x) := ⟨_, rfl⟩
  obtain ⟨i0, hi0, hz0, hz1, hz2⟩ := info_parts infoI
  clear c0 c1 c3 hf h hgw k1 k2 k3 k4 ho
  generalize s.left = L0 at *
  clear hL
  go_enter Try.func12, Try.ntmps12
  go_wp2_with fail
  go_loopw [1, 5] (fun nv tv wr => ∃ (m : Nat) (t : Ps) (acc : List Int), nv = .int .u64 m ∧ m ≤ 65536 ∧ t.ok ∧ t.on = true ∧ t.tk m = s.tk 65536 ∧ s.em 65536 = acc ++ t.em m ∧ acc.length + m ≤ 65536 ∧ RowI w.heap.size tv acc wr ∧ Pa g t wr ∧ Two g g w wr) (fun nv _ _ => (intOf nv).toNat)
  case atStart =>
    obtain ⟨h1, h2, h3, h4, h5⟩ := H0.out
    exact ⟨65536, s, [], rfl, Nat.le_refl _, h3, h4, rfl, rfl, by simp; try omega, h2, h1, Two.refl _ _ _⟩
  case round =>
    obtain ⟨m, t, acc, rfl, hmN, hto, hon, htk, hem, hac, hrow, hPa, hTw⟩ := hrel
    obtain ⟨k1, k2, k3, k4⟩ := hto
    obtain ⟨c0, c1, c2, c3, hf⟩ := hPa.cells
    have hL : t.left = t.per - t.went := by simp [Ps.left, hon]
    have hgw := H0.out.2.2.2.2
    have hsz := hTw.size
    have f2 := hf 2
    by_cases hge : t.left ≤ m
    · have hd : decide ((t.left : Int) ≤ (m : Int)) = true := by simp; omega
      obtain ⟨e1, e2⟩ := Ps.tk_big hon k4 (by rw [← hL]; exact hge)
      rw [← hL] at e1 e2
      have HT : Hid (Ps.ok ⟨t.per, t.ov, true, 0, t.told + 1⟩ ∧ Ps.tk (m - t.left) ⟨t.per, t.ov, true, 0, t.told + 1⟩ = s.tk 65536 ∧ s.em 65536 = (acc ++ [(cnt t.ov (t.told + 1) : Int)]) ++ Ps.em (m - t.left) ⟨t.per, t.ov, true, 0, t.told + 1⟩) := ⟨⟨k1, k2, k3, by simp only; omega⟩, by rw [← e1, htk], by rw [hem, e2]; simp⟩
      have HN : Hid (∀ x, Gb g t.per t.ov (.int .u64 t.per) (.int .i64 (cnt t.ov (t.told + 1))) x → Pa g ⟨t.per, t.ov, true, 0, t.told + 1⟩ x) := fun x hx => hx
      have HG : Hid (Gb g t.per t.ov (.int .u64 t.left) (.int .i64 (cnt t.ov t.told)) wr) := hPa
      have HBe : Hid (∀ x : World, Calls Try.prog 27 #[.int .i64 (cnt t.ov t.told), .int .i64 t.ov] x fun e w' => e = .returned (.int .i64 (cnt t.ov (t.told + 1))) ∧ ∃ n, w' = x.drewN n) := fun x => by rw [cnt_next]; exact behind_any x _ _ (Nat.le_trans (cnt_le _ _) k3) k3
      have hl1 : 1 ≤ t.left := by omega
      have HO : Hid ((⟨t.per, t.ov, true, 0, t.told + 1⟩ : Ps).on = true) := rfl
      have HRT : Hid (RowI w.heap.size u5 acc wr ∧ Two g g w wr) := ⟨hrow, hTw⟩
      generalize hC1 : cnt t.ov (t.told + 1) = C1 at *
      generalize cnt t.ov t.told = C at *
      generalize (⟨t.per, t.ov, true, 0, t.told + 1⟩ : Ps) = t' at *
      generalize t.left = L at *
      generalize t.per = P at *
      generalize t.ov = O at *
      obtain ⟨m', hm'⟩ : ∃ m', m - L = m' := ⟨_, rfl⟩
      have hsub : (m : Int) - (L : Int) = (m' : Int) := by omega
      rw [hm'] at HT e1 e2
      clear e1 e2 hem htk hon hPa hL k4 hrow hTw hC1 H0
      have HM : Hid (m - L = m') := hm'
      clear hm'
      have HS0 : Hid (∀ y : World, (∃ a b, Gb g P O a b y) → y.cell? ⟨g, 0, none⟩ = some (.int .u64 (P : Int))) := fun y ⟨_, _, h⟩ => h.c0
      have HS1 : Hid (∀ y : World, (∃ a b, Gb g P O a b y) → y.cell? ⟨g, 1, none⟩ = some (.int .i64 (O : Int))) := fun y ⟨_, _, h⟩ => h.c1
      go_upto_region 7 with fail
      refine wp_region_held (S := fun y => ∃ a b, Gb g P O a b y) (by kernel_rfl) ?_
      obtain ⟨x1, hx1⟩ : ∃ x : World, { wr with drawn := wr.drawn + 1 } = x := ⟨_, rfl⟩
      have G1 : Gb g P O (.int .u64 (L : Int)) (.int .i64 (C : Int)) x1 := by rw [← hx1]; exact HG.out
      have T1 : Two g g wr x1 := by rw [← hx1]; exact (Two.refl g g wr).drawn 1
      rw [hx1]
      refine wpAnyH_take (i := 0) (v := (.pointer (some ⟨g, 0, none⟩))) rfl (by kernel_rfl) (by kernel_rfl) (by kernel_rfl) (fun _ _ _ h => h) (.inl ⟨rfl, fun _ hS => rfl⟩) ⟨_, _, G1⟩ ?_
      simp only [List.getElem_toArray, List.getElem_cons_succ, List.getElem_cons_zero, Act.put, List.setIfInBounds_toArray, List.set_cons_succ, List.set_cons_zero]
      refine wpAnyH_take (i := 1) (v := (.pointer (some ⟨g, 0, none⟩))) rfl (by kernel_rfl) (by kernel_rfl) (by kernel_rfl) (fun _ _ _ h => h) (.inl ⟨rfl, fun _ hS => rfl⟩) ⟨_, _, G1⟩ ?_
      simp only [List.getElem_toArray, List.getElem_cons_succ, List.getElem_cons_zero, Act.put, List.setIfInBounds_toArray, List.set_cons_succ, List.set_cons_zero]
      refine wpAnyH_take (i := 2) (v := (.pointer (some ⟨g, 0, none⟩))) rfl (by kernel_rfl) (by kernel_rfl) (by kernel_rfl) (fun _ _ _ h => h) (.inl ⟨rfl, fun _ hS => rfl⟩) ⟨_, _, G1⟩ ?_
      simp only [List.getElem_toArray, List.getElem_cons_succ, List.getElem_cons_zero, Act.put, List.setIfInBounds_toArray, List.set_cons_succ, List.set_cons_zero]
      refine wpAnyH_take (i := 3) (v := (.pointer (some ⟨g, 0, none⟩))) rfl (by kernel_rfl) (by kernel_rfl) (by kernel_rfl) (fun _ _ _ h => h) (.inl ⟨rfl, fun _ hS => by simp [execOp, go_sem, Act.eval]⟩) ⟨_, _, G1⟩ ?_
      simp only [List.getElem_toArray, List.getElem_cons_succ, List.getElem_cons_zero, Act.put, List.setIfInBounds_toArray, List.set_cons_succ, List.set_cons_zero]
      refine wpAnyH_take (i := 4) (v := (.pointer (some ⟨g, 0, none⟩))) rfl (by kernel_rfl) (by kernel_rfl) (by kernel_rfl) (fun _ _ _ h => h) (.inl ⟨rfl, fun _ hS => by simp [execOp, go_sem, Act.eval]⟩) ⟨_, _, G1⟩ ?_
      simp only [List.getElem_toArray, List.getElem_cons_succ, List.getElem_cons_zero, Act.put, List.setIfInBounds_toArray, List.set_cons_succ, List.set_cons_zero]
      refine wpAnyH_take (i := 5) (v := (.int .u64 (P : Int))) rfl (by kernel_rfl) (by kernel_rfl) (by kernel_rfl) (fun _ _ _ h => h) (.inl ⟨rfl, fun _ hS => exec_load rfl rfl (load_u64 _ _ _ _ (HS0.out _ hS))⟩) ⟨_, _, G1⟩ ?_
      simp only [List.getElem_toArray, List.getElem_cons_succ, List.getElem_cons_zero, Act.put, List.setIfInBounds_toArray, List.set_cons_succ, List.set_cons_zero]
      refine wpAnyH_take (i := 6) (v := (.pointer (some ⟨g, 0, none⟩))) rfl (by kernel_rfl) (by kernel_rfl) (by kernel_rfl) (fun _ _ _ h => h) (.inl ⟨rfl, fun _ hS => rfl⟩) ⟨_, _, G1⟩ ?_
      simp only [List.getElem_toArray, List.getElem_cons_succ, List.getElem_cons_zero, Act.put, List.setIfInBounds_toArray, List.set_cons_succ, List.set_cons_zero]
      refine wpAnyH_take (i := 7) (v := (.pointer (some ⟨g, 0, none⟩))) rfl (by kernel_rfl) (by kernel_rfl) (by kernel_rfl) (fun _ _ _ h => h) (.inl ⟨rfl, fun _ hS => by simp [execOp, go_sem, Act.eval]⟩) ⟨_, _, G1⟩ ?_
      simp only [List.getElem_toArray, List.getElem_cons_succ, List.getElem_cons_zero, Act.put, List.setIfInBounds_toArray, List.set_cons_succ, List.set_cons_zero]
      refine wpAnyH_take (i := 8) (v := (.pointer (some ⟨g, 3, none⟩))) rfl (by kernel_rfl) (by kernel_rfl) (by kernel_rfl) (fun _ _ _ h => h) (.inl ⟨rfl, fun _ hS => by simp [execOp, go_sem, Act.eval]⟩) ⟨_, _, G1⟩ ?_
      simp only [List.getElem_toArray, List.getElem_cons_succ, List.getElem_cons_zero, Act.put, List.setIfInBounds_toArray, List.set_cons_succ, List.set_cons_zero]
      refine wpAnyH_take (i := 10) (v := (.pointer (some ⟨g, 0, none⟩))) rfl (by kernel_rfl) (by kernel_rfl) (by kernel_rfl) (fun _ _ _ h => h) (.inl ⟨rfl, fun _ hS => rfl⟩) ⟨_, _, G1⟩ ?_
      simp only [List.getElem_toArray, List.getElem_cons_succ, List.getElem_cons_zero, Act.put, List.setIfInBounds_toArray, List.set_cons_succ, List.set_cons_zero]
      refine wpAnyH_take (i := 11) (v := (.pointer (some ⟨g, 0, none⟩))) rfl (by kernel_rfl) (by kernel_rfl) (by kernel_rfl) (fun _ _ _ h => h) (.inl ⟨rfl, fun _ hS => by simp [execOp, go_sem, Act.eval]⟩) ⟨_, _, G1⟩ ?_
      simp only [List.getElem_toArray, List.getElem_cons_succ, List.getElem_cons_zero, Act.put, List.setIfInBounds_toArray, List.set_cons_succ, List.set_cons_zero]
      refine wpAnyH_take (i := 12) (v := (.pointer (some ⟨g, 1, none⟩))) rfl (by kernel_rfl) (by kernel_rfl) (by kernel_rfl) (fun _ _ _ h => h) (.inl ⟨rfl, fun _ hS => by simp [execOp, go_sem, Act.eval]⟩) ⟨_, _, G1⟩ ?_
      simp only [List.getElem_toArray, List.getElem_cons_succ, List.getElem_cons_zero, Act.put, List.setIfInBounds_toArray, List.set_cons_succ, List.set_cons_zero]
      refine wpAnyH_take (i := 13) (v := (.int .i64 (O : Int))) rfl (by kernel_rfl) (by kernel_rfl) (by kernel_rfl) (fun _ _ _ h => h) (.inl ⟨rfl, fun _ hS => exec_load rfl rfl (load_int _ _ _ _ (HS1.out _ hS))⟩) ⟨_, _, G1⟩ ?_
      simp only [List.getElem_toArray, List.getElem_cons_succ, List.getElem_cons_zero, Act.put, List.setIfInBounds_toArray, List.set_cons_succ, List.set_cons_zero]
      refine wpAnyH_all (rs := [9]) (by kernel_rfl) (by simp) ?_
      intro k hk
      simp only [List.mem_cons, List.mem_nil_iff, or_false] at hk
      subst hk
      refine wpOp_run rfl rfl (wp_load_cell 3 _ rfl g 3 rfl (.int .i64 (C : Int)) (load_int _ _ _ _ G1.c3) ?_)
      refine ⟨⟨_, _, G1⟩, ?_⟩
      simp only [List.getElem_toArray, List.getElem_cons_succ, List.getElem_cons_zero, Act.put, List.setIfInBounds_toArray, List.set_cons_succ, List.set_cons_zero]
      refine wpAnyH_all (rs := [14]) (by kernel_rfl) (by simp) ?_
      intro k hk
      simp only [List.mem_cons, List.mem_nil_iff, or_false] at hk
      subst hk
      refine wpOp_run rfl rfl (wp_call_fn 27 #[.int .i64 (C : Int), .int .i64 (O : Int)] (by simp [execOp, go_sem, Act.eval, resolve, invoke, enterBe]) ?_)
      refine (HBe.out _).mono ?_
      rintro e x2 ⟨rfl, nb, rfl⟩
      have G2 : Gb g P O (.int .u64 (L : Int)) (.int .i64 (C : Int)) (x1.drewN nb) := G1
      have T2 : Two g g wr (x1.drewN nb) := T1.drawn nb
      refine ⟨⟨_, _, G2⟩, ?_⟩
      simp only [List.getElem_toArray, List.getElem_cons_succ, List.getElem_cons_zero, Act.put, List.setIfInBounds_toArray, List.set_cons_succ, List.set_cons_zero]
      refine wpAnyH_take (i := 15) (v := (.pointer (some ⟨g, 0, none⟩))) rfl (by kernel_rfl) (by kernel_rfl) (by kernel_rfl) (fun _ _ _ h => h) (.inl ⟨rfl, fun _ hS => by simp [execOp, go_sem, Act.eval]⟩) ⟨_, _, G2⟩ ?_
      simp only [List.getElem_toArray, List.getElem_cons_succ, List.getElem_cons_zero, Act.put, List.setIfInBounds_toArray, List.set_cons_succ, List.set_cons_zero]
      refine wpAnyH_take (i := 16) (v := (.pointer (some ⟨g, 2, none⟩))) rfl (by kernel_rfl) (by kernel_rfl) (by kernel_rfl) (fun _ _ _ h => h) (.inl ⟨rfl, fun _ hS => by simp [execOp, go_sem, Act.eval]⟩) ⟨_, _, G2⟩ ?_
      simp only [List.getElem_toArray, List.getElem_cons_succ, List.getElem_cons_zero, Act.put, List.setIfInBounds_toArray, List.set_cons_succ, List.set_cons_zero]
      refine wpAnyH_all (rs := [17]) (by kernel_rfl) (by simp) ?_
      intro k hk
      simp only [List.mem_cons, List.mem_nil_iff, or_false] at hk
      subst hk
      refine wpOp_run rfl rfl (wp_store_cell 22 _ _ rfl g 2 rfl (.int .u64 (P : Int)) rfl (store_u64 _ _ _ _ _ G2.c2 (G2.fr 2)) ?_)
      have G3 := G2.set2 (.int .u64 (P : Int))
      have T3 := T2.at0 2 (.int .u64 (P : Int))
      refine ⟨⟨_, _, G3⟩, ?_⟩
      simp only [List.getElem_toArray, List.getElem_cons_succ, List.getElem_cons_zero, Act.put, List.setIfInBounds_toArray, List.set_cons_succ, List.set_cons_zero]
      refine wpAnyH_take (i := 18) (v := (.pointer (some ⟨g, 0, none⟩))) rfl (by kernel_rfl) (by kernel_rfl) (by kernel_rfl) (fun _ _ _ h => h) (.inl ⟨rfl, fun _ hS => by simp [execOp, go_sem, Act.eval]⟩) ⟨_, _, G3⟩ ?_
      simp only [List.getElem_toArray, List.getElem_cons_succ, List.getElem_cons_zero, Act.put, List.setIfInBounds_toArray, List.set_cons_succ, List.set_cons_zero]
      refine wpAnyH_take (i := 19) (v := (.pointer (some ⟨g, 3, none⟩))) rfl (by kernel_rfl) (by kernel_rfl) (by kernel_rfl) (fun _ _ _ h => h) (.inl ⟨rfl, fun _ hS => by simp [execOp, go_sem, Act.eval]⟩) ⟨_, _, G3⟩ ?_
      simp only [List.getElem_toArray, List.getElem_cons_succ, List.getElem_cons_zero, Act.put, List.setIfInBounds_toArray, List.set_cons_succ, List.set_cons_zero]
      refine wpAnyH_all (rs := [20]) (by kernel_rfl) (by simp) ?_
      intro k hk
      simp only [List.mem_cons, List.mem_nil_iff, or_false] at hk
      subst hk
      refine wpOp_run rfl rfl (wp_store_cell 3 _ _ rfl g 3 rfl (.int .i64 (C1 : Int)) rfl (store_int _ _ _ _ _ G3.c3 (G3.fr 3)) ?_)
      have G4 := G3.set3 (.int .i64 (C1 : Int))
      have T4 := T3.at0 3 (.int .i64 (C1 : Int))
      refine ⟨⟨_, _, G4⟩, ?_⟩
      simp only [List.getElem_toArray, List.getElem_cons_succ, List.getElem_cons_zero, Act.put, List.setIfInBounds_toArray, List.set_cons_succ, List.set_cons_zero]
      refine wpAnyH_done (by kernel_rfl) ?_ _
      have HP2 := HN.out _ G4
      have c3 := G4.c3
      have R4 := HRT.out.1.two T4 hgw
      have T5 := HRT.out.2.trans T4
      have hsz4 := T5.size
      obtain ⟨x4, hx4⟩ : ∃ x4, ((x1.drewN nb).setCell ⟨g, 2, none⟩ (.int .u64 (P : Int))).setCell ⟨g, 3, none⟩ (.int .i64 (C1 : Int)) = x4 := ⟨_, rfl⟩
      rw [hx4] at HP2 c3 R4 T5 hsz4 ⊢
      clear G4 T4 G3 T3 G2 T2 G1 T1 HG HBe HS0 HS1 hx1 hx4 HN HRT hf f2 c0 c1 c2
      have HH : Hid (Pa g t' x4 ∧ Two g g w x4 ∧ RowI w.heap.size u5 acc x4) := ⟨HP2, T5, R4⟩
      unfold RowI at R4
      clear HP2 T5
      go_wp2_with (at_builtin; refine wpList_plain rfl fun _ hK => wp_append_own _ _ _ 36 rfl w.heap.size 3 i0 (.int .i64 0) 1 8 Try.underlying36 hi0 hz0 hz1 hz2 rfl (by decide) _ _ _ rfl (R4.alloc _) ⟨x4.heap.size, 0, none⟩ 1 1 [.int .i64 (C1 : Int)] rfl rfl (cell_one_new _ _ _) (by simp [Value.oneCell']) (by unfold maxLen at *; omega) (by omega) (by simp; omega) ?_; intro v' w5 hown' hg5 _; refine hK _ _ ?_; go_frame)
      obtain ⟨p1, p2, p3⟩ := HH.out
      have q1 : RowI w.heap.size v' (acc ++ [(C1 : Int)]) w5 := by unfold RowI; simpa using hown'
      have p3' : RowI w.heap.size u5 acc (x4.alloc (.cells #[.int .i64 (C1 : Int)] 3)) := World.ownsRow.alloc p3 _
      have q2 := (p1.alloc (.cells #[.int .i64 (C1 : Int)] 3)).grown p3' hgw hg5
      have q3 := (p2.alloc (.cells #[.int .i64 (C1 : Int)] 3)).grown (B := 0) p3' hg5
      have HQ : Hid (RowI w.heap.size v' (acc ++ [(C1 : Int)]) w5 ∧ Pa g t' w5 ∧ Two g g w w5) := ⟨q1, q2, q3⟩
      clear p1 p2 p3 p3' q1 q2 q3 hown' hg5 HH R4
      try go_wp2
      go_roundw
      case rel =>
        obtain ⟨q1, q2, q3⟩ := HQ.out
        obtain ⟨r1, r2, r3⟩ := HT.out
        have hm := HM.out
        exact ⟨m', t', acc ++ [(C1 : Int)], rfl, by omega, r1, HO.out, r2, r3, by simp; omega, q1, q2, q3⟩
      case measure =>
        have hm := HM.out
        simp [intOf]
        omega
    · have hd : decide ((t.left : Int) ≤ (m : Int)) = false := by simp; omega
      obtain ⟨e1, e2⟩ := Ps.tk_small hon (n := m) (by omega)
      rw [e2, List.append_nil] at hem
      have hl9 : (⟨t.per, t.ov, true, t.went + m, t.told⟩ : Ps).left = t.left - m := by rw [hL]; simp [Ps.left]; omega
      have hP9 := hPa.set2 ⟨t.per, t.ov, true, t.went + m, t.told⟩ rfl rfl rfl
      rw [hl9] at hP9
      have hsub : (t.left : Int) - (m : Int) = ((t.left - m : Nat) : Int) := by omega
      have hT9 := hTw.at0 2 (.int .u64 ((t.left - m : Nat) : Int))
      have hR9 := hrow.two ((Two.refl g g wr).at0 2 (.int .u64 ((t.left - m : Nat) : Int))) hgw
      rw [← hem] at hR9
      rw [← e1, htk] at hP9
      have HH : Hid (RowI w.heap.size u5 (s.em 65536) (wr.setCell ⟨g, 2, none⟩ (.int .u64 ((t.left - m : Nat) : Int))) ∧ Pa g (s.tk 65536) (wr.setCell ⟨g, 2, none⟩ (.int .u64 ((t.left - m : Nat) : Int))) ∧ Two g g w (wr.setCell ⟨g, 2, none⟩ (.int .u64 ((t.left - m : Nat) : Int)))) := ⟨hR9, hP9, hT9⟩
      have hlb : t.left ≤ 4294967296 := by omega
      generalize hm' : t.left - m = m' at *
      clear hP9 hT9 hR9 hem htk e1 e2 hPa hTw hrow hl9 hL H0 HE hon
      generalize t.left = L at *
      clear hm'
      go_wp2
      go_ret
      exact ⟨_, rfl, HH.out⟩

theorem tick_any (hk : s.ok) (h : Pa g s w) (n : Nat) : Calls Try.prog 12 #[.pointer (some ⟨g, 0, none⟩), .int .u64 n] w fun e w' => ∃ v, e = .returned v ∧ RowI w.heap.size v (s.em (min n 65536)) w' ∧ Pa g (s.tk (min n 65536)) w' ∧ Two g g w w' := by
  cases ho : s.on
  · refine (tick_off hk h ho n).mono ?_
    rintro e w' ⟨rfl, rfl⟩
    obtain ⟨e1, e2⟩ := Ps.tk_off (min n 65536) ho
    rw [e1, e2]
    exact ⟨_, rfl, World.ownsRow_nil _ _ _ _, h, Two.refl _ _ _⟩
  · by_cases hn : n ≤ 65536
    · rw [Nat.min_eq_left hn]
      exact tick_lo hk h ho n hn
    · rw [Nat.min_eq_right (by omega)]
      exact tick_hi hk h ho n (by omega)
end
end Go.Proofs.Ytnmjeomhmmfgmaa
