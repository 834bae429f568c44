/- The law NmtAsks where there is such a command to such a node; the whole. -/
import Derived.Test.YtjifoeponfeffaaLawNAsk
import Derived.Test.YtjifoeponfeffaaDwX
import Derived.Deep.RegionHeld3
namespace Go.Proofs.Ytjifoeponfeffaa
open Go.RowKit
set_option linter.unusedVariables false
set_option maxRecDepth 1000000
set_option linter.unusedSimpArgs false
theorem bytes_pair (w : World) (x y : UInt8) : Bytes (w.alloc (.cells #[.int .u8 x.toNat, .int .u8 y.toNat] 5)) (.slice (some ⟨w.heap.size, 0, none⟩) 2 2) [x, y] := by
  have hh := heap_alloc_new w (.cells #[.int .u8 x.toNat, .int .u8 y.toNat] 5)
  refine ⟨_, 2, rfl, (fun h => by cases h), fun k hk => ⟨w.heap.size, 0, rfl, by simp, ?_⟩⟩
  rw [Nat.zero_add, Lib.cell_of_heap hh k]
  match k, hk with
  | 0, _ => rfl
  | 1, _ => rfl
theorem enterA : ∀ args x, (callFunc 21 args).run Try.prog x = .ok (.enter 21 args) x := fun _ _ => by rfl
theorem enterD : ∀ args x, (callFunc 22 args).run Try.prog x = .ok (.enter 22 args) x := fun _ _ => by rfl
theorem enterL : ∀ args x, (callFunc 9 args).run Try.prog x = .ok (.enter 9 args) x := fun _ _ => by rfl
theorem exec_convN {a : Act} {o : Oper} {x : Operand} {t u : TypeId} {v r : Value} {w : World} (ho : o.op = .convert t u x) (hx : a.eval x = v) (hr : (convert t u v).run Try.prog w = .ok r w) : (execOp a.eval o).run Try.prog w = .ok (.value r) w := by
  unfold execOp
  simp only [ho, hx, Sem.run_bind, Sem.run_pure, hr, Result.andThen_ok]
theorem exec_convB {a : Act} {o : Oper} {x : Operand} {m : Nat} (ho : o.op = .convert 3 5 x) (hx : a.eval x = .int .i64 (m : Int)) (hm : m < 256) (w : World) : (execOp a.eval o).run Try.prog w = .ok (.value (.int .u8 (m : Int))) w := by
  have := wrU8 m hm
  unfold execOp
  simp only [ho, hx]
  simp [go_sem, convert, run_underlying Try.underlying3, run_underlying Try.underlying5, this]
theorem wp_bs2n {o : Oper} {a : Act} {w : World} {K : Act → World → Prop} {Q : Exit → Act → World → Prop} (x y : Operand) (ho : o.op = .buildSlice 31 2 #[(0, x), (1, y)]) (p q : Int) (hx : a.eval x = .int .u8 p) (hy : a.eval y = .int .u8 q)
    (h : K (a.put o.dst (.slice (some ⟨w.heap.size, 0, none⟩) 2 2)) (w.alloc (.cells #[.int .u8 p, .int .u8 q] 5))) : o.wp Try.prog a w K Q := by
  obtain ⟨i0, hi0, hz0, hz1, hz2⟩ := info_parts info5
  unfold Oper.wp execOp
  simp only [ho, List.map_toArray, List.map_cons, List.map_nil, hx, hy]
  simp [Instr.buildSlice, go_sem, run_underlying Try.underlying31, zeroValue, sizeOf, typeInfo, hi0, hz0, hz1, Instr.fill]
  exact h
set_option maxHeartbeats 16000000 in
theorem nask_ok (st wh : Int) (x y : UInt8) (w : World) (h1 : isC x.toNat = true) (h2 : y.toNat ≤ 127) : Calls Try.prog 4 #[.agg #[.int .i64 st, .int .i64 wh, .int .i64 x.toNat, .int .i64 y.toNat]] w fun r w' => r = .returned (.bool true) ∧ Below w.heap.size w w' := by
  have hC := fun w => cmd_ok w x.toNat y.toNat h1 h2
  have hI := fun w => is_yes w x.toNat h1
  have hA : ∀ x, Calls Try.prog 21 #[.int .i64 st, .int .i64 wh] x fun e w' => e = .returned (.bool (may st wh)) ∧ w' = x := fun x => allows_any x st wh
  have hD : ∀ x, Calls Try.prog 22 #[.int .i64 st, .int .i64 wh] x fun e w' => e = .returned (.bool (may st wh)) ∧ w' = x := fun x => dallows_any x st wh
  have hL := fun x => lives17_any x
  generalize may st wh = m at *
  have e1 : IntKind.u8.wrap (x.toNat : Int) = x.toNat := wrU8 _ (u8n x)
  have e2 : IntKind.u8.wrap (y.toNat : Int) = y.toNat := wrU8 _ (u8n y)
  have d1 : decide ((y.toNat : Int) < 0) = false := by simp
  have d2 : decide (127 < (y.toNat : Int)) = false := by simp; omega
  clear h1 h2
  obtain ⟨X, hX⟩ : ∃ z, w.alloc (.cells #[.int .i64 st, .int .i64 wh, .int .i64 x.toNat, .int .i64 y.toNat] 43) = z := ⟨_, rfl⟩
  have BX : Below w.heap.size w X := by rw [← hX]; exact (Below.refl _ _).alloc (Nat.le_refl _) _
  obtain ⟨p, hp⟩ : ∃ p, w.heap.size = p := ⟨_, rfl⟩
  have FX : Bc 43 p #[.int .i64 st, .int .i64 wh, .int .i64 x.toNat, .int .i64 y.toNat] X := by rw [← hX, ← hp]; exact heap_alloc_new w _
  have x2 : X.cell? ⟨p, 2, none⟩ = some (.int .i64 x.toNat) := Bc.cell FX 2
  have x3 : X.cell? ⟨p, 3, none⟩ = some (.int .i64 y.toNat) := Bc.cell FX 3
  rw [hp] at BX ⊢
  obtain ⟨q, hq⟩ : ∃ q, X.heap.size = q := ⟨_, rfl⟩
  have hpq : p < q := by have := Bc.lt FX; omega
  obtain ⟨Y, hY⟩ : ∃ z, X.alloc (.cells #[.int .u8 x.toNat, .int .u8 y.toNat] 5) = z := ⟨_, rfl⟩
  have hBq : Bytes Y (.slice (some ⟨q, 0, none⟩) 2 2) [x, y] := by rw [← hY, ← hq]; exact bytes_pair X x y
  have FY : Bc 43 p #[.int .i64 st, .int .i64 wh, .int .i64 x.toNat, .int .i64 y.toNat] Y := by rw [← hY]; exact Bc.alloc FX _
  have BY : Below p w Y := by rw [← hY]; exact BX.alloc (by omega) _
  have y0 : Y.cell? ⟨p, 0, none⟩ = some (.int .i64 st) := Bc.cell FY 0
  have y1 : Y.cell? ⟨p, 1, none⟩ = some (.int .i64 wh) := Bc.cell FY 1
  have y2 : Y.cell? ⟨p, 2, none⟩ = some (.int .i64 x.toNat) := Bc.cell FY 2
  have y3 : Y.cell? ⟨p, 3, none⟩ = some (.int .i64 y.toNat) := Bc.cell FY 3
  have hpY : p < Y.heap.size := Bc.lt FY
  have t1 : (convert 31 9 (.slice (some ⟨q, 0, none⟩) 2 2)).run Try.prog Y.drew = .ok (.string ⟨[x, y].toArray⟩) Y.drew := (hBq.below (below_drawn (Below.refl _ _) 1)).text
  have t2 : (convert 31 9 (.slice (some ⟨q, 0, none⟩) 2 2)).run Try.prog (Y.alloc (.cells #[.int .u8 x.toNat, .int .u8 y.toNat] 5)).drew = .ok (.string ⟨[x, y].toArray⟩) (Y.alloc (.cells #[.int .u8 x.toNat, .int .u8 y.toNat] 5)).drew := (hBq.below ((below_drawn (Below.refl _ _) 1).alloc (Nat.le_refl _) _)).text
  have t3 : (convert 31 9 (.slice (some ⟨Y.heap.size, 0, none⟩) 2 2)).run Try.prog (Y.alloc (.cells #[.int .u8 x.toNat, .int .u8 y.toNat] 5)).drew = .ok (.string ⟨[x, y].toArray⟩) (Y.alloc (.cells #[.int .u8 x.toNat, .int .u8 y.toNat] 5)).drew := (bytes_pair Y.drew x y).text
  have HB : Hid (Below p w Y) := BY
  have HK : Hid (∀ z, Below Y.heap.size Y z → z.cell? ⟨p, 0, none⟩ = some (.int .i64 st) ∧ z.cell? ⟨p, 1, none⟩ = some (.int .i64 wh) ∧ z.cell? ⟨p, 2, none⟩ = some (.int .i64 x.toNat) ∧ z.cell? ⟨p, 3, none⟩ = some (.int .i64 y.toNat) ∧ (convert 31 9 (.slice (some ⟨q, 0, none⟩) 2 2)).run Try.prog z = .ok (.string ⟨[x, y].toArray⟩) z) := fun z hz => ⟨Bc.cell (Bc.below FY hz) 0, Bc.cell (Bc.below FY hz) 1, Bc.cell (Bc.below FY hz) 2, Bc.cell (Bc.below FY hz) 3, (hBq.below hz).text⟩
  have bR : Below Y.heap.size Y Y.drew := below_drawn (Below.refl _ _) 1
  have bA : Below Y.heap.size Y (Y.alloc (.cells #[.int .u8 x.toNat, .int .u8 y.toNat] 5)).drew := below_drawn ((Below.refl _ _).alloc (Nat.le_refl _) _) 1
  have bA2 : Below Y.heap.size Y (Y.drew.alloc (.cells #[.int .u8 x.toNat, .int .u8 y.toNat] 5)) := bA
  clear FX FY BX BY hBq
  go_enter Try.func4, Try.ntmps4
  go_upto_region 1 with fail
  clear hX
  go_upto_region 4 with (first | (go_at_call 19; refine (hC _).mono ?_; rintro r w1 ⟨rfl, hw⟩; rw [hw]) | (go_at_call 20; refine (hI _).mono ?_; rintro r w1 ⟨rfl, hw⟩; rw [hw]))
  clear hY x2 x3 y0 y1 y2 y3
  have s0 := HK.out _ bR
  refine wp_region_held (S := fun z : World => z.cell? ⟨p, 0, none⟩ = some (.int .i64 st) ∧ z.cell? ⟨p, 1, none⟩ = some (.int .i64 wh) ∧ z.cell? ⟨p, 2, none⟩ = some (.int .i64 x.toNat) ∧ z.cell? ⟨p, 3, none⟩ = some (.int .i64 y.toNat) ∧ (convert 31 9 (.slice (some ⟨q, 0, none⟩) 2 2)).run Try.prog z = .ok (.string ⟨[x, y].toArray⟩) z) (by kernel_rfl) ?_
  change wpAnyH _ _ _ _ _ _ _ _ Y.drew
  refine wpAnyH_take (i := 0) (v := (.int .i64 0)) rfl (by kernel_rfl) (by kernel_rfl) (by kernel_rfl) (fun _ _ _ h => h) (.inl ⟨rfl, fun _ hS => rfl⟩) s0 ?_
  simp only [List.getElem_toArray, List.getElem_cons_succ, List.getElem_cons_zero, Act.put, List.setIfInBounds_toArray, List.set_cons_succ, List.set_cons_zero]
  refine wpAnyH_take (i := 1) (v := (.bool true)) rfl (by kernel_rfl) (by kernel_rfl) (by kernel_rfl) (fun _ _ _ h => h) (.inl ⟨rfl, fun _ hS => by go_simp⟩) s0 ?_
  simp only [List.getElem_toArray, List.getElem_cons_succ, List.getElem_cons_zero, Act.put, List.setIfInBounds_toArray, List.set_cons_succ, List.set_cons_zero]
  refine wpAnyH_take (i := 2) (v := (.bool true)) rfl (by kernel_rfl) (by kernel_rfl) (by kernel_rfl) (fun _ _ _ h => h) (.inl ⟨rfl, fun _ hS => rfl⟩) s0 ?_
  simp only [List.getElem_toArray, List.getElem_cons_succ, List.getElem_cons_zero, Act.put, List.setIfInBounds_toArray, List.set_cons_succ, List.set_cons_zero]
  refine wpAnyH_take (i := 3) (v := (.slice (some ⟨q, 0, none⟩) 2 2)) rfl (by kernel_rfl) (by kernel_rfl) (by kernel_rfl) (fun _ _ _ h => h) (.inl ⟨rfl, fun _ hS => rfl⟩) s0 ?_
  simp only [List.getElem_toArray, List.getElem_cons_succ, List.getElem_cons_zero, Act.put, List.setIfInBounds_toArray, List.set_cons_succ, List.set_cons_zero]
  refine wpAnyH_take (i := 4) (v := (.string ⟨[x, y].toArray⟩)) rfl (by kernel_rfl) (by kernel_rfl) (by kernel_rfl) (fun _ _ _ h => h) (.inl ⟨rfl, fun _ hS => exec_convN rfl rfl hS.2.2.2.2⟩) s0 ?_
  simp only [List.getElem_toArray, List.getElem_cons_succ, List.getElem_cons_zero, Act.put, List.setIfInBounds_toArray, List.set_cons_succ, List.set_cons_zero]
  refine wpAnyH_take (i := 5) (v := (.pointer (some ⟨p, 2, none⟩))) rfl (by kernel_rfl) (by kernel_rfl) (by kernel_rfl) (fun _ _ _ h => h) (.inl ⟨rfl, fun _ hS => by simp [execOp, go_sem, Act.eval]⟩) s0 ?_
  simp only [List.getElem_toArray, List.getElem_cons_succ, List.getElem_cons_zero, Act.put, List.setIfInBounds_toArray, List.set_cons_succ, List.set_cons_zero]
  refine wpAnyH_take (i := 6) (v := (.int .i64 (x.toNat : Nat))) rfl (by kernel_rfl) (by kernel_rfl) (by kernel_rfl) (fun _ _ _ h => h) (.inl ⟨rfl, fun _ hS => exec_load rfl rfl (load_int _ _ _ _ hS.2.2.1)⟩) s0 ?_
  simp only [List.getElem_toArray, List.getElem_cons_succ, List.getElem_cons_zero, Act.put, List.setIfInBounds_toArray, List.set_cons_succ, List.set_cons_zero]
  refine wpAnyH_take (i := 7) (v := (.int .u8 (x.toNat : Nat))) rfl (by kernel_rfl) (by kernel_rfl) (by kernel_rfl) (fun _ _ _ h => h) (.inl ⟨rfl, fun _ hS => exec_convB rfl rfl (u8n x) _⟩) s0 ?_
  simp only [List.getElem_toArray, List.getElem_cons_succ, List.getElem_cons_zero, Act.put, List.setIfInBounds_toArray, List.set_cons_succ, List.set_cons_zero]
  refine wpAnyH_take (i := 8) (v := (.pointer (some ⟨p, 3, none⟩))) rfl (by kernel_rfl) (by kernel_rfl) (by kernel_rfl) (fun _ _ _ h => h) (.inl ⟨rfl, fun _ hS => by simp [execOp, go_sem, Act.eval]⟩) s0 ?_
  simp only [List.getElem_toArray, List.getElem_cons_succ, List.getElem_cons_zero, Act.put, List.setIfInBounds_toArray, List.set_cons_succ, List.set_cons_zero]
  refine wpAnyH_take (i := 9) (v := (.int .i64 (y.toNat : Nat))) rfl (by kernel_rfl) (by kernel_rfl) (by kernel_rfl) (fun _ _ _ h => h) (.inl ⟨rfl, fun _ hS => exec_load rfl rfl (load_int _ _ _ _ hS.2.2.2.1)⟩) s0 ?_
  simp only [List.getElem_toArray, List.getElem_cons_succ, List.getElem_cons_zero, Act.put, List.setIfInBounds_toArray, List.set_cons_succ, List.set_cons_zero]
  refine wpAnyH_take (i := 10) (v := (.int .u8 (y.toNat : Nat))) rfl (by kernel_rfl) (by kernel_rfl) (by kernel_rfl) (fun _ _ _ h => h) (.inl ⟨rfl, fun _ hS => exec_convB rfl rfl (u8n y) _⟩) s0 ?_
  simp only [List.getElem_toArray, List.getElem_cons_succ, List.getElem_cons_zero, Act.put, List.setIfInBounds_toArray, List.set_cons_succ, List.set_cons_zero]
  refine wpAnyH_all (rs := [11]) (by kernel_rfl) (by simp) ?_
  intro k hk
  simp only [List.mem_cons, List.mem_nil_iff, or_false] at hk
  subst hk
  refine wpOp_runw rfl rfl (wp_bs2n _ _ rfl _ _ rfl rfl ?_)
  have s1 := HK.out _ bA
  refine ⟨s1, ?_⟩
  simp only [List.getElem_toArray, List.getElem_cons_succ, List.getElem_cons_zero, Act.put, List.setIfInBounds_toArray, List.set_cons_succ, List.set_cons_zero]
  refine wpAnyH_all (rs := [12]) (by kernel_rfl) (by simp) ?_
  intro k hk
  simp only [List.mem_cons, List.mem_nil_iff, or_false] at hk
  subst hk
  refine wpOp_runw rfl rfl ?_
  unfold Oper.wp
  rw [exec_convN rfl rfl t3]
  refine ⟨s1, ?_⟩
  simp only [List.getElem_toArray, List.getElem_cons_succ, List.getElem_cons_zero, Act.put, List.setIfInBounds_toArray, List.set_cons_succ, List.set_cons_zero]
  refine wpAnyH_take (i := 13) (v := (.bool true)) rfl (by kernel_rfl) (by kernel_rfl) (by kernel_rfl) (fun _ _ _ h => h) (.inl ⟨rfl, fun _ hS => by go_simp⟩) s1 ?_
  simp only [List.getElem_toArray, List.getElem_cons_succ, List.getElem_cons_zero, Act.put, List.setIfInBounds_toArray, List.set_cons_succ, List.set_cons_zero]
  refine wpAnyH_take (i := 14) (v := (.bool true)) rfl (by kernel_rfl) (by kernel_rfl) (by kernel_rfl) (fun _ _ _ h => h) (.inl ⟨rfl, fun _ hS => by go_simp⟩) s1 ?_
  simp only [List.getElem_toArray, List.getElem_cons_succ, List.getElem_cons_zero, Act.put, List.setIfInBounds_toArray, List.set_cons_succ, List.set_cons_zero]
  refine wpAnyH_take (i := 15) (v := (.bool true)) rfl (by kernel_rfl) (by kernel_rfl) (by kernel_rfl) (fun _ _ _ h => h) (.inl ⟨rfl, fun _ hS => rfl⟩) s1 ?_
  simp only [List.getElem_toArray, List.getElem_cons_succ, List.getElem_cons_zero, Act.put, List.setIfInBounds_toArray, List.set_cons_succ, List.set_cons_zero]
  refine wpAnyH_take (i := 16) (v := (.pointer (some ⟨p, 0, none⟩))) rfl (by kernel_rfl) (by kernel_rfl) (by kernel_rfl) (fun _ _ _ h => h) (.inl ⟨rfl, fun _ hS => by simp [execOp, go_sem, Act.eval]⟩) s1 ?_
  simp only [List.getElem_toArray, List.getElem_cons_succ, List.getElem_cons_zero, Act.put, List.setIfInBounds_toArray, List.set_cons_succ, List.set_cons_zero]
  refine wpAnyH_take (i := 17) (v := (.int .i64 st)) rfl (by kernel_rfl) (by kernel_rfl) (by kernel_rfl) (fun _ _ _ h => h) (.inl ⟨rfl, fun _ hS => exec_load rfl rfl (load_int _ _ _ _ hS.1)⟩) s1 ?_
  simp only [List.getElem_toArray, List.getElem_cons_succ, List.getElem_cons_zero, Act.put, List.setIfInBounds_toArray, List.set_cons_succ, List.set_cons_zero]
  refine wpAnyH_take (i := 18) (v := (.pointer (some ⟨p, 1, none⟩))) rfl (by kernel_rfl) (by kernel_rfl) (by kernel_rfl) (fun _ _ _ h => h) (.inl ⟨rfl, fun _ hS => by simp [execOp, go_sem, Act.eval]⟩) s1 ?_
  simp only [List.getElem_toArray, List.getElem_cons_succ, List.getElem_cons_zero, Act.put, List.setIfInBounds_toArray, List.set_cons_succ, List.set_cons_zero]
  refine wpAnyH_take (i := 19) (v := (.int .i64 wh)) rfl (by kernel_rfl) (by kernel_rfl) (by kernel_rfl) (fun _ _ _ h => h) (.inl ⟨rfl, fun _ hS => exec_load rfl rfl (load_int _ _ _ _ hS.2.1)⟩) s1 ?_
  simp only [List.getElem_toArray, List.getElem_cons_succ, List.getElem_cons_zero, Act.put, List.setIfInBounds_toArray, List.set_cons_succ, List.set_cons_zero]
  refine wpAnyH_take (i := 21) (v := (.pointer (some ⟨p, 0, none⟩))) rfl (by kernel_rfl) (by kernel_rfl) (by kernel_rfl) (fun _ _ _ h => h) (.inl ⟨rfl, fun _ hS => by simp [execOp, go_sem, Act.eval]⟩) s1 ?_
  simp only [List.getElem_toArray, List.getElem_cons_succ, List.getElem_cons_zero, Act.put, List.setIfInBounds_toArray, List.set_cons_succ, List.set_cons_zero]
  refine wpAnyH_take (i := 22) (v := (.int .i64 st)) rfl (by kernel_rfl) (by kernel_rfl) (by kernel_rfl) (fun _ _ _ h => h) (.inl ⟨rfl, fun _ hS => exec_load rfl rfl (load_int _ _ _ _ hS.1)⟩) s1 ?_
  simp only [List.getElem_toArray, List.getElem_cons_succ, List.getElem_cons_zero, Act.put, List.setIfInBounds_toArray, List.set_cons_succ, List.set_cons_zero]
  refine wpAnyH_take (i := 23) (v := (.pointer (some ⟨p, 1, none⟩))) rfl (by kernel_rfl) (by kernel_rfl) (by kernel_rfl) (fun _ _ _ h => h) (.inl ⟨rfl, fun _ hS => by simp [execOp, go_sem, Act.eval]⟩) s1 ?_
  simp only [List.getElem_toArray, List.getElem_cons_succ, List.getElem_cons_zero, Act.put, List.setIfInBounds_toArray, List.set_cons_succ, List.set_cons_zero]
  refine wpAnyH_take (i := 24) (v := (.int .i64 wh)) rfl (by kernel_rfl) (by kernel_rfl) (by kernel_rfl) (fun _ _ _ h => h) (.inl ⟨rfl, fun _ hS => exec_load rfl rfl (load_int _ _ _ _ hS.2.1)⟩) s1 ?_
  simp only [List.getElem_toArray, List.getElem_cons_succ, List.getElem_cons_zero, Act.put, List.setIfInBounds_toArray, List.set_cons_succ, List.set_cons_zero]
  refine wpAnyH_all (rs := [20]) (by kernel_rfl) (by simp) ?_
  intro k hk
  simp only [List.mem_cons, List.mem_nil_iff, or_false] at hk
  subst hk
  refine wpOp_runw rfl rfl (wp_call_fn 21 #[.int .i64 st, .int .i64 wh] (by simp [execOp, go_sem, Act.eval, resolve, invoke, enterA]) ?_)
  refine (hA _).mono ?_
  rintro e u ⟨rfl, hu⟩
  rw [hu]
  clear hu
  refine ⟨s1, ?_⟩
  simp only [List.getElem_toArray, List.getElem_cons_succ, List.getElem_cons_zero, Act.put, List.setIfInBounds_toArray, List.set_cons_succ, List.set_cons_zero]
  refine wpAnyH_all (rs := [25]) (by kernel_rfl) (by simp) ?_
  intro k hk
  simp only [List.mem_cons, List.mem_nil_iff, or_false] at hk
  subst hk
  refine wpOp_runw rfl rfl (wp_call_fn 22 #[.int .i64 st, .int .i64 wh] (by simp [execOp, go_sem, Act.eval, resolve, invoke, enterD]) ?_)
  refine (hD _).mono ?_
  rintro e u ⟨rfl, hu⟩
  rw [hu]
  clear hu
  refine ⟨s1, ?_⟩
  simp only [List.getElem_toArray, List.getElem_cons_succ, List.getElem_cons_zero, Act.put, List.setIfInBounds_toArray, List.set_cons_succ, List.set_cons_zero]
  refine wpAnyH_take (i := 26) (v := (.bool true)) rfl (by kernel_rfl) (by kernel_rfl) (by kernel_rfl) (fun _ _ _ h => h) (.inl ⟨rfl, fun _ hS => by go_simp⟩) s1 ?_
  simp only [List.getElem_toArray, List.getElem_cons_succ, List.getElem_cons_zero, Act.put, List.setIfInBounds_toArray, List.set_cons_succ, List.set_cons_zero]
  refine wpAnyH_take (i := 27) (v := (.bool true)) rfl (by kernel_rfl) (by kernel_rfl) (by kernel_rfl) (fun _ _ _ h => h) (.inl ⟨rfl, fun _ hS => by go_simp⟩) s1 ?_
  simp only [List.getElem_toArray, List.getElem_cons_succ, List.getElem_cons_zero, Act.put, List.setIfInBounds_toArray, List.set_cons_succ, List.set_cons_zero]
  refine wpAnyH_take (i := 28) (v := (.bool true)) rfl (by kernel_rfl) (by kernel_rfl) (by kernel_rfl) (fun _ _ _ h => h) (.inl ⟨rfl, fun _ hS => rfl⟩) s1 ?_
  simp only [List.getElem_toArray, List.getElem_cons_succ, List.getElem_cons_zero, Act.put, List.setIfInBounds_toArray, List.set_cons_succ, List.set_cons_zero]
  refine wpAnyH_all (rs := [29]) (by kernel_rfl) (by simp) ?_
  intro k hk
  simp only [List.mem_cons, List.mem_nil_iff, or_false] at hk
  subst hk
  refine wpOp_runw rfl rfl (wp_call_fn 9 #[] (by simp [execOp, go_sem, Act.eval, resolve, invoke, enterL]) ?_)
  refine (hL _).mono ?_
  rintro e w9 ⟨rfl, B9⟩
  have b9 : Below Y.heap.size Y w9 := bA.trans (B9.mono bA.size)
  have s9 := HK.out w9 b9
  refine ⟨s9, ?_⟩
  simp only [List.getElem_toArray, List.getElem_cons_succ, List.getElem_cons_zero, Act.put, List.setIfInBounds_toArray, List.set_cons_succ, List.set_cons_zero]
  refine wpAnyH_take (i := 30) (v := (.bool true)) rfl (by kernel_rfl) (by kernel_rfl) (by kernel_rfl) (fun _ _ _ h => h) (.inl ⟨rfl, fun _ hS => by go_simp⟩) s9 ?_
  simp only [List.getElem_toArray, List.getElem_cons_succ, List.getElem_cons_zero, Act.put, List.setIfInBounds_toArray, List.set_cons_succ, List.set_cons_zero]
  refine wpAnyH_take (i := 31) (v := (.bool true)) rfl (by kernel_rfl) (by kernel_rfl) (by kernel_rfl) (fun _ _ _ h => h) (.inl ⟨rfl, fun _ hS => rfl⟩) s9 ?_
  simp only [List.getElem_toArray, List.getElem_cons_succ, List.getElem_cons_zero, Act.put, List.setIfInBounds_toArray, List.set_cons_succ, List.set_cons_zero]
  refine wpAnyH_done (by kernel_rfl) ?_ _
  go_wp2
  go_ret
  exact ⟨rfl, HB.out.trans (b9.mono (by have := HB.out.size; omega))⟩
theorem nask_walk (a : Q17) (w : World) : Calls Try.prog 4 #[.agg a.arr] w fun r w' => r = .returned (.bool true) ∧ Below w.heap.size w w' := by
  cases h : (isC a.cmd && isN a.node)
  · exact nask_bad a w h
  · obtain ⟨h1, h2⟩ : isC a.cmd = true ∧ isN a.node = true := by simpa using h
    obtain ⟨st, wh, c, n, hst, hwh, hcb, hnb⟩ := a
    simp only at h1 h2
    have hx : ∃ x : UInt8, (x.toNat : Int) = c := ⟨c.toNat.toUInt8, by rcases isC_cases h1 with e | e | e | e | e <;> subst e <;> rfl⟩
    have hy : ∃ y : UInt8, (y.toNat : Int) = n ∧ y.toNat ≤ 127 := by
      have h3 : 0 ≤ n ∧ n ≤ 127 := by simpa [isN] using h2
      have e : ((n.toNat.toUInt8).toNat : Int) = n := by simp; omega
      exact ⟨n.toNat.toUInt8, e, by omega⟩
    obtain ⟨x, rfl⟩ := hx
    obtain ⟨y, rfl, hy⟩ := hy
    exact nask_ok st wh x y w h1 hy
end Go.Proofs.Ytjifoeponfeffaa
