/- Contracts: Load, Erase. -/
import Derived.Test.YtjlbahgjjdfaeaaGreatXf1
import Derived.OrdersHeld
import Derived.Test.YtjlbahgjjdfaeaaGreatTyB
import Derived.Laws.BitsAllLaws
import Derived.Test.YtjlbahgjjdfaeaaGreatTyE
import Derived.Lib.AppendZerosOnto
import Derived.Lib.SliceRun
import Derived.Lib.Walk
import Derived.Great.BuildSlice
namespace Go.Proofs.YtjlbahgjjdfaeaaGreat.Nz
open Go.RowKit Go.Proofs.Ty Go.Proofs.Nv
set_option linter.unusedVariables false
set_option maxRecDepth 1000000
set_option linter.unusedSimpArgs false
theorem wpOp_runN {ops : Array Oper} {Q : Exit → Act → World → Prop} {K : Act → World → Prop} {a : Act} {w : World} {i : Nat} {o : Oper} (hi : ops[i]? = some o) (hg : Region.wanted o (yielded ops a.tmps) = true) (h : o.wp Tryz.prog a w K Q) : wpOp Tryz.prog ops Q i K a w := by
  unfold Go.wpOp
  simp only [hi]
  rw [if_pos hg]
  exact .inl h
theorem exec_loadN {a : Act} {o : Oper} {x : Operand} {ty : TypeId} {ad : Addr} {v : Value} {w : World} (ho : o.op = .load ty x) (hx : a.eval x = .pointer (some ad)) (hr : (loadVar ty ad).run Tryz.prog w = .ok v w) :
    (execOp a.eval o).run Tryz.prog w = .ok (.value v) w := by
  unfold execOp
  simp only [ho, hx, Instr.loadAt, Instr.sureAddr, Sem.run_bind, Sem.run_pure, Result.andThen_ok, hr]
theorem load_pg (x : World) (D k : Nat) (ao : Option Addr) (l c : Nat) (hc : x.cell? ⟨D, k, none⟩ = some (.slice ao l c)) : (loadVar 54 ⟨D, k, none⟩).run Tryz.prog x = .ok (.slice ao l c) x := by
  simp [go_sem, run_underlying Tryz.underlying54, hc]
theorem info_sizeN {T : TypeId} {n : Nat} (h : (Tryz.prog.info? T).map (·.size) = some n) : ∃ i, Tryz.prog.info? T = some i ∧ i.size = n := by
  cases hi : Tryz.prog.info? T with
  | none => rw [hi] at h; cases h
  | some i => rw [hi] at h; simp at h; exact ⟨i, rfl, h⟩
theorem exec_idxP {a : Act} {o : Oper} {s i : Operand} {b n c k : Nat} (ho : o.op = .indexAddr 54 s i) (hs : a.eval s = .slice (some ⟨b, 0, none⟩) n c) (hi : a.eval i = .int .i64 (k : Int)) (hk : k < n) (w : World) : (execOp a.eval o).run Tryz.prog w = .ok (.value (.pointer (some ⟨b, 8 * k, none⟩))) w := by
  have h1 : (0 : Int) ≤ (k : Int) := by omega
  have h2 : (k : Int) < (n : Int) := by omega
  unfold execOp
  simp only [ho, hs, hi]
  obtain ⟨i0, hi0, hz0⟩ := info_sizeN infoA8
  simp [go_sem, run_underlying Tryz.underlying54, sizeOf, typeInfo, hi0, hz0, h1, h2, Addr.add_mid, Nat.mul_comm]
theorem load_a8 (w : World) (q : Nat) (A : Array Value) (hq : w.heap[q]? = some (.cells A 81 (0, 0))) (hA : A.size = 8) : (loadVar 81 ⟨q, 0, none⟩).run Tryz.prog w = .ok (.agg A) w :=
  run_loadVar_row w q 81 81 A (0, 0) _ hq Tryz.underlying81 rfl (by rw [hA]; exact infoA8)
section
variable {C P : Nat} {c : Ch} {w : World}
theorem wr_no {i : Int} {b : List UInt8} (h : c.has i = false ∨ c.dead = true) : c.wr i b = (c, false) := by unfold Ch.wr; rw [if_pos h]
theorem wr_die {i : Int} {b : List UInt8} (h1 : c.has i = true) (h2 : c.dead = false) (h3 : c.left = 0) : c.wr i b = (c.die, false) := by unfold Ch.wr; rw [if_neg (by simp [h1, h2]), if_pos h3]
theorem wr_put {i : Int} {b : List UInt8} (h1 : c.has i = true) (h2 : c.dead = false) (h3 : c.left ≠ 0) : c.wr i b = (c.put i.toNat b, true) := by unfold Ch.wr; rw [if_neg (by simp [h1, h2]), if_neg h3]
set_option maxHeartbeats 2000000 in
theorem Write_put (h : Cm C P c w) (i : Nat) (b : List UInt8) (hb : b.length = 8) (hi : i < c.n) (hd : c.dead = false) (hl : c.left ≠ 0) :
    Calls Tryz.prog 26 #[.pointer (some ⟨C, 0, none⟩), .int .i64 i, pgV b] w fun e w' => e = .returned (.bool true) ∧ Cm C P (c.put i b) w' ∧ Two C P w w' := by
  have hhas : c.has (i : Int) = true := by simp [Ch.has, hi]
  have HH := has_any (h.below ((Below.refl _ w).alloc (Nat.le_refl _) (.cells (byC b).toArray 81))) (i : Int)
  rw [hhas] at HH
  obtain ⟨A, hA⟩ : ∃ A, (byC b).toArray = A := ⟨_, rfl⟩
  have hAs : A.size = 8 := by rw [← hA]; simp [Lib.byteCells, hb]
  have HA : Hid (A = (byC b).toArray) := hA.symm
  have HB := hidOf hb
  have B1 : Below w.heap.size w (w.alloc (.cells A 81)) := (Below.refl _ w).alloc (Nat.le_refl _) _
  have h1 := h.below B1
  have hq : (w.alloc (.cells A 81)).heap[w.heap.size]? = some (.cells A 81 (0, 0)) := heap_alloc_new w _
  have HP : Hid ((c.put i b).Ok) := Ch.put_ok h.ok hi hb
  have T1 := hidOf (Two.of_below B1 C P)
  have HX0 := hidOf h1
  have c1 := h1.c1
  have c2 := h1.c2
  have hf := h1.free
  rw [hd] at c2
  unfold pgV
  rw [hA] at HH ⊢
  obtain ⟨w1, hw1⟩ : ∃ x, w.alloc (.cells A 81) = x := ⟨_, rfl⟩
  obtain ⟨q, hqs⟩ : ∃ q, w.heap.size = q := ⟨_, rfl⟩
  rw [hw1] at HH h1 hq T1 HX0 c1 c2 hf
  rw [hqs] at hq
  clear B1
  have hqlt := h.ltP
  have hClt := h.lt
  have hin := hi
  have HLE : Hid (c.n = c.n) := rfl
  by_cases hneg : 0 < c.left
  · have hd0 : decide ((c.left : Int) = 0) = false := by simpa using hl
    have hd0' : (c.left == 0) = false := by simpa using hl
    have hd1 : decide (0 < c.left) = true := by simpa using hneg
    have hw : wrap64 (c.left - 1) = c.left - 1 := by have := h.ok.l1; have := h.ok.l2; simp only [wrap64]; omega
    have HX1 := hidOf (h1.left1 (c.left - 1) ⟨c.pg, c.n, c.left - 1, c.dead⟩ rfl rfl rfl rfl ⟨h.ok.len, h.ok.lo, h.ok.hi, by show (-1 : Int) ≤ c.left - 1; omega, by show c.left - 1 < 9223372036854775808; have := h.ok.l2; omega⟩)
    have T2 := hidOf (T1.out.at0 1 (.int .i64 (c.left - 1)))
    have hq2 : (w1.setCell ⟨C, 1, none⟩ (.int .i64 (c.left - 1))).heap[q]? = some (.cells A 81 (0, 0)) := (Below.heap_setCell _ ⟨C, 1, none⟩ _ q (by show q ≠ C; omega)).trans hq
    go_enter Tryz.func26, Tryz.ntmps26
    go_upto_region 8 with (go_at_call 46; refine HH.mono ?_; rintro e w2 ⟨rfl, hw2⟩; rw [hw2]; clear hw2 w2)
    clear HH h1 hq
    have HX := HX1
    have TX := T2
    have hqX := hq2
    clear HX0 HX1 T1 T2 hq2 HLE c1 c2 hf
    clear hw1
    generalize w1.setCell ⟨C, 1, none⟩ (.int .i64 (c.left - 1)) = X at *
    have HXD := hidOf (HX.out.drawn 1)
    have HZ := hidOf (HXD.out.page i b (c.put i b) rfl rfl (by show (if 0 < c.left then c.left - 1 else c.left) = c.left - 1; rw [if_pos hneg]) rfl HP.out)
    have TZ := hidOf ((TX.out.drawn 1).row P (.inr (.inl rfl)) (putA (byC c.pg).toArray (8 * i) b))
    have S0 : X.drew.heap[C]? = some (.cells #[.slice (some ⟨P, 0, none⟩) c.n c.n, .int .i64 (c.left - 1), .bool c.dead] 56 (0, 0)) ∧ X.drew.heap[q]? = some (.cells A 81 (0, 0)) := ⟨HX.out.head, hqX⟩
    have SZ : Hid ((X.drew.setRow P (putA (byC c.pg).toArray (8 * i) b)).heap[C]? = some (.cells #[.slice (some ⟨P, 0, none⟩) c.n c.n, .int .i64 (c.left - 1), .bool c.dead] 56 (0, 0)) ∧ (X.drew.setRow P (putA (byC c.pg).toArray (8 * i) b)).heap[q]? = some (.cells A 81 (0, 0))) :=
      ⟨(Go.Proofs.YtjlbahgjjdfaeaaGreat.setRow_other _ P C _ HX.out.ne).trans S0.1, (Go.Proofs.YtjlbahgjjdfaeaaGreat.setRow_other _ P q _ (by omega)).trans S0.2⟩
    have HAS := hidOf hAs
    have hsz : 8 * i + 8 ≤ c.pg.length := by have := HX.out.ok.len; first | omega | (simp only at this; omega)
    refine wp_region_held (S := fun x => x.heap[C]? = some (.cells #[.slice (some ⟨P, 0, none⟩) c.n c.n, .int .i64 (c.left - 1), .bool c.dead] 56 (0, 0)) ∧ x.heap[q]? = some (.cells A 81 (0, 0))) (by kernel_rfl) ?_
    change wpAnyH _ _ _ _ _ _ _ _ X.drew
    refine wpAnyH_take (i := 0) (v := (.pointer (some ⟨C, 0, none⟩))) rfl (by kernel_rfl) (by kernel_rfl) (by kernel_rfl) (fun _ _ _ h => h) (.inl ⟨rfl, fun _ hS => rfl⟩) S0 ?_
    simp only [List.getElem_toArray, List.getElem_cons_succ, List.getElem_cons_zero, Act.put, List.setIfInBounds_toArray, List.set_cons_succ, List.set_cons_zero]
    refine wpAnyH_take (i := 1) (v := (.pointer (some ⟨C, 0, none⟩))) rfl (by kernel_rfl) (by kernel_rfl) (by kernel_rfl) (fun _ _ _ h => h) (.inl ⟨rfl, fun _ hS => by simp [execOp, go_sem, Act.eval]⟩) S0 ?_
    simp only [List.getElem_toArray, List.getElem_cons_succ, List.getElem_cons_zero, Act.put, List.setIfInBounds_toArray, List.set_cons_succ, List.set_cons_zero]
    refine wpAnyH_take (i := 2) (v := (.pointer (some ⟨C, 0, none⟩))) rfl (by kernel_rfl) (by kernel_rfl) (by kernel_rfl) (fun _ _ _ h => h) (.inl ⟨rfl, fun _ hS => by simp [execOp, go_sem, Act.eval]⟩) S0 ?_
    simp only [List.getElem_toArray, List.getElem_cons_succ, List.getElem_cons_zero, Act.put, List.setIfInBounds_toArray, List.set_cons_succ, List.set_cons_zero]
    refine wpAnyH_take (i := 3) (v := (.slice (some ⟨P, 0, none⟩) c.n c.n)) rfl (by kernel_rfl) (by kernel_rfl) (by kernel_rfl) (fun _ _ _ h => h) (.inl ⟨rfl, fun _ hS => exec_loadN rfl rfl (load_pg _ C 0 _ _ _ (Lib.cell_of_heap hS.1 0))⟩) S0 ?_
    simp only [List.getElem_toArray, List.getElem_cons_succ, List.getElem_cons_zero, Act.put, List.setIfInBounds_toArray, List.set_cons_succ, List.set_cons_zero]
    refine wpAnyH_take (i := 4) (v := (.int .i64 (i : Int))) rfl (by kernel_rfl) (by kernel_rfl) (by kernel_rfl) (fun _ _ _ h => h) (.inl ⟨rfl, fun _ hS => rfl⟩) S0 ?_
    simp only [List.getElem_toArray, List.getElem_cons_succ, List.getElem_cons_zero, Act.put, List.setIfInBounds_toArray, List.set_cons_succ, List.set_cons_zero]
    refine wpAnyH_take (i := 5) (v := (.agg A)) rfl (by kernel_rfl) (by kernel_rfl) (by kernel_rfl) (fun _ _ _ h => h) (.inl ⟨rfl, fun _ hS => exec_loadN rfl rfl (load_a8 _ _ A hS.2 HAS.out)⟩) S0 ?_
    simp only [List.getElem_toArray, List.getElem_cons_succ, List.getElem_cons_zero, Act.put, List.setIfInBounds_toArray, List.set_cons_succ, List.set_cons_zero]
    refine wpAnyH_take (i := 6) (v := (.pointer (some ⟨P, 8 * i, none⟩))) rfl (by kernel_rfl) (by kernel_rfl) (by kernel_rfl) (fun _ _ _ h => h) (.inl ⟨rfl, fun _ hS => exec_idxP rfl rfl rfl hin _⟩) S0 ?_
    simp only [List.getElem_toArray, List.getElem_cons_succ, List.getElem_cons_zero, Act.put, List.setIfInBounds_toArray, List.set_cons_succ, List.set_cons_zero]
    refine wpAnyH_all (rs := [7]) (by kernel_rfl) (by simp) ?_
    intro k hk
    simp only [List.mem_cons, List.mem_nil_iff, or_false] at hk
    subst hk
    refine wpOp_runN rfl rfl (wp_storePg _ _ rfl P (8 * i) _ _ b HB.out rfl (by show Value.agg A = pgV b; rw [HA.out]; rfl) HXD.out.pages (by rw [List.size_toArray, byC_len]; exact hsz) ?_)
    refine ⟨SZ.out, ?_⟩
    simp only [List.getElem_toArray, List.getElem_cons_succ, List.getElem_cons_zero, Act.put, List.setIfInBounds_toArray, List.set_cons_succ, List.set_cons_zero]
    refine wpAnyH_done (by kernel_rfl) ?_ _
    clear S0 SZ
    go_wp2
    go_ret
    exact ⟨rfl, HZ.out, TZ.out⟩
  · have hd0' : (c.left == 0) = false := by simpa using hl
    have hd1 : decide (0 < c.left) = false := by simpa using hneg
    go_enter Tryz.func26, Tryz.ntmps26
    go_upto_region 8 with (go_at_call 46; refine HH.mono ?_; rintro e w2 ⟨rfl, hw2⟩; rw [hw2]; clear hw2 w2)
    clear HH h1
    have HX := HX0
    have TX := T1
    have hqX := hq
    clear HX0 T1 hq HLE c1 c2 hf
    clear hw1
    obtain ⟨X, hX⟩ : ∃ x, w1 = x := ⟨_, rfl⟩
    subst hX
    have HXD := hidOf (HX.out.drawn 1)
    have HZ := hidOf (HXD.out.page i b (c.put i b) rfl rfl (by show (if 0 < c.left then c.left - 1 else c.left) = c.left; rw [if_neg (by omega)]) rfl HP.out)
    have TZ := hidOf ((TX.out.drawn 1).row P (.inr (.inl rfl)) (putA (byC c.pg).toArray (8 * i) b))
    have S0 : w1.drew.heap[C]? = some (.cells #[.slice (some ⟨P, 0, none⟩) c.n c.n, .int .i64 c.left, .bool c.dead] 56 (0, 0)) ∧ w1.drew.heap[q]? = some (.cells A 81 (0, 0)) := ⟨HX.out.head, hqX⟩
    have SZ : Hid ((w1.drew.setRow P (putA (byC c.pg).toArray (8 * i) b)).heap[C]? = some (.cells #[.slice (some ⟨P, 0, none⟩) c.n c.n, .int .i64 c.left, .bool c.dead] 56 (0, 0)) ∧ (w1.drew.setRow P (putA (byC c.pg).toArray (8 * i) b)).heap[q]? = some (.cells A 81 (0, 0))) :=
      ⟨(Go.Proofs.YtjlbahgjjdfaeaaGreat.setRow_other _ P C _ HX.out.ne).trans S0.1, (Go.Proofs.YtjlbahgjjdfaeaaGreat.setRow_other _ P q _ (by omega)).trans S0.2⟩
    have HAS := hidOf hAs
    have hsz : 8 * i + 8 ≤ c.pg.length := by have := HX.out.ok.len; first | omega | (simp only at this; omega)
    refine wp_region_held (S := fun x => x.heap[C]? = some (.cells #[.slice (some ⟨P, 0, none⟩) c.n c.n, .int .i64 c.left, .bool c.dead] 56 (0, 0)) ∧ x.heap[q]? = some (.cells A 81 (0, 0))) (by kernel_rfl) ?_
    change wpAnyH _ _ _ _ _ _ _ _ w1.drew
    refine wpAnyH_take (i := 0) (v := (.pointer (some ⟨C, 0, none⟩))) rfl (by kernel_rfl) (by kernel_rfl) (by kernel_rfl) (fun _ _ _ h => h) (.inl ⟨rfl, fun _ hS => rfl⟩) S0 ?_
    simp only [List.getElem_toArray, List.getElem_cons_succ, List.getElem_cons_zero, Act.put, List.setIfInBounds_toArray, List.set_cons_succ, List.set_cons_zero]
    refine wpAnyH_take (i := 1) (v := (.pointer (some ⟨C, 0, none⟩))) rfl (by kernel_rfl) (by kernel_rfl) (by kernel_rfl) (fun _ _ _ h => h) (.inl ⟨rfl, fun _ hS => by simp [execOp, go_sem, Act.eval]⟩) S0 ?_
    simp only [List.getElem_toArray, List.getElem_cons_succ, List.getElem_cons_zero, Act.put, List.setIfInBounds_toArray, List.set_cons_succ, List.set_cons_zero]
    refine wpAnyH_take (i := 2) (v := (.pointer (some ⟨C, 0, none⟩))) rfl (by kernel_rfl) (by kernel_rfl) (by kernel_rfl) (fun _ _ _ h => h) (.inl ⟨rfl, fun _ hS => by simp [execOp, go_sem, Act.eval]⟩) S0 ?_
    simp only [List.getElem_toArray, List.getElem_cons_succ, List.getElem_cons_zero, Act.put, List.setIfInBounds_toArray, List.set_cons_succ, List.set_cons_zero]
    refine wpAnyH_take (i := 3) (v := (.slice (some ⟨P, 0, none⟩) c.n c.n)) rfl (by kernel_rfl) (by kernel_rfl) (by kernel_rfl) (fun _ _ _ h => h) (.inl ⟨rfl, fun _ hS => exec_loadN rfl rfl (load_pg _ C 0 _ _ _ (Lib.cell_of_heap hS.1 0))⟩) S0 ?_
    simp only [List.getElem_toArray, List.getElem_cons_succ, List.getElem_cons_zero, Act.put, List.setIfInBounds_toArray, List.set_cons_succ, List.set_cons_zero]
    refine wpAnyH_take (i := 4) (v := (.int .i64 (i : Int))) rfl (by kernel_rfl) (by kernel_rfl) (by kernel_rfl) (fun _ _ _ h => h) (.inl ⟨rfl, fun _ hS => rfl⟩) S0 ?_
    simp only [List.getElem_toArray, List.getElem_cons_succ, List.getElem_cons_zero, Act.put, List.setIfInBounds_toArray, List.set_cons_succ, List.set_cons_zero]
    refine wpAnyH_take (i := 5) (v := (.agg A)) rfl (by kernel_rfl) (by kernel_rfl) (by kernel_rfl) (fun _ _ _ h => h) (.inl ⟨rfl, fun _ hS => exec_loadN rfl rfl (load_a8 _ _ A hS.2 HAS.out)⟩) S0 ?_
    simp only [List.getElem_toArray, List.getElem_cons_succ, List.getElem_cons_zero, Act.put, List.setIfInBounds_toArray, List.set_cons_succ, List.set_cons_zero]
    refine wpAnyH_take (i := 6) (v := (.pointer (some ⟨P, 8 * i, none⟩))) rfl (by kernel_rfl) (by kernel_rfl) (by kernel_rfl) (fun _ _ _ h => h) (.inl ⟨rfl, fun _ hS => exec_idxP rfl rfl rfl hin _⟩) S0 ?_
    simp only [List.getElem_toArray, List.getElem_cons_succ, List.getElem_cons_zero, Act.put, List.setIfInBounds_toArray, List.set_cons_succ, List.set_cons_zero]
    refine wpAnyH_all (rs := [7]) (by kernel_rfl) (by simp) ?_
    intro k hk
    simp only [List.mem_cons, List.mem_nil_iff, or_false] at hk
    subst hk
    refine wpOp_runN rfl rfl (wp_storePg _ _ rfl P (8 * i) _ _ b HB.out rfl (by show Value.agg A = pgV b; rw [HA.out]; rfl) HXD.out.pages (by rw [List.size_toArray, byC_len]; exact hsz) ?_)
    refine ⟨SZ.out, ?_⟩
    simp only [List.getElem_toArray, List.getElem_cons_succ, List.getElem_cons_zero, Act.put, List.setIfInBounds_toArray, List.set_cons_succ, List.set_cons_zero]
    refine wpAnyH_done (by kernel_rfl) ?_ _
    clear S0 SZ
    go_wp2
    go_ret
    exact ⟨rfl, HZ.out, TZ.out⟩
theorem Write_no (h : Cm C P c w) (i : Int) (b : List UInt8) (hb : b.length = 8) (hno : c.has i = false ∨ c.dead = true) :
    Calls Tryz.prog 26 #[.pointer (some ⟨C, 0, none⟩), .int .i64 i, pgV b] w fun e w' => e = .returned (.bool false) ∧ Cm C P c w' ∧ Two C P w w' := by
  obtain ⟨A, hA⟩ : ∃ A, (byC b).toArray = A := ⟨_, rfl⟩
  have hAs : A.size = 8 := by rw [← hA]; simp [Lib.byteCells, hb]
  have B1 : Below w.heap.size w (w.alloc (.cells A 81)) := (Below.refl _ w).alloc (Nat.le_refl _) _
  have h1 := h.below B1
  have HH := has_any h1 i
  have T1 := hidOf (Two.of_below B1 C P)
  have HX0 := hidOf h1
  have c2 := h1.c2
  unfold pgV
  rw [hA]
  clear hA h B1 hb
  cases hhas : c.has i with
  | false =>
    rw [hhas] at HH
    clear hno
    go_enter Tryz.func26, Tryz.ntmps26
    go_wp2_with (go_at_call 46; refine HH.mono ?_; rintro e w2 ⟨rfl, hw2⟩; rw [hw2]; clear hw2 w2)
    go_ret
    exact ⟨rfl, HX0.out, T1.out⟩
  | true =>
    rw [hhas] at HH hno
    have hdd : c.dead = true := by simpa using hno
    rw [hdd] at c2
    clear hno
    go_enter Tryz.func26, Tryz.ntmps26
    go_wp2_with (go_at_call 46; refine HH.mono ?_; rintro e w2 ⟨rfl, hw2⟩; rw [hw2]; clear hw2 w2)
    go_ret
    exact ⟨rfl, HX0.out, T1.out⟩
theorem Write_die (h : Cm C P c w) (i : Int) (b : List UInt8) (hb : b.length = 8) (hhas : c.has i = true) (hd : c.dead = false) (hl : c.left = 0) :
    Calls Tryz.prog 26 #[.pointer (some ⟨C, 0, none⟩), .int .i64 i, pgV b] w fun e w' => e = .returned (.bool false) ∧ Cm C P c.die w' ∧ Two C P w w' := by
  obtain ⟨A, hA⟩ : ∃ A, (byC b).toArray = A := ⟨_, rfl⟩
  have hAs : A.size = 8 := by rw [← hA]; simp [Lib.byteCells, hb]
  have B1 : Below w.heap.size w (w.alloc (.cells A 81)) := (Below.refl _ w).alloc (Nat.le_refl _) _
  have h1 := h.below B1
  have HH := has_any h1 i
  have T1 := hidOf ((Two.of_below B1 C P).at0 2 (.bool true))
  have HX0 := hidOf (h1.dead2 true c.die rfl rfl rfl rfl ⟨h.ok.len, h.ok.lo, h.ok.hi, h.ok.l1, h.ok.l2⟩)
  have c1 := h1.c1
  have c2 := h1.c2
  have hf := h1.free
  rw [hd] at c2
  rw [hl] at c1
  rw [hhas] at HH
  unfold pgV
  rw [hA]
  clear hA h B1 hb h1
  go_enter Tryz.func26, Tryz.ntmps26
  go_wp2_with (go_at_call 46; refine HH.mono ?_; rintro e w2 ⟨rfl, hw2⟩; rw [hw2]; clear hw2 w2)
  go_ret
  exact ⟨rfl, HX0.out, T1.out⟩
theorem Write_any (h : Cm C P c w) (i : Int) (b : List UInt8) (hb : b.length = 8) :
    Calls Tryz.prog 26 #[.pointer (some ⟨C, 0, none⟩), .int .i64 i, pgV b] w fun e w' => e = .returned (.bool (c.wr i b).2) ∧ Cm C P (c.wr i b).1 w' ∧ Two C P w w' := by
  cases hhas : c.has i with
  | false => rw [wr_no (.inl hhas)]; exact Write_no h i b hb (.inl hhas)
  | true =>
    cases hd : c.dead with
    | true => rw [wr_no (.inr hd)]; exact Write_no h i b hb (.inr hd)
    | false =>
      by_cases hl : c.left = 0
      · rw [wr_die hhas hd hl]; exact Write_die h i b hb hhas hd hl
      · rw [wr_put hhas hd hl]
        have hi : 0 ≤ i ∧ i < c.n := by simpa [Ch.has] using hhas
        have := Write_put h i.toNat b hb (by omega) hd hl
        rw [show ((i.toNat : Nat) : Int) = i by omega] at this
        exact this
theorem Read_any (h : Cm C P c w) (i : Int) :
    Calls Tryz.prog 69 #[.pointer (some ⟨C, 0, none⟩), .int .i64 i] w fun e w' => e = .returned (pgV (c.rd i)) ∧ Below w.heap.size w w' := by
  have B1 : Below w.heap.size w (w.alloc (.cells (byC zero8).toArray 81)) := (Below.refl _ w).alloc (Nat.le_refl _) _
  have h1 := h.below B1
  have HH := has_any h1 i
  obtain ⟨Z, hZ⟩ : ∃ Z, (byC zero8).toArray = Z := ⟨_, rfl⟩
  have hZs : Z.size = 8 := by rw [← hZ]; rfl
  have HZ : Hid (Z = #[.int .u8 0, .int .u8 0, .int .u8 0, .int .u8 0, .int .u8 0, .int .u8 0, .int .u8 0, .int .u8 0]) := by rw [← hZ]; rfl
  have hq : (w.alloc (.cells Z 81)).heap[w.heap.size]? = some (.cells Z 81 (0, 0)) := heap_alloc_new w _
  rw [hZ] at HH B1 h1
  obtain ⟨w1, hw1⟩ : ∃ x, w.alloc (.cells Z 81) = x := ⟨_, rfl⟩
  obtain ⟨q, hqs⟩ : ∃ q, w.heap.size = q := ⟨_, rfl⟩
  have hw1' : w.alloc (.cells #[.int .u8 0, .int .u8 0, .int .u8 0, .int .u8 0, .int .u8 0, .int .u8 0, .int .u8 0, .int .u8 0] 81) = w1 := by rw [← HZ.out]; exact hw1
  rw [hw1] at HH B1 h1 hq
  have HB1 := hidOf B1
  rw [hqs] at hq
  have HQ := hidOf hqs
  have fin : ∀ (M : Array Value), Hid (Below w.heap.size w (w1.setRow q M)) := fun M => below_row B1 (by omega) B1.size M
  clear hw1 hZ
  cases hhas : c.has i with
  | false =>
    rw [hhas] at HH
    have HR : Hid (c.rd i = zero8) := by show _ = _; unfold Ch.rd; rw [hhas]; rfl
    go_enter Tryz.func69, Tryz.ntmps69
    go_wp2_with (first | (go_at_call 46; refine HH.mono ?_; rintro e w2 ⟨rfl, hw2⟩; rw [hw2]; clear hw2 w2) | (refine wpList_store_row rfl 81 _ _ rfl q (byC zero8).toArray rfl rfl 81 Z hq infoA8 (by rw [hZs]; rfl) (all_oneCell_toArray (byteCells_one zero8)) ?_; have hq2 := Go.Proofs.YtjlbahgjjdfaeaaGreat.setRow_heap w1 q Z (byC zero8).toArray _ _ hq) | (refine wpList_load_row rfl 81 _ rfl q rfl 81 _ (0, 0) _ hq2 Tryz.underlying81 rfl infoA8 ?_))
    have hld := load_a8 _ q _ hq2 rfl
    simp only [Act.put]
    exact bodyPost_ret (v := pgV zero8) (by simp [results, Tryz.results69, asAddr, hld]; rfl) rfl ⟨by rw [HR.out], (fin _).out⟩
  | true =>
    rw [hhas] at HH
    have hi : 0 ≤ i ∧ i < c.n := by simpa [Ch.has] using hhas
    have HR : Hid (c.rd i = (c.pg.drop (8 * i.toNat)).take 8) := by show _ = _; unfold Ch.rd; rw [hhas]; rfl
    have c0 := h1.c0
    have hrg := h1.range i.toNat (by omega)
    rw [Nat.mul_comm] at hrg
    have hlen : ((c.pg.drop (8 * i.toNat)).take 8).length = 8 := by rw [List.length_take, List.length_drop, h.ok.len]; omega
    have hlen' : (byC ((c.pg.drop (8 * i.toNat)).take 8)).length = 8 := by rw [byC_len, hlen]
    rw [HR.out]
    obtain ⟨L, hL⟩ : ∃ L, (c.pg.drop (8 * i.toNat)).take 8 = L := ⟨_, rfl⟩
    rw [Nat.mul_comm i.toNat 8, hL, Nat.mul_comm 8 i.toNat] at hrg
    rw [hL] at hlen' hlen ⊢
    obtain ⟨M, hM⟩ : ∃ M, byC L = M := ⟨_, rfl⟩
    rw [hM] at hrg hlen'
    have hLM : Hid (byC L = M) := hM
    have HH1 : Hid (∀ v ∈ M, v.oneCell' = true) := by rw [← hM]; exact byteCells_one L
    clear HR hL hM
    go_enter Tryz.func69, Tryz.ntmps69
    go_wp2_with (first | (go_at_call 46; refine HH.mono ?_; rintro e w2 ⟨rfl, hw2⟩; rw [hw2]; clear hw2 w2) | (refine wpList_load_mid rfl 81 _ rfl P (i.toNat * 8) rfl M _ hrg Tryz.underlying81 rfl (by rw [hlen']; exact infoA8) ?_) | (refine wpList_store_row rfl 81 _ _ rfl q M.toArray rfl rfl 81 Z hq (by rw [List.size_toArray, hlen']; exact infoA8) (by rw [hZs, List.size_toArray, hlen']) (all_oneCell_toArray HH1.out) ?_; have hq2 := Go.Proofs.YtjlbahgjjdfaeaaGreat.setRow_heap w1 q Z M.toArray _ _ hq))
    have hld := load_a8 _ q _ hq2 (by rw [List.size_toArray, hlen'])
    simp only [Act.put, List.setIfInBounds_toArray, List.set_cons_succ, List.set_cons_zero]
    exact bodyPost_ret (v := .agg M.toArray) (by simp [results, Tryz.results69, asAddr, hld]) rfl ⟨by rw [pgV, hLM.out], (fin _).out⟩
end
end Go.Proofs.YtjlbahgjjdfaeaaGreat.Nz
namespace Go.Proofs.YtjlbahgjjdfaeaaGreat.Nz
open Go.RowKit Go.Proofs.Ty Go.Proofs.Nv
set_option linter.unusedVariables false
set_option maxRecDepth 1000000
set_option linter.unusedSimpArgs false
theorem num_join (l : List UInt8) : num l = joinL l := by
  induction l with
  | nil => rfl
  | cons x r ih => simp only [num, joinL, ih]
theorem le_low (n k : Nat) : le n k = lowL n k := by
  induction k with
  | zero => rfl
  | succ k ih =>
    rw [le_snoc, lowL_snoc, ih]
    congr 2
    apply UInt8.toNat_inj.1
    simp
theorem val_intM {k : IntKind} {a b : Int} (h : a = b) : Value.int k a = .int k b := by rw [h]
theorem two8N (k : Nat) : 2 ^ (k * 8) = 256 ^ k := by rw [Nat.mul_comm, Nat.pow_mul]
theorem two8iN (k : Nat) : (2 : Int) ^ (k * 8) = ((256 ^ k : Nat) : Int) := by
  rw [← two8N]
  simp
theorem wrapUN (n : Int) : IntKind.u64.wrap n = n % 18446744073709551616 := by simp [IntKind.wrap, IntKind.bits, IntKind.signed]
theorem join_stepN (l : List UInt8) (k : Nat) (hk : k < l.length) (h8 : l.length ≤ 8) :
    bits BinOp.or IntKind.u64 ((joinL (l.take k) : Nat) : Int) (IntKind.u64.wrap ((l[k].toNat : Int) * 2 ^ (k * 8))) = ((joinL (l.take (k + 1)) : Nat) : Int) := by
  have hc := l[k].toNat_lt
  have hlen : (l.take k).length = k := by rw [List.length_take]; omega
  have h1 := joinL_lt (l.take k)
  rw [hlen] at h1
  have hp : 256 ^ k ≤ 256 ^ 7 := Nat.pow_le_pow_right (by omega) (by omega)
  have hx : l[k].toNat * 256 ^ k < 18446744073709551616 := by
    have : l[k].toNat * 256 ^ k ≤ 255 * 256 ^ 7 := Nat.mul_le_mul (by omega) hp
    have e : 255 * 256 ^ 7 < 18446744073709551616 := by decide
    omega
  have e : ((l[k].toNat : Int) * 2 ^ (k * 8)) = ((l[k].toNat * 256 ^ k : Nat) : Int) := by rw [two8iN]; simp
  have ew : IntKind.u64.wrap ((l[k].toNat * 256 ^ k : Nat) : Int) = ((l[k].toNat * 256 ^ k : Nat) : Int) := by
    rw [wrapUN]
    omega
  have e7 : (256 : Nat) ^ 7 < 18446744073709551616 := by decide
  rw [e, ew, u64_or_nat _ _ (by omega) hx, Nat.or_comm, nat_join (k * 8) _ _ (by rw [two8N]; exact Nat.mul_mod_left _ _) (by rw [two8N]; exact h1), List.take_succ_eq_append_getElem hk, joinL_snoc, hlen, Nat.add_comm]
set_option maxHeartbeats 1000000 in
theorem number_any (x : Value) (l : List UInt8) (w : World) (h8 : l.length ≤ 8) (hB : Bytes w x l) :
    Calls Tryz.prog 70 #[x] w fun e w' => e = .returned (.int .u64 (num l)) ∧ w' = w := by
  rw [num_join]
  obtain ⟨ao, cap, rfl, h0, hc⟩ := hB
  have HS := hidOf (join_stepN l)
  go_enter Tryz.func70, Tryz.ntmps70
  go_wp2
  go_loop [3, 8] (fun n i => ∃ k : Nat, k ≤ l.length ∧ i = .int .i64 k ∧ n = .int .u64 (joinL (l.take k))) (fun _ i => l.length - (intOf i).toNat)
  case atStart => exact ⟨0, Nat.zero_le _, rfl, rfl⟩
  case round =>
    obtain ⟨k, hk, rfl, rfl⟩ := hrel
    by_cases hkl : k < l.length
    · obtain ⟨b, off, rfl, hlt, hcell⟩ := hc k hkl
      have H1 := hidOf (HS.out k hkl h8)
      have hcl := l[k].toNat_lt
      generalize hJ : joinL (l.take k) = J at *
      go_wp2
      go_round
      case rel => exact ⟨k + 1, by omega, by go_num, val_intM (by first | exact H1.out | (rw [← H1.out]; simp))⟩
      case measure => simp [intOf]; omega
    · go_wp2
      go_ret
      obtain rfl : k = l.length := by omega
      exact ⟨ret_int (by rw [List.take_of_length_le (Nat.le_refl _)]), rfl⟩
theorem byte_atN (n k : Nat) : ((n : Int) / 2 ^ (k * 8) % 256) = ((UInt8.ofNat (n / 256 ^ k)).toNat : Int) := by
  have e : (2 : Int) ^ (k * 8) = ((256 ^ k : Nat) : Int) := by
    rw [Nat.mul_comm, Int.pow_mul]
    simp
  rw [e, show (UInt8.ofNat (n / 256 ^ k)).toNat = n / 256 ^ k % 256 by simp]
  simp
theorem byC_setN (l : List UInt8) (k : Nat) (c : UInt8) : (byC l).set k (.int .u8 c.toNat) = byC (l.set k c) := by
  simp [Lib.byteCells, List.map_set]
theorem splice_set {h b : List UInt8} {o : Nat} (x : UInt8) (hb : o + b.length < h.length) : (splice h o b).set (o + b.length) x = splice h o (b ++ [x]) := by
  apply List.ext_getElem?
  intro k
  rw [List.getElem?_set, splice_get (by omega), splice_get (by simp; omega), splice_len (by omega)]
  by_cases e : o + b.length = k
  · subst e
    rw [if_pos rfl, if_pos hb, if_pos (by simp)]
    simp
  · rw [if_neg e]
    by_cases e2 : o ≤ k ∧ k < o + b.length
    · rw [if_pos e2, if_pos (by simp; omega), List.getElem?_append_left (by omega)]
    · rw [if_neg e2, if_neg (by simp; omega)]
set_option maxHeartbeats 1000000 in
theorem putNumber_any (q o k cap n : Nat) (h : List UInt8) (w : World) (hn : n < 18446744073709551616) (hk : k ≤ 8) (ho : o + k ≤ h.length) (hq : w.heap[q]? = some (.cells (byC h).toArray 81 (0, 0))) :
    Calls Tryz.prog 47 #[.slice (some ⟨q, o, none⟩) k cap, .int .u64 n] w fun e w' => (∃ v, e = .returned v) ∧ w'.heap[q]? = some (.cells (byC (splice h o (le n k))).toArray 81 (0, 0)) ∧ Two q q w w' := by
  have HS : Hid (∀ j, byC (splice h o (lowL n j)) = byC (splice h o (lowL n j))) := fun _ => rfl
  rw [le_low]
  go_enter Tryz.func47, Tryz.ntmps47
  go_wp2
  go_loopw [7] (fun i wr => ∃ j : Nat, j ≤ k ∧ i = .int .i64 j ∧ wr.heap[q]? = some (.cells (byC (splice h o (lowL n j))).toArray 81 (0, 0)) ∧ Two q q w wr) (fun i _ => k - (intOf i).toNat)
  case atStart => exact ⟨0, Nat.zero_le _, rfl, by rw [show lowL n 0 = [] from rfl, splice_nil]; exact hq, Two.refl _ _ _⟩
  case round =>
    obtain ⟨j, hj, rfl, hqj, hT⟩ := hrel
    by_cases hjk : j < k
    · have hlen : (lowL n j).length = j := lowL_length n j
      have hsz : o + j < (byC (splice h o (lowL n j))).length := by rw [byC_len, splice_len (by rw [hlen]; omega)]; omega
      have hcell : (wr.cell? ⟨q, o + j, none⟩).isSome = true := by rw [Lib.cell_of_heap hqj]; simp; exact hsz
      obtain ⟨v0, hv0⟩ := Option.isSome_iff_exists.1 hcell
      have hfr : wr.frozen? ⟨q, o + j, none⟩ = false := Lib.frozen_of_heap hqj _
      have hB := hidOf (byte_atN n j)
      have HN : Hid ((wr.setCell ⟨q, o + j, none⟩ (.int .u8 ((UInt8.ofNat (n / 256 ^ j)).toNat))).heap[q]? = some (.cells (byC (splice h o (lowL n (j + 1)))).toArray 81 (0, 0))) := by
        show _ = _
        simp only [World.setCell, Array.getElem?_modify, hqj]
        rw [lowL_snoc, ← splice_set _ (by rw [hlen]; omega), ← byC_setN, hlen]
        simp
      have HTw := hidOf (hT.at0 (o + j) (.int .u8 ((UInt8.ofNat (n / 256 ^ j)).toNat)))
      clear hcell hqj
      rw [← hB.out] at HN HTw
      go_wp2
      go_roundw
      case rel => exact ⟨j + 1, by omega, by go_num, HN.out, HTw.out⟩
      case measure => simp [intOf]; omega
    · obtain rfl : j = k := by omega
      go_wp2
      go_end0
      exact ⟨⟨_, rfl⟩, hqj, hT⟩
end Go.Proofs.YtjlbahgjjdfaeaaGreat.Nz
namespace Go.Proofs.YtjlbahgjjdfaeaaGreat.Nz
open Go.RowKit Go.Proofs.Bits
set_option linter.unusedVariables false
set_option maxRecDepth 1000000
theorem val_intN {k : IntKind} {a b : Int} (h : a = b) : Value.int k a = .int k b := by rw [h]
theorem byte16_end (x : Nat) (c : UInt8) (j : Nat) (h : j ≤ 8) (h8 : ¬ j < 8) : ((turns16 j (x ^^^ (c.toNat * 256)) : Nat) : Int) = ((byte16 x c : Nat) : Int) := by
  obtain rfl : j = 8 := by omega
  rfl
theorem n16_in (x : Nat) (c : UInt8) (hx : x < 65536) : bits BinOp.xor IntKind.u16 (x : Int) ((c.toNat : Int) * 256) = ((x ^^^ (c.toNat * 256) : Nat) : Int) := by
  have := c.toNat_lt
  rw [show ((c.toNat : Int) * 256) = ((c.toNat * 256 : Nat) : Int) from by omega, u16_xor_nat _ _ (by omega) (by omega)]
theorem n32_in (x : Nat) (c : UInt8) (hx : x < 65536) : bits BinOp.xor IntKind.u32 (x : Int) ((c.toNat : Int) * 256) = ((x ^^^ (c.toNat * 256) : Nat) : Int) := by
  have := c.toNat_lt
  rw [show ((c.toNat : Int) * 256) = ((c.toNat * 256 : Nat) : Int) from by omega, u32_xor_nat _ _ (by omega) (by omega)]
theorem n16_wrap (y : Nat) : IntKind.u16.wrap ((y : Int) * 2) = ((y * 2 % 65536 : Nat) : Int) := by
  rw [IntKind.wrap_u16]; omega
theorem n16_yes (y : Nat) (h : ((y : Int) / 32768 == 1) = true) : bits BinOp.xor IntKind.u16 (IntKind.u16.wrap ((y : Int) * 2)) 4129 = ((turn16 y : Nat) : Int) := by
  simp at h
  rw [n16_wrap, show (4129 : Int) = ((4129 : Nat) : Int) from rfl, u16_xor_nat _ _ (by omega) (by omega), turn16, if_pos (by omega)]
theorem n16_no (y : Nat) (h : ((y : Int) / 32768 == 1) = false) : IntKind.u16.wrap ((y : Int) * 2) = ((turn16 y : Nat) : Int) := by
  simp at h
  rw [n16_wrap, turn16, if_neg (by omega)]
theorem n32_out (y : Nat) (hy : y < 65536) : bits BinOp.and IntKind.u32 ((y : Int) / 32768) 1 = ((y / 32768 : Nat) : Int) := by
  rw [show ((y : Int) / 32768) = ((y / 32768 : Nat) : Int) from by omega, show (1 : Int) = ((1 : Nat) : Int) from rfl, u32_and_nat _ _ (by omega) (by omega), nat_mask1]
  omega
theorem n32_and (y : Nat) (hy : y < 65536) : bits BinOp.and IntKind.u32 ((y : Int) * 2) 65535 = ((y * 2 % 65536 : Nat) : Int) := by
  rw [show ((y : Int) * 2) = ((y * 2 : Nat) : Int) from by omega, show (65535 : Int) = ((65535 : Nat) : Int) from rfl, u32_and_nat _ _ (by omega) (by omega), nat_mask16]
theorem n32_yes (y : Nat) (hy : y < 65536) (h : (bits BinOp.and IntKind.u32 ((y : Int) / 32768) 1 == 1) = true) : bits BinOp.xor IntKind.u32 (bits BinOp.and IntKind.u32 ((y : Int) * 2) 65535) 4129 = ((turn16 y : Nat) : Int) := by
  rw [n32_out y hy] at h
  simp at h
  rw [n32_and y hy, show (4129 : Int) = ((4129 : Nat) : Int) from rfl, u32_xor_nat _ _ (by omega) (by omega), turn16, if_pos (by omega)]
theorem n32_no (y : Nat) (hy : y < 65536) (h : (bits BinOp.and IntKind.u32 ((y : Int) / 32768) 1 == 1) = false) : bits BinOp.and IntKind.u32 ((y : Int) * 2) 65535 = ((turn16 y : Nat) : Int) := by
  rw [n32_out y hy] at h
  simp at h
  rw [n32_and y hy, turn16, if_neg (by omega)]

set_option maxHeartbeats 400000 in
theorem CRC16_some (b off cap : Nat) (l : List UInt8) (w : World) (hm : l.length ≤ maxLen) (hc : ∀ k (h : k < l.length), w.cell? ⟨b, off + k, none⟩ = some (.int .u8 l[k].toNat)) :
    Calls Tryz.prog 73 #[.slice (some ⟨b, off, none⟩) l.length cap] w fun e w' => e = .returned (.int .u16 (crc16 l)) ∧ w' = w := by
  unfold maxLen at hm
  go_enter Tryz.func73, Tryz.ntmps73
  go_wp2
  go_loop [3, 9] (fun n i => ∃ (k : Nat), k ≤ l.length ∧ i = .int .i64 k ∧ n = .int .u16 (crc16 (l.take k))) (fun _ i => l.length - (intOf i).toNat)
  case atStart => exact ⟨0, Nat.zero_le _, rfl, rfl⟩
  case round =>
    obtain ⟨k, hle, rfl, rfl⟩ := hrel
    have hx := crc16_lt (l.take k)
    by_cases hp : k < l.length
    · have HS : Hid (crc16 (l.take (k + 1)) = byte16 (crc16 (l.take k)) l[k]) := by
        show crc16 _ = _
        rw [ltake_snoc l k hp, crc16_snoc]
      have hcell := hc k hp
      have hbb := l[k].toNat_lt
      generalize crc16 (l.take k) = x at hx HS
      go_wp2
      go_loop [3, 18] (fun n i => ∃ (j : Nat), j ≤ 8 ∧ i = .int .i64 j ∧ n = .int .u16 (turns16 j (x ^^^ (l[k].toNat * 256)))) (fun _ i => 8 - (intOf i).toNat)
      case atStart => exact ⟨0, by omega, rfl, val_intN (n16_in x _ hx)⟩
      case round =>
        obtain ⟨j, hj, rfl, rfl⟩ := hrel
        have hy := turns16_lt j _ (xor16_lt x l[k] hx)
        by_cases hj8 : j < 8
        · have HT : Hid (turns16 (j + 1) (x ^^^ (l[k].toNat * 256)) = turn16 (turns16 j (x ^^^ (l[k].toNat * 256)))) := rfl
          generalize turns16 j (x ^^^ (l[k].toNat * 256)) = y at hy HT
          go_wp2
          all_goals
            go_round
            case rel => exact ⟨j + 1, by omega, by go_num, val_intN (by rw [HT.out]; first | exact n16_yes _ ‹_› | exact n16_no _ ‹_›)⟩
            case measure => simp [intOf]; omega
        · go_wp2
          go_round
          case rel => exact ⟨k + 1, by omega, by go_num, val_intN (by rw [HS.out]; exact byte16_end x _ j hj hj8)⟩
          case measure => simp [intOf]; omega
    · go_wp2
      go_ret
      exact ⟨ret_int (by rw [List.take_of_length_le (by omega)]), rfl⟩

/-- No byte: whatever the address. -/
theorem CRC16_none (a : Option Addr) (cap : Nat) (w : World) :
    Calls Tryz.prog 73 #[.slice a 0 cap] w fun e w' => e = .returned (.int .u16 0) ∧ w' = w := by
  go_enter Tryz.func73, Tryz.ntmps73
  go_wp2
  go_loop [3, 9] (fun n i => i = .int .i64 0 ∧ n = .int .u16 0) (fun _ i => 0)
  case atStart => exact ⟨rfl, rfl⟩
  case round =>
    obtain ⟨rfl, rfl⟩ := hrel
    go_wp2
    go_ret
    exact ⟨rfl, rfl⟩
theorem CRC16_bytes (v : Value) (l : List UInt8) (w : World) (hm : l.length ≤ maxLen) (h : Bytes w v l) :
    Calls Tryz.prog 73 #[v] w fun e w' => e = .returned (.int .u16 (crc16 l)) ∧ w' = w := by
  obtain ⟨ao, cap, rfl, h0, hc⟩ := h
  by_cases hl : l = []
  · subst hl; exact CRC16_none _ _ _
  · obtain ⟨b, off, ha, hlt, _⟩ := hc 0 (List.length_pos_iff.2 hl)
    subst ha
    refine CRC16_some b off cap l w hm (fun k hk => ?_)
    obtain ⟨b', off', ha', _, hcell⟩ := hc k hk
    simp at ha'
    obtain ⟨rfl, rfl⟩ := ha'
    exact hcell
end Go.Proofs.YtjlbahgjjdfaeaaGreat.Nz
namespace Go.Proofs.YtjlbahgjjdfaeaaGreat.Nz
open Go.RowKit Go.Proofs.Ty Go.Proofs.Nv Go.Proofs.Bits
set_option linter.unusedVariables false
set_option maxRecDepth 1000000
set_option linter.unusedSimpArgs false
set_option maxHeartbeats 2000000 in
theorem Grow_nil (n : Nat) (w : World) (h0 : 0 < n) (hn : n ≤ 140737488355328) :
    Calls Tryz.prog 87 #[.slice none 0 0, .int .i64 n] w fun e w' => ∃ v, e = .returned v ∧ w'.ownsRow w.heap.size 5 1 v 0 [] ∧ Below w.heap.size w w' := by
  obtain ⟨i0, hi0, hz0, hz1, hz2⟩ := info_parts info5
  have hold : (Builtin.firstCells i0.size 0 (.slice none 0 0)).run Tryz.prog w.drew = .ok ([] : List Value).toArray w.drew := by simp [Builtin.firstCells]
  have hrz : ∀ ty, (Builtin.append_ #[24, 3] ty #[.slice none 0 0, .int .i64 n]).run Tryz.prog w =
      .ok (.slice (some ⟨w.heap.size, 0, none⟩) n (grownCap w n 0 5)) (w.drew.alloc (.cells (([] : List Value).toArray ++ Builtin.zeroCells (Value.int .u8 0).cells n ++ Builtin.zeroCells (Value.int .u8 0).cells (grownCap w n 0 5 - n)) 5)) := fun ty => by
    have h := Lib.run_append_grow_zeros w 24 3 ty 5 i0 (.int .u8 0) .i64 .i64 Tryz.underlying24 Tryz.underlying3 hi0 hz0 none 0 0 [] hold n h0 (by rw [hz1]; decide) (by omega) (by omega) (by rw [hz2]; omega) (by
      have := growslice_fits (need := 0 + n) (old := 0) (bytes := i0.bytes) (by omega) (by rw [hz2]; omega)
      exact this)
    simpa using h
  have hGn : n ≤ grownCap w n 0 5 := grownCap_ge w _ _ _
  have hGm := grownCap_le_maxLen w n 0 5 (by unfold maxLen; omega)
  have HOW : Hid ((w.drew.alloc (.cells (([] : List Value).toArray ++ Builtin.zeroCells (Value.int .u8 0).cells n ++ Builtin.zeroCells (Value.int .u8 0).cells (grownCap w n 0 5 - n)) 5)).ownsRow w.heap.size 5 1 (.slice (some ⟨w.heap.size, 0, none⟩) 0 (grownCap w n 0 5)) 0 []) := by
    refine ⟨rfl, .inr ⟨w.heap.size, _, _, rfl, Nat.le_refl _, heap_alloc_new w.drew _, Nat.zero_le _, hGm, ?_, rfl⟩⟩
    simp [Builtin.zeroCells, Value.cells]
    omega
  have HBL : Hid (Below w.heap.size w (w.drew.alloc (.cells (([] : List Value).toArray ++ Builtin.zeroCells (Value.int .u8 0).cells n ++ Builtin.zeroCells (Value.int .u8 0).cells (grownCap w n 0 5 - n)) 5))) := (bdr (Below.refl _ w) 1).alloc (Nat.le_refl _) _
  generalize w.drew.alloc _ = wz at *
  generalize grownCap w n 0 5 = G at *
  unfold maxLen at hGm
  go_enter Tryz.func87, Tryz.ntmps87
  go_wp2_with (at_builtin; refine Lib.wpList_append_run _ rfl _ _ _ _ rfl _ _ rfl rfl _ _ (hrz _) ?_)
  all_goals (go_ret; exact ⟨_, rfl, HOW.out, HBL.out⟩)
theorem load_bs (x : World) (D k : Nat) (ao : Option Addr) (l c : Nat) (hc : x.cell? ⟨D, k, none⟩ = some (.slice ao l c)) : (loadVar 24 ⟨D, k, none⟩).run Tryz.prog x = .ok (.slice ao l c) x := by
  simp [go_sem, run_underlying Tryz.underlying24, hc]
theorem bytes_shapeN {w : World} {v : Value} {l : List UInt8} (h : Bytes w v l) : ∃ ao cap, v = .slice ao l.length cap := by
  obtain ⟨ao, cap, rfl, _⟩ := h
  exact ⟨ao, cap, rfl⟩
set_option maxHeartbeats 4000000 in
theorem Concat_two (g cap : Nat) (u v : Value) (l m : List UInt8) (w : World) (h0 : 0 < l.length) (hm : l.length + m.length ≤ 140737488355328) (hg : w.heap[g]? = some (.cells #[u, v] 24 (0, 0))) (hu : Bytes w u l) (hv : Bytes w v m) :
    Calls Tryz.prog 74 #[.slice (some ⟨g, 0, none⟩) 2 cap] w fun e w' => ∃ x, e = .returned x ∧ Bytes w' x (l ++ m) ∧ Below w.heap.size w w' := by
  have HU := hidOf hu
  have HV := hidOf hv
  have HG := hidOf hg
  obtain ⟨au, cu, rfl⟩ := bytes_shapeN hu
  obtain ⟨av, cv, rfl⟩ := bytes_shapeN hv
  have c0 : w.cell? ⟨g, 0, none⟩ = some (.slice au l.length cu) := Lib.cell_of_heap hg 0
  have c1 : w.cell? ⟨g, 1, none⟩ = some (.slice av m.length cv) := Lib.cell_of_heap hg 1
  have hGr := Grow_nil (l.length + m.length) w (by omega) hm
  have hglt := (Array.getElem?_eq_some_iff.1 hg).1
  clear hu hv hg
  obtain ⟨nl, hnl⟩ : ∃ n, l.length = n := ⟨_, rfl⟩
  obtain ⟨nm, hnm⟩ : ∃ n, m.length = n := ⟨_, rfl⟩
  have HNL := hidOf hnl
  have HNM := hidOf hnm
  rw [hnl] at c0 h0 hm hGr HG HU
  rw [hnm] at c1 hm hGr HG HV
  clear hnl hnm
  go_enter Tryz.func74, Tryz.ntmps74
  go_wp2
  go_loop [3, 11] (fun n i => (i = .int .i64 0 ∧ n = .int .i64 0) ∨ (i = .int .i64 1 ∧ n = .int .i64 nl) ∨ (i = .int .i64 2 ∧ n = .int .i64 ((nl : Int) + nm))) (fun _ i => 2 - (intOf i).toNat)
  case atStart => exact .inl ⟨rfl, rfl⟩
  case round =>
    rcases hrel with ⟨rfl, rfl⟩ | ⟨rfl, rfl⟩ | ⟨rfl, rfl⟩
    · go_wp2
      all_goals
        go_round
        case rel => exact .inr (.inl ⟨rfl, rfl⟩)
        case measure => simp [intOf]
    · go_wp2
      all_goals
        go_round
        case rel => exact .inr (.inr ⟨rfl, by go_num⟩)
        case measure => simp [intOf]
    · have hd : decide ((nl : Int) + nm < 0) = false := by simp; omega
      rw [Int.natCast_add] at hGr
      go_wp2_with (go_at_call 87; refine hGr.mono ?_; rintro e w1 ⟨x, rfl, hown, hb⟩; have HO := hidOf hown; have HB := hidOf hb; clear hown hb)
      go_loopw [6, 27] (fun y i wr => (i = .int .i64 0 ∧ Hid (wr.ownsRow w.heap.size 5 1 y ([] : List UInt8).length (Lib.byteCells [])) ∧ Hid (Below w.heap.size w wr)) ∨ (i = .int .i64 1 ∧ Hid (wr.ownsRow w.heap.size 5 1 y l.length (Lib.byteCells l)) ∧ Hid (Below w.heap.size w wr)) ∨ (i = .int .i64 2 ∧ Hid (wr.ownsRow w.heap.size 5 1 y (l ++ m).length (Lib.byteCells (l ++ m))) ∧ Hid (Below w.heap.size w wr))) (fun _ i _ => 2 - (intOf i).toNat)
      case atStart => exact .inl ⟨rfl, HO, HB⟩
      case round =>
        clear HO HB hGr
        rcases hrel with ⟨rfl, HO, HB⟩ | ⟨rfl, HO, HB⟩ | ⟨rfl, HO, HB⟩
        · have c0' : wr.cell? ⟨g, 0, none⟩ = some (.slice au nl cu) := (HB.out.cell (p := ⟨g, 0, none⟩) hglt).trans c0
          have hlb := (HB.out.size : _)
          have hby := HU.out.below HB.out
          go_wp2_with (go_loud (at_builtin; refine append_bytes rfl _ _ rfl w.heap.size _ [] rfl HO.out _ l rfl hby (by have := HNL.out; simp; omega) hlb ?_; intro v1 w2 ho hgr; have HO2 := hidOf (show w2.ownsRow w.heap.size 5 1 v1 l.length (Lib.byteCells l) from ho); have HB2 := hidOf (HB.out.grown hgr HB.out.size (fun k e => own_lt HO.out k e)); clear ho hgr))
          go_roundw
          case rel => exact .inr (.inl ⟨rfl, HO2, HB2⟩)
          case measure => simp [intOf]
        · have c0' : wr.cell? ⟨g, 1, none⟩ = some (.slice av nm cv) := (HB.out.cell (p := ⟨g, 1, none⟩) hglt).trans c1
          have hlb := (HB.out.size : _)
          have hby := HV.out.below HB.out
          go_wp2_with (go_loud (at_builtin; refine append_bytes rfl _ _ rfl w.heap.size _ l rfl HO.out _ m rfl hby (by have := HNL.out; have := HNM.out; omega) hlb ?_; intro v1 w2 ho hgr; have HO2 := hidOf ho; have HB2 := hidOf (HB.out.grown hgr HB.out.size (fun k e => own_lt HO.out k e)); clear ho hgr))
          go_roundw
          case rel => exact .inr (.inr ⟨rfl, HO2, HB2⟩)
          case measure => simp [intOf]
        · go_wp2
          go_ret
          exact ⟨_, rfl, bytes_of_own HO.out, HB.out⟩
theorem bytes_cells {w : World} {q off n : Nat} {l : List UInt8} {A : Array Value} {T : TypeId} {fr : Nat × Nat} (hq : w.heap[q]? = some (.cells A T fr)) (cap : Nat) (hn : l.length = n) (hA : ∀ k (h : k < l.length), A[off + k]? = some (.int .u8 l[k].toNat)) : Bytes w (.slice (some ⟨q, off, none⟩) n cap) l := by
  subst hn
  exact ⟨_, _, rfl, (fun h => by cases h), fun k hk => ⟨q, off, rfl, (Array.getElem?_eq_some_iff.1 hq).1, by rw [Lib.cell_of_heap hq]; exact hA k hk⟩⟩
theorem byC_part (h : List UInt8) (o n : Nat) (k : Nat) (hk : k < ((h.drop o).take n).length) : (byC h).toArray[o + k]? = some (.int .u8 ((h.drop o).take n)[k].toNat) := by
  rw [List.length_take, List.length_drop] at hk
  rw [List.getElem?_toArray, byC_get h (o + k) (by omega)]
  simp
set_option maxHeartbeats 4000000 in
theorem sumOf_any (h : List UInt8) (v : Value) (b : List UInt8) (w : World) (h8 : h.length = 8) (hb : b.length ≤ 140737488351232) (hB : Bytes w v b) :
    Calls Tryz.prog 48 #[pgV h, v] w fun e w' => e = .returned (.int .u16 (crc16 (h.take 6 ++ b))) ∧ Below w.heap.size w w' := by
  obtain ⟨A, hA⟩ : ∃ A, (byC h).toArray = A := ⟨_, rfl⟩
  have hAs : A.size = 8 := by rw [← hA]; simp [Lib.byteCells, h8]
  have HA : Hid (∀ k (hk : k < (h.take 6).length), A[0 + k]? = some (.int .u8 (h.take 6)[k].toNat)) := by
    intro k hk
    have := byC_part h 0 6 k (by simpa using hk)
    rw [hA] at this
    simpa using this
  have hl6 : (h.take 6).length = 6 := by simp [h8]
  have B1 : Below w.heap.size w (w.alloc (.cells A 81)) := (Below.refl _ w).alloc (Nat.le_refl _) _
  have hq := heap_alloc_new w (.cells A 81 (0, 0))
  obtain ⟨av, cv, rfl⟩ := bytes_shapeN hB
  obtain ⟨nb, hnb⟩ : ∃ n, b.length = n := ⟨_, rfl⟩
  rw [hnb] at hB hb ⊢
  have HNB := hidOf hnb
  obtain ⟨w1, hw1⟩ : ∃ x, w.alloc (.cells A 81) = x := ⟨_, rfl⟩
  obtain ⟨q, hqs⟩ : ∃ q, w.heap.size = q := ⟨_, rfl⟩
  rw [hw1] at B1 hq
  rw [hqs] at hq
  have hb2 : Below w.heap.size w (w1.alloc (.cells #[.slice (some ⟨q, 0, none⟩) 6 8, .slice av nb cv] 24)) := B1.alloc B1.size _
  have hq2 : (w1.alloc (.cells #[.slice (some ⟨q, 0, none⟩) 6 8, .slice av nb cv] 24)).heap[q]? = some (.cells A 81 (0, 0)) := (Below.heap_alloc w1 _ q (Array.getElem?_eq_some_iff.1 hq).1).trans hq
  have hC := Concat_two w1.heap.size 2 (.slice (some ⟨q, 0, none⟩) 6 8) (.slice av nb cv) (h.take 6) b (w1.alloc (.cells #[.slice (some ⟨q, 0, none⟩) 6 8, .slice av nb cv] 24)) (by omega) (by omega) (heap_alloc_new w1 _) (bytes_cells hq2 8 hl6 HA.out) (hB.below hb2)
  have HB2 := hidOf hb2
  unfold pgV
  rw [hA]
  have HL : Hid ((h.take 6 ++ b).length ≤ maxLen) := by show _ ≤ _; unfold maxLen; simp; omega
  obtain ⟨w2, hw2⟩ : ∃ x, w1.alloc (.cells #[.slice (some ⟨q, 0, none⟩) 6 8, .slice av nb cv] 24) = x := ⟨_, rfl⟩
  rw [hw2] at hC HB2
  generalize h.take 6 ++ b = L at *
  clear hq2 hb2 hB hA B1 HA hl6 h8
  go_enter Tryz.func48, Tryz.ntmps48
  go_wp2_with (first | (go_at_call 74; refine hC.mono ?_; rintro e w3 ⟨x, rfl, hx, hbb⟩; have HX := hidOf hx; have HB3 := hidOf (HB2.out.trans (hbb.mono HB2.out.size)); have hcr := CRC16_bytes x L w3 HL.out hx; clear hx hbb) | (go_at_call 73; refine hcr.mono ?_; rintro e w4 ⟨rfl, hw4⟩; rw [hw4]; clear hw4 w4))
  go_ret
  exact ⟨rfl, HB3.out⟩
end Go.Proofs.YtjlbahgjjdfaeaaGreat.Nz
namespace Go.Proofs.YtjlbahgjjdfaeaaGreat.Nz
open Go.RowKit Go.Proofs.Ty Go.Proofs.Nv Go.Proofs.Bits
set_option linter.unusedVariables false
set_option maxRecDepth 1000000
set_option linter.unusedSimpArgs false
theorem wpList_copyN (w : World) {ops : Array Oper} {rest : List Oper} {o : Oper} {a : Act} {Q : Exit → Act → World → Prop} (hgd : o.guard = none) (d s : Operand) (t t' : TypeId)
    (ho : o.op = .call { callee := .builtin .copy, args := #[d, s], argTypes := #[t, t'] }) (v u : Value) (hd : a.eval d = v) (hs : a.eval s = u) {v' : Value} {w' : World}
    (hr : (Builtin.copy_ #[t, t'] o.type #[v, u]).run Tryz.prog w = .ok v' w') (h : wpList Tryz.prog ops Q rest (a.put o.dst v') w') : wpList Tryz.prog ops Q (o :: rest) a w :=
  wpList_plain hgd fun K hK => by
    have h2 := hK _ _ h
    unfold Oper.wp execOp
    simp only [ho, resolve, invoke, builtin, Sem.run_bind, Sem.run_pure, Result.andThen_ok, List.map_toArray, List.map_cons, List.map_nil, hd, hs, hr]
    exact h2
theorem slN {w : World} {ops : Array Oper} {rest : List Oper} {Q : Exit → Act → World → Prop} {a : Act} {o : Oper} (x : Operand) (lo hi : Option Operand) (v u : Value) (lo' hi' : Option Value) (hgd : Region.wanted o (yielded ops a.tmps) = true) (ho : o.op = .slice 24 x lo hi none) (hx : a.eval x = v) (hlo : lo.map a.eval = lo') (hhi : hi.map a.eval = hi') (hr : ∀ W, (Instr.sliceAt 24 v lo' hi' none).run Tryz.prog W = .ok u W)
    (hh : wpList Tryz.prog ops Q rest (a.put o.dst u) w) : wpList Tryz.prog ops Q (o :: rest) a w := by
  refine BigFrame.wpList_want hgd fun K hK => ?_
  have h2 := hK _ _ hh
  unfold Oper.wp execOp
  simp only [ho, hx, hlo, hhi, Option.map_none, Sem.run_bind, hr, Result.andThen_ok, Sem.run_pure]
  exact h2
theorem tailN (q o N m : Nat) (hm : m ≤ N) : ∃ a, (∀ W, (Instr.sliceAt 24 (.slice (some ⟨q, o, none⟩) N N) (some (.int .i64 m)) none none).run Tryz.prog W = .ok (.slice (some a) (N - m) (N - m)) W) ∧ (m < N → a = ⟨q, o + m, none⟩) := by
  obtain ⟨i0, hi0, hz0, hz1, hz2⟩ := info_parts info5
  have a0 : (0 : Int) ≤ (m : Int) := by omega
  have a1 : (m : Int) ≤ (N : Int) := by omega
  refine ⟨if N = m then ⟨q, o, none⟩ else if m = 0 then ⟨q, o, none⟩ else ⟨q, o + m, none⟩, fun W => ?_, fun h => ?_⟩
  · simp [Instr.sliceAt, run_underlying Tryz.underlying24, go_sem, sizeOf, typeInfo, hi0, hz1, Addr.add, a0, a1]
    try (split <;> rfl)
  · rw [if_neg (by omega)]
    split
    · rename_i e; subst e; rfl
    · rfl
/-- A slice in a block from B on, with room for what it holds. -/
def Fr (B : Nat) (v : Value) : Prop := ∀ ao n k, v = .slice ao n k → n ≤ k ∧ ∀ ad, ao = some ad → B ≤ ad.block
theorem Fr.nil (B : Nat) : Fr B (.slice none 0 0) := fun ao n k h => by injection h with h1 h2 h3; subst h1 h2 h3; exact ⟨Nat.le_refl _, fun ad e => by cases e⟩
theorem Fr.mono {B B' : Nat} {v : Value} (h : Fr B v) (hb : B' ≤ B) : Fr B' v := fun ao n k e => ⟨(h ao n k e).1, fun ad ea => Nat.le_trans hb ((h ao n k e).2 ad ea)⟩
/-- What has been read when so many pages were. -/
def rdK (b : List UInt8) (k : Nat) : List UInt8 := b.take (8 * k) ++ List.replicate (b.length - 8 * k) 0
theorem rdK_len (b : List UInt8) (k : Nat) : (rdK b k).length = b.length := by simp [rdK]; omega
theorem rdK_zero (b : List UInt8) : rdK b 0 = List.replicate b.length 0 := by simp [rdK]
theorem rdK_end (b : List UInt8) (k : Nat) (h : b.length ≤ 8 * k) : rdK b k = b := by
  simp [rdK, List.take_of_length_le h]; omega
theorem rdK_step (b p : List UInt8) (k : Nat) (h : 8 * k < b.length) (hp : p = (b.drop (8 * k)).take 8) : splice (rdK b k) (8 * k) p = rdK b (k + 1) := by
  subst hp
  apply List.ext_getElem?
  intro j
  have hl : ((b.drop (8 * k)).take 8).length = min 8 (b.length - 8 * k) := by rw [List.length_take, List.length_drop]
  rw [splice_get (by rw [rdK_len, hl]; omega), hl]
  have e : ∀ k j, (rdK b k)[j]? = if j < 8 * k then b[j]? else if j < b.length then some 0 else none := by
    intro k j
    unfold rdK
    by_cases h1 : j < 8 * k
    · rw [if_pos h1]
      by_cases h2 : j < b.length
      · rw [List.getElem?_append_left (by rw [List.length_take]; omega), List.getElem?_take, if_pos h1]
      · rw [List.getElem?_append_right (by rw [List.length_take]; omega), List.getElem?_eq_none (by simp; omega), List.getElem?_eq_none (by omega)]
    · rw [if_neg h1]
      by_cases h2 : j < b.length
      · rw [if_pos h2, List.getElem?_append_right (by rw [List.length_take]; omega), List.getElem?_replicate, if_pos (by rw [List.length_take]; omega)]
      · rw [if_neg h2, List.getElem?_eq_none (by simp; omega)]
  rw [e, e]
  by_cases h1 : 8 * k ≤ j ∧ j < 8 * k + min 8 (b.length - 8 * k)
  · rw [if_pos h1, if_pos (by omega), List.getElem?_take, if_pos (by omega), List.getElem?_drop]
    congr 1
    omega
  · rw [if_neg h1]
    by_cases h2 : j < 8 * k
    · rw [if_pos h2, if_pos (by omega)]
    · rw [if_neg h2]
      by_cases h3 : j < b.length
      · rw [if_pos h3, if_neg (by omega)]
      · rw [if_neg h3]
        by_cases h4 : j < 8 * (k + 1)
        · rw [if_pos h4, List.getElem?_eq_none (by omega)]
        · rw [if_neg h4]
theorem madeN (n : Nat) : madeCells #[.int .u8 0] n = (byC (List.replicate n 0)).toArray := by
  apply Array.ext
  · simp [size_madeCells, Lib.byteCells]
  · intro i h1 h2
    simp [madeCells, Nat.mod_one, Lib.byteCells]
section
variable {C P : Nat} {c : Ch} {w : World}
theorem page_part (h : c.Ok) (p cnt k : Nat) (hc : 8 * p + cnt ≤ 8 * c.n) (hk : 8 * k < cnt) : c.rd ((p + k : Nat) : Int) = (c.pg.drop (8 * (p + k))).take 8 ∧ ((c.rd ((p + k : Nat) : Int)).take (min 8 (cnt - 8 * k))) = ((((c.pg.drop (8 * p)).take cnt).drop (8 * k)).take 8) := by
  have e1 : c.rd ((p + k : Nat) : Int) = (c.pg.drop (8 * (p + k))).take 8 := by
    unfold Ch.rd
    rw [if_pos (by simp [Ch.has]; omega), Int.toNat_natCast]
  refine ⟨e1, ?_⟩
  rw [e1]
  apply List.ext_getElem?
  intro j
  simp only [List.getElem?_take, List.getElem?_drop]
  by_cases h1 : j < min 8 (cnt - 8 * k)
  · rw [if_pos h1, if_pos (by omega), if_pos (by omega), if_pos (by omega)]
    congr 1
    omega
  · rw [if_neg h1]
    by_cases h2 : j < 8
    · rw [if_pos h2, if_neg (by omega)]
    · rw [if_neg h2]
set_option maxHeartbeats 4000000 in
theorem readBytes_any (h : Cm C P c w) (p cnt : Nat) (hc : 8 * p + cnt ≤ 8 * c.n) :
    Calls Tryz.prog 71 #[.pointer (some ⟨C, 0, none⟩), .int .i64 p, .int .i64 cnt] w fun e w' => ∃ v, e = .returned v ∧ Bytes w' v ((c.pg.drop (8 * p)).take cnt) ∧ Below w.heap.size w w' ∧ Fr w.heap.size v := by
  have hhi := h.ok.hi
  obtain ⟨i0, hi0, hz0, hz1, hz2⟩ := info_parts info5
  obtain ⟨b, hb⟩ : ∃ b, (c.pg.drop (8 * p)).take cnt = b := ⟨_, rfl⟩
  have hbl : b.length = cnt := by rw [← hb, List.length_take, List.length_drop, h.ok.len]; omega
  have hq0 := heap_alloc_new w (.cells (madeCells #[.int .u8 0] cnt) 5 (0, 0))
  rw [madeN] at hq0
  have B1 : Below w.heap.size w (w.alloc (.cells (byC (List.replicate cnt 0)).toArray 5)) := (Below.refl _ w).alloc (Nat.le_refl _) _
  obtain ⟨q, hqs⟩ : ∃ q, w.heap.size = q := ⟨_, rfl⟩
  obtain ⟨w1, hw1⟩ : ∃ x, w.alloc (.cells (byC (List.replicate cnt 0)).toArray 5) = x := ⟨_, rfl⟩
  rw [hw1] at B1 hq0
  rw [hqs] at hq0
  have HM : Hid (∀ W : World, (Instr.makeSlice 24 (.int .i64 cnt) (.int .i64 cnt)).run Tryz.prog w = .ok (.slice (some ⟨q, 0, none⟩) cnt cnt) w1) := by
    intro W
    have := run_make (P := Tryz.prog) w 24 5 i0 (.int .u8 0) Tryz.underlying24 hi0 hz0 .i64 .i64 cnt cnt (by omega) (Int.le_refl _) (by rw [hz2]; omega) (by omega)
    rw [hz1, Int.toNat_natCast, Nat.mul_one, hqs] at this
    rw [this, show (Value.int .u8 0).cells = #[.int .u8 0] from rfl, madeN, hw1]
  have hmk := HM.out w
  have HPP : Hid (∀ k, 8 * k < cnt → (c.rd ((p + k : Nat) : Int)).take (min 8 (cnt - 8 * k)) = (b.drop (8 * k)).take 8 ∧ (c.rd ((p + k : Nat) : Int)).length = 8) := by
    intro k hk
    obtain ⟨e1, e2⟩ := page_part h.ok p cnt k hc hk
    rw [hb] at e2
    exact ⟨e2, by rw [e1, List.length_take, List.length_drop, h.ok.len]; omega⟩
  have HC := hidOf h
  have HQS := hidOf hqs
  have HB1 := hidOf B1
  have HBL := hidOf hbl
  rw [hb]
  have hpc : 8 * p + cnt ≤ 262144 := by omega
  clear hb h HM B1 hbl hw1 hc
  go_enter Tryz.func71, Tryz.ntmps71
  go_wp2
  go_loopw [1, 8] (fun pg rs wr => ∃ (k : Nat) (a : Addr), pg = .int .i64 (p + k : Nat) ∧ rs = .slice (some a) (cnt - 8 * k) (cnt - 8 * k) ∧ (8 * k < cnt → a = ⟨q, 8 * k, none⟩) ∧ 8 * k < cnt + 8 ∧ Hid (wr.heap[q]? = some (.cells (byC (rdK b k)).toArray 5 (0, 0))) ∧ Hid (Below w.heap.size w wr)) (fun _ rs _ => match rs with | .slice _ n _ => n | _ => 0)
  case atStart => exact ⟨0, ⟨q, 0, none⟩, by simp, rfl, fun _ => rfl, by omega, by rw [rdK_zero, HBL.out]; exact hq0, HB1⟩
  case round =>
    clear hq0 HB1 hmk
    obtain ⟨k, a, rfl, rfl, ha, hk, HQ, HB⟩ := hrel
    by_cases hkl : 8 * k < cnt
    · obtain rfl := ha hkl
      obtain ⟨e2, l8⟩ := HPP.out k hkl
      have hrd := Read_any (HC.out.below HB.out) ((p + k : Nat) : Int)
      obtain ⟨X, hX⟩ : ∃ X, c.rd ((p + k : Nat) : Int) = X := ⟨_, rfl⟩
      rw [hX] at e2 l8 hrd
      have hNp : 0 < cnt - 8 * k := by omega
      obtain ⟨N, hN⟩ : ∃ N, cnt - 8 * k = N := ⟨_, rfl⟩
      obtain ⟨m, hm⟩ : ∃ m, min 8 (cnt - 8 * k) = m := ⟨_, rfl⟩
      rw [hm] at e2
      rw [hN] at hNp ⊢
      have hmN : m ≤ N ∧ m ≤ 8 ∧ (m < N → m = 8) := by omega
      have HMN : Hid (cnt - 8 * (k + 1) = N - m) := by show _ = _; omega
      have HXm : Hid ((X.take m).length = m) := by show _ = _; rw [List.length_take]; omega
      obtain ⟨ta, htl, hta⟩ := tailN q (8 * k) N m hmN.1
      have HE2 := hidOf (rdK_step b (X.take m) k (by rw [HBL.out]; exact hkl) e2)
      have HL8 := hidOf l8
      have hNp' : (0 : Int) < (N : Int) := by omega
      have HBQ : Hid (8 * k + m ≤ b.length) := by show _ ≤ _; rw [HBL.out]; omega
      unfold pgV at hrd
      obtain ⟨A, hA⟩ : ∃ A, (byC X).toArray = A := ⟨_, rfl⟩
      rw [hA] at hrd
      have hAs : A.size = 8 := by rw [← hA]; simp [Lib.byteCells, l8]
      have HAone : Hid (A.all (·.oneCell') = true) := by rw [← hA]; exact all_oneCell_toArray (byteCells_one X)
      have HA := hidOf hA
      have HTA : Hid (8 * (k + 1) < cnt → ta = ⟨q, 8 * (k + 1), none⟩) := fun hlt => by rw [hta (by omega)]; congr 1; omega
      have HW : Hid (∀ w2, Below wr.heap.size wr w2 → ∃ w3 q2, w2.alloc (.cells #[.int .u8 0, .int .u8 0, .int .u8 0, .int .u8 0, .int .u8 0, .int .u8 0, .int .u8 0, .int .u8 0] 81) = w3 ∧ w2.heap.size = q2 ∧ w3.heap[q2]? = some (.cells #[.int .u8 0, .int .u8 0, .int .u8 0, .int .u8 0, .int .u8 0, .int .u8 0, .int .u8 0, .int .u8 0] 81 (0, 0)) ∧
          ∃ w5, (∀ ty, (Builtin.copy_ #[24, 24] ty #[.slice (some ⟨q, 8 * k, none⟩) N N, .slice (some ⟨q2, 0, none⟩) 8 8]).run Tryz.prog (w3.setRow q2 A) = .ok (.int .i64 m) w5) ∧ Hid (w5.heap[q]? = some (.cells (byC (rdK b (k + 1))).toArray 5 (0, 0))) ∧ Hid (Below w.heap.size w w5)) := by
        intro w2 hb2
        have hqlt : q < wr.heap.size := (Array.getElem?_eq_some_iff.1 HQ.out).1
        have b3 := hb2.alloc hb2.size (.cells #[.int .u8 0, .int .u8 0, .int .u8 0, .int .u8 0, .int .u8 0, .int .u8 0, .int .u8 0, .int .u8 0] 81)
        have hq2 := heap_alloc_new w2 (.cells #[.int .u8 0, .int .u8 0, .int .u8 0, .int .u8 0, .int .u8 0, .int .u8 0, .int .u8 0, .int .u8 0] 81 (0, 0))
        refine ⟨_, _, rfl, rfl, hq2, ?_⟩
        generalize w2.alloc (.cells #[.int .u8 0, .int .u8 0, .int .u8 0, .int .u8 0, .int .u8 0, .int .u8 0, .int .u8 0, .int .u8 0] 81) = w3 at *
        have hsz := hb2.size
        have b4 := below_row b3 (q := w2.heap.size) hsz b3.size A
        have hq4 := Go.Proofs.YtjlbahgjjdfaeaaGreat.setRow_heap w3 w2.heap.size _ A _ _ hq2
        have hqq : (w3.setRow w2.heap.size A).heap[q]? = some (.cells (byC (rdK b k)).toArray 5 (0, 0)) := (b4.block q hqlt).trans HQ.out
        generalize w3.setRow w2.heap.size A = w4 at *
        have hcp := fun ty => run_copy_row (P := Tryz.prog) w4 24 24 ty 5 q (8 * k) N N ⟨w2.heap.size, 0, none⟩ 8 8 _ 5 (byC (X.take m)) Tryz.underlying24 (by obtain ⟨i0, hi0, hz0, hz1, hz2⟩ := info_parts info5; rw [hi0]; simp [hz1]) hqq (by rw [byC_len, HXm.out]; show m = min 8 N; omega) (fun j v hv => by
          rw [Addr.add_mid, Lib.cell_of_heap hq4, ← HA.out, List.getElem?_toArray, Nat.zero_add]
          have hj : j < m := by have := (List.getElem?_eq_some_iff.1 hv).1; rwa [byC_len, HXm.out] at this
          rw [← hv]
          simp [Lib.byteCells, List.getElem?_take, hj]) (by rw [List.size_toArray, byC_len, byC_len, rdK_len, HXm.out]; exact HBQ.out) (byteCells_one _)
        rw [byC_len, HXm.out] at hcp
        refine ⟨_, hcp, ?_, ?_⟩
        · show _ = _
          have := Go.Proofs.YtjlbahgjjdfaeaaGreat.setRow_heap w4 q _ (List.take (8 * k) (byC (rdK b k)).toArray.toList ++ byC (X.take m) ++ List.drop (8 * k + m) (byC (rdK b k)).toArray.toList).toArray _ _ hqq
          rw [this, ← HE2.out, byC_splice, splice, byC_len, HXm.out]
        · have hle := HB.out.size
          exact below_row (HB.out.trans (b4.mono hle)) (q := q) (by rw [HQS.out]; exact Nat.le_refl _) (HB.out.trans (b4.mono hle)).size _
      clear HPP e2 l8 hA hX hta HE2 HXm HBQ HC hm ha
      have hgt : decide ((0 : Int) < (N : Int)) = true := by simpa using hNp'
      go_wp2_with (first | (go_at_call 69; refine hrd.mono ?_; rintro e w2 ⟨rfl, hb2⟩; obtain ⟨w3, q2, hw3, hq2s, hq2, w5, hcp, HQ5, HB5⟩ := HW.out w2 hb2; clear hb2 HW) | (refine wpList_store_row rfl 81 _ _ rfl q2 A rfl rfl 81 _ hq2 (by rw [hAs]; exact infoA8) (by rw [hAs]; rfl) HAone.out ?_) | (at_builtin; refine wpList_copyN _ rfl _ _ _ _ rfl _ _ rfl rfl (hcp _) ?_) | (refine slN _ _ _ _ _ _ _ rfl rfl rfl rfl rfl htl ?_))
      go_roundw
      case rel => exact ⟨k + 1, ta, val_intM (by first | omega | (simp only [wrap64]; omega)), by rw [HMN.out], HTA.out, by omega, HQ5, HB5⟩
      case measure => simp only; omega
    · go_wp2
      go_ret
      refine ⟨_, rfl, ?_, HB.out, fun ao n k e => by injection e with e1 e2 e3; subst e1 e2 e3; exact ⟨Nat.le_refl _, fun ad ea => by cases ea; rw [HQS.out]; exact Nat.le_refl _⟩⟩
      rw [← rdK_end b k (by rw [HBL.out]; omega)]
      have := bytes_cells (w := wr) (q := q) (off := 0) (l := rdK b k) (cap := cnt) HQ.out rfl (fun j hj => by rw [Nat.zero_add, List.getElem?_toArray]; exact byC_get _ _ hj)
      rw [rdK_len, HBL.out] at this
      exact this
end
end Go.Proofs.YtjlbahgjjdfaeaaGreat.Nz
namespace Go.Proofs.YtjlbahgjjdfaeaaGreat.Nz
open Go.RowKit Go.Proofs.Ty Go.Proofs.Nv Go.Proofs.Bits
set_option linter.unusedVariables false
set_option maxRecDepth 1000000
set_option linter.unusedSimpArgs false
theorem wp_callN {o : Oper} {a : Act} {w : World} {K : Act → World → Prop} {Q : Exit → Act → World → Prop} (g : Nat) (args : Array Value) (hr : (execOp a.eval o).run Tryz.prog w = .ok (.enter g args) w)
    (h : Calls Tryz.prog g args w fun
      | .returned v, w'' => K (a.put o.dst v) w''
      | .panicked chain, w'' => Q (.panic chain) a w''
      | .outgrown, _ => LetsOut Q) : o.wp Tryz.prog a w K Q := by
  unfold Oper.wp
  rw [hr]
  exact h
theorem wp_loadN {o : Oper} {a : Act} {w : World} {K : Act → World → Prop} {Q : Exit → Act → World → Prop} (ty : TypeId) (x : Operand) (ho : o.op = .load ty x) (b k : Nat) (hx : a.eval x = .pointer (some ⟨b, k, none⟩)) (v : Value)
    (hr : (loadVar ty ⟨b, k, none⟩).run Tryz.prog w = .ok v w) (h : K (a.put o.dst v) w) : o.wp Tryz.prog a w K Q := by
  unfold Oper.wp execOp
  simp only [ho, hx, Instr.loadAt, Instr.sureAddr, Sem.run_bind, Sem.run_pure, Result.andThen_ok, hr]
  exact h
theorem enterN_pn : ∀ args x, (callFunc 47 args).run Tryz.prog x = .ok (.enter 47 args) x := fun _ _ => by rfl
theorem enterN_so : ∀ args x, (callFunc 48 args).run Tryz.prog x = .ok (.enter 48 args) x := fun _ _ => by rfl
theorem next_any (k : Nat) (hk : k < 65536) (w : World) : Calls Tryz.prog 28 #[.int .u16 k] w fun e w' => e = .returned (.int .u16 (nxt k)) ∧ w' = w := by
  have HN : Hid (nxt k = if k = 65535 then 1 else k + 1) := rfl
  generalize nxt k = m at *
  by_cases h : k = 65535
  · subst h
    go_enter Tryz.func28, Tryz.ntmps28
    go_wp2
    go_ret
    exact ⟨ret_int (by rw [HN.out]; rfl), rfl⟩
  · have hd : ((k : Int) == 65535) = false := by simp; omega
    go_enter Tryz.func28, Tryz.ntmps28
    go_wp2
    go_ret
    exact ⟨ret_int (by rw [HN.out, if_neg h]; first | omega | (rw [IntKind.wrap_u16]; omega)), rfl⟩
theorem splice_full (z x : List UInt8) (h : x.length = z.length) : splice z 0 x = x := by
  simp [splice, h]
theorem head_steps (k : Nat) (b : List UInt8) : splice (splice zero8 0 (le k 2)) 2 (le b.length 4) = splice zero8 0 (le k 2 ++ le b.length 4) ∧ (splice zero8 0 (le k 2 ++ le b.length 4)).take 6 = le k 2 ++ le b.length 4 ∧
    splice (splice zero8 0 (le k 2 ++ le b.length 4)) 6 (le (crc16 (le k 2 ++ le b.length 4 ++ b)) 2) = head k b := by
  have e2 : (le k 2).length = 2 := le_len _ _
  have e4 : (le b.length 4).length = 4 := le_len _ _
  have e1 : (le (crc16 (le k 2 ++ le b.length 4 ++ b)) 2).length = 2 := le_len _ _
  refine ⟨?_, ?_, ?_⟩
  · have := splice_next (l := zero8) (o := 0) (x := le k 2) (y := le b.length 4) (by rw [e2, e4, zero8_len]; omega)
    rw [e2, Nat.zero_add] at this
    exact this
  · unfold splice
    rw [List.append_assoc, List.take_zero, List.nil_append, List.take_append_of_le_length (by simp [e2, e4]), List.take_of_length_le (by simp [e2, e4])]
  · have := splice_next (l := zero8) (o := 0) (x := le k 2 ++ le b.length 4) (y := le (crc16 (le k 2 ++ le b.length 4 ++ b)) 2) (by rw [List.length_append, e2, e4, e1, zero8_len]; omega)
    rw [List.length_append, e2, e4, Nat.zero_add] at this
    rw [this, splice_full _ _ (by rw [List.length_append, List.length_append, e2, e4, e1, zero8_len])]
    rfl
theorem zero8_cells : (byC zero8).toArray = #[.int .u8 0, .int .u8 0, .int .u8 0, .int .u8 0, .int .u8 0, .int .u8 0, .int .u8 0, .int .u8 0] := rfl
theorem Two.belowN {q : Nat} {a b c : World} (h1 : Below a.heap.size a b) (hq : a.heap.size ≤ q) (h : Two q q b c) : Below a.heap.size a c :=
  ⟨h.os.trans h1.os, h.tape.trans h1.tape, h.output.trans h1.output, Nat.le_trans h1.size h.size, fun k hk => (h.block k (Nat.lt_of_lt_of_le hk h1.size) (by omega) (by omega)).trans (h1.block k hk)⟩
set_option maxHeartbeats 4000000 in
theorem headOf_any (k : Nat) (hk : k < 65536) (v : Value) (b : List UInt8) (w : World) (hb : b.length ≤ 1000000) (hB : Bytes w v b) :
    Calls Tryz.prog 27 #[.int .u16 k, v] w fun e w' => e = .returned (pgV (head k b)) ∧ Below w.heap.size w w' := by
  obtain ⟨s1, s2, s3⟩ := head_steps k b
  obtain ⟨av, cv, rfl⟩ := bytes_shapeN hB
  have hcr := crc16_lt (le k 2 ++ le b.length 4 ++ b)
  obtain ⟨nb, hnb⟩ : ∃ n, b.length = n := ⟨_, rfl⟩
  have HHd := hidOf s3
  have HH8 := hidOf (head_len k b)
  obtain ⟨hd, hhd⟩ : ∃ x, head k b = x := ⟨_, rfl⟩
  rw [hhd] at HHd HH8 ⊢
  rw [hnb] at s1 s2 HHd hB hcr ⊢ hb
  have hq0 := heap_alloc_new w (.cells #[.int .u8 0, .int .u8 0, .int .u8 0, .int .u8 0, .int .u8 0, .int .u8 0, .int .u8 0, .int .u8 0] 81 (0, 0))
  have B1 : Below w.heap.size w (w.alloc (.cells #[.int .u8 0, .int .u8 0, .int .u8 0, .int .u8 0, .int .u8 0, .int .u8 0, .int .u8 0, .int .u8 0] 81)) := (Below.refl _ w).alloc (Nat.le_refl _) _
  obtain ⟨w1, hw1⟩ : ∃ x, w.alloc (.cells #[.int .u8 0, .int .u8 0, .int .u8 0, .int .u8 0, .int .u8 0, .int .u8 0, .int .u8 0, .int .u8 0] 81) = x := ⟨_, rfl⟩
  obtain ⟨q0, hq0s⟩ : ∃ q, w.heap.size = q := ⟨_, rfl⟩
  rw [hw1] at hq0 B1
  rw [hq0s] at hq0
  have hq := heap_alloc_new w1 (.cells #[.int .u8 0, .int .u8 0, .int .u8 0, .int .u8 0, .int .u8 0, .int .u8 0, .int .u8 0, .int .u8 0] 81 (0, 0))
  have B2 : Below w.heap.size w (w1.alloc (.cells #[.int .u8 0, .int .u8 0, .int .u8 0, .int .u8 0, .int .u8 0, .int .u8 0, .int .u8 0, .int .u8 0] 81)) := B1.alloc B1.size _
  have hq02 : (w1.alloc (.cells #[.int .u8 0, .int .u8 0, .int .u8 0, .int .u8 0, .int .u8 0, .int .u8 0, .int .u8 0, .int .u8 0] 81)).heap[q0]? = some (.cells #[.int .u8 0, .int .u8 0, .int .u8 0, .int .u8 0, .int .u8 0, .int .u8 0, .int .u8 0, .int .u8 0] 81 (0, 0)) := (Below.heap_alloc w1 _ q0 (Array.getElem?_eq_some_iff.1 hq0).1).trans hq0
  obtain ⟨w2, hw2⟩ : ∃ x, w1.alloc (.cells #[.int .u8 0, .int .u8 0, .int .u8 0, .int .u8 0, .int .u8 0, .int .u8 0, .int .u8 0, .int .u8 0] 81) = x := ⟨_, rfl⟩
  obtain ⟨q, hqs⟩ : ∃ q, w1.heap.size = q := ⟨_, rfl⟩
  rw [hw2] at hq B2 hq02
  rw [hqs] at hq
  have hqq : q0 ≠ q := by have := (Array.getElem?_eq_some_iff.1 hq0).1; omega
  have hwq : w.heap.size ≤ q := by have := B1.size; omega
  rw [← zero8_cells] at hq
  have hp1 := putNumber_any q 0 2 8 k zero8 w2 (by omega) (by omega) (by rw [zero8_len]; omega) hq
  have HP2 : Hid (∀ w3, w3.heap[q]? = some (.cells (byC (splice zero8 0 (le k 2))).toArray 81 (0, 0)) → Calls Tryz.prog 47 #[.slice (some ⟨q, 2, none⟩) 4 6, .int .u64 nb] w3 fun e w' => (∃ v, e = .returned v) ∧ w'.heap[q]? = some (.cells (byC (splice zero8 0 (le k 2 ++ le nb 4))).toArray 81 (0, 0)) ∧ Two q q w3 w') := by
    intro w3 h3
    have := putNumber_any q 2 4 6 nb _ w3 (by omega) (by omega) (by rw [splice_len (by rw [le_len, zero8_len]; omega), zero8_len]; omega) h3
    rw [s1] at this
    exact this
  obtain ⟨h4, hh4⟩ : ∃ x, splice zero8 0 (le k 2 ++ le nb 4) = x := ⟨_, rfl⟩
  have h48 : h4.length = 8 := by rw [← hh4, splice_len (by rw [List.length_append, le_len, le_len, zero8_len]; omega), zero8_len]
  rw [hh4] at HP2 HHd s2
  obtain ⟨A4, hA4⟩ : ∃ x, (byC h4).toArray = x := ⟨_, rfl⟩
  have hA4s : A4.size = 8 := by rw [← hA4, List.size_toArray, byC_len, h48]
  obtain ⟨sm, hsm⟩ : ∃ x, crc16 (le k 2 ++ le nb 4 ++ b) = x := ⟨_, rfl⟩
  rw [hsm] at hcr HHd
  have HS : Hid (∀ w4, Below w.heap.size w w4 → Calls Tryz.prog 48 #[.agg A4, .slice av nb cv] w4 fun e w' => e = .returned (.int .u16 (sm : Int)) ∧ Below w4.heap.size w4 w') := by
    intro w4 b4
    have := sumOf_any h4 (.slice av nb cv) b w4 h48 (by omega) (hB.below b4)
    rw [s2, hsm, pgV, hA4] at this
    exact this
  have HB2 := hidOf B2
  have HFIN : Hid (∀ w4 w5 w6, Below w.heap.size w w4 → Below w4.heap.size w4 w5 → Two q q w5 w6 → Below w.heap.size w w6) := fun w4 w5 w6 b4 b5 t6 => Two.belowN (b4.trans (b5.mono b4.size)) hwq t6
  have HT : Hid (∀ a b, Below w.heap.size w a → Two q q a b → Below w.heap.size w b) := fun a b h t => Two.belowN h hwq t
  have HPP3 : Hid (∀ w5, w5.heap[q]? = some (.cells A4 81 (0, 0)) → Calls Tryz.prog 47 #[.slice (some ⟨q, 6, none⟩) 2 2, .int .u64 (sm : Int)] w5 fun e w' => (∃ v, e = .returned v) ∧ w'.heap[q]? = some (.cells (byC hd).toArray 81 (0, 0)) ∧ Two q q w5 w') := by
    intro w5 h5
    rw [← hA4] at h5
    have := putNumber_any q 6 2 2 sm h4 w5 (by omega) (by omega) (by omega) h5
    rw [HHd.out] at this
    exact this
  rw [hA4] at HP2
  have hone : (byC hd).toArray.all (·.oneCell') = true := all_oneCell_toArray (byteCells_one hd)
  have hs8 : (byC hd).toArray.size = 8 := by rw [List.size_toArray, byC_len]; exact HH8.out
  unfold pgV
  generalize (byC hd).toArray = AH at *
  have hcv : IntKind.u64.wrap (sm : Int) = (sm : Int) := by rw [wrapUN]; omega
  clear hA4 hsm hh4 s1 s2 s3 hB hhd hnb HHd B1 B2 hq
  go_enter Tryz.func27, Tryz.ntmps27
  go_upto_region 4 with (first | (go_at_call 47; refine hp1.mono ?_; clear hp1; rintro e w3 ⟨⟨v3, rfl⟩, hq3, ht3⟩; have hp2 := HP2.out w3 hq3; clear HP2) | (go_at_call 47; refine hp2.mono ?_; clear hp2; rintro e w4 ⟨⟨v4, rfl⟩, hq4, ht4⟩))
  have b4 := bdr (HT.out w3 w4 (HT.out w2 w3 HB2.out ht3) ht4) 1
  change Below _ _ w4.drew at b4
  have hsum := HS.out w4.drew b4
  have hq4d : w4.drew.heap[q]? = some (.cells A4 81 (0, 0)) := hq4
  have hqlt : q < w4.drew.heap.size := (Array.getElem?_eq_some_iff.1 hq4d).1
  have hq0lt : q0 < w2.heap.size := (Array.getElem?_eq_some_iff.1 hq02).1
  have HQ06 : Hid (∀ w5 w6, Below w4.drew.heap.size w4.drew w5 → Two q q w5 w6 → w6.heap[q0]? = some (.cells #[.int .u8 0, .int .u8 0, .int .u8 0, .int .u8 0, .int .u8 0, .int .u8 0, .int .u8 0, .int .u8 0] 81 (0, 0))) := by
    intro w5 w6 b5 t6
    have s3 := ht3.size
    have s4 := ht4.size
    have s5 := b5.size
    change w4.heap.size ≤ w5.heap.size at s5
    have h3 := (ht3.block q0 hq0lt hqq hqq).trans hq02
    have h4 : w4.drew.heap[q0]? = _ := (ht4.block q0 (by omega) hqq hqq).trans h3
    have h5 := (b5.block q0 (by show q0 < w4.heap.size; omega)).trans h4
    exact (t6.block q0 (by omega) hqq hqq).trans h5
  clear ht3 ht4 hq3 hq4 HB2 hw1 hw2 hq0
  refine wp_region_any (by kernel_rfl) ?_
  change wpAny _ _ _ _ _ _ _ w4.drew
  refine wpAny_take (i := 0) (v := (.slice (some ⟨q, 6, none⟩) 2 2)) rfl (by kernel_rfl) (by kernel_rfl) (by kernel_rfl) (fun _ _ _ h => h) (.inl ⟨rfl, fun _ => by simp [execOp, go_sem, Act.eval  , run_underlying Tryz.underlying81]⟩) ?_
  simp only [List.getElem_toArray, List.getElem_cons_succ, List.getElem_cons_zero, Act.put, List.setIfInBounds_toArray, List.set_cons_succ, List.set_cons_zero]
  refine wpAny_take (i := 2) (v := (.slice av nb cv)) rfl (by kernel_rfl) (by kernel_rfl) (by kernel_rfl) (fun _ _ _ h => h) (.inl ⟨rfl, fun _ => rfl⟩) ?_
  simp only [List.getElem_toArray, List.getElem_cons_succ, List.getElem_cons_zero, Act.put, List.setIfInBounds_toArray, List.set_cons_succ, List.set_cons_zero]
  refine wpAny_all (rs := [1]) (by kernel_rfl) (by simp) ?_
  intro k hk
  simp only [List.mem_cons, List.mem_nil_iff, or_false] at hk
  subst hk
  refine wpOp_runN rfl rfl (wp_loadN 81 _ rfl q 0 rfl (.agg A4) (load_a8 _ q A4 hq4d hA4s) ?_)
  simp only [List.getElem_toArray, List.getElem_cons_succ, List.getElem_cons_zero, Act.put, List.setIfInBounds_toArray, List.set_cons_succ, List.set_cons_zero]
  refine wpAny_all (rs := [3]) (by kernel_rfl) (by simp) ?_
  intro k hk
  simp only [List.mem_cons, List.mem_nil_iff, or_false] at hk
  subst hk
  refine wpOp_runN rfl rfl (wp_callN 48 #[.agg A4, .slice av nb cv] (by simp [execOp, go_sem, Act.eval, resolve, invoke, enterN_pn, enterN_so]) ((hsum).mono ?_))
  rintro e w5 ⟨rfl, hb5⟩
  have hp3 := HPP3.out w5 ((hb5.block q hqlt).trans hq4d)
  simp only [List.getElem_toArray, List.getElem_cons_succ, List.getElem_cons_zero, Act.put, List.setIfInBounds_toArray, List.set_cons_succ, List.set_cons_zero]
  refine wpAny_take (i := 4) (v := (.int .u64 (sm : Int))) rfl (by kernel_rfl) (by kernel_rfl) (by kernel_rfl) (fun _ _ _ h => h) (.inl ⟨rfl, fun _ => by simp [execOp, go_sem, Act.eval, hcv]⟩) ?_
  simp only [List.getElem_toArray, List.getElem_cons_succ, List.getElem_cons_zero, Act.put, List.setIfInBounds_toArray, List.set_cons_succ, List.set_cons_zero]
  refine wpAny_all (rs := [5]) (by kernel_rfl) (by simp) ?_
  intro k hk
  simp only [List.mem_cons, List.mem_nil_iff, or_false] at hk
  subst hk
  refine wpOp_runN rfl rfl (wp_callN 47 #[.slice (some ⟨q, 6, none⟩) 2 2, .int .u64 (sm : Int)] (by simp [execOp, go_sem, Act.eval, resolve, invoke, enterN_pn, enterN_so]) ((hp3).mono ?_))
  rintro e w6 ⟨⟨v6, rfl⟩, hq6, ht6⟩
  simp only [List.getElem_toArray, List.getElem_cons_succ, List.getElem_cons_zero, Act.put, List.setIfInBounds_toArray, List.set_cons_succ, List.set_cons_zero]
  refine wpAny_done (by kernel_rfl) ?_ _
  have HB6 := hidOf (HFIN.out w4.drew w5 w6 b4 hb5 ht6)
  have hq06 := HQ06.out w5 w6 hb5 ht6
  clear hsum hp3 ht6 hb5 HFIN HT HPP3 HS HQ06
  have hld6 := load_a8 w6 q _ hq6 hs8
  have HF : Hid (Below w.heap.size w (w6.setRow q0 AH)) := below_row HB6.out (by omega) HB6.out.size _
  have hq7 := Go.Proofs.YtjlbahgjjdfaeaaGreat.setRow_heap w6 q0 _ AH _ _ hq06
  have hld7 := load_a8 _ q0 _ hq7 hs8
  go_wp2_with (first | (refine wpList_load_row rfl 81 _ rfl q rfl 81 AH (0, 0) _ hq6 Tryz.underlying81 rfl (by rw [hs8]; exact infoA8) ?_) | (refine wpList_store_row rfl 81 _ _ rfl q0 AH rfl rfl 81 _ hq06 (by rw [hs8]; exact infoA8) (by rw [hs8]; rfl) hone ?_))
  simp only [Act.put, List.setIfInBounds_toArray, List.set_cons_succ, List.set_cons_zero]
  exact bodyPost_ret (v := .agg AH) (by simp [results, Tryz.results27, asAddr, hld7]) rfl ⟨rfl, HF.out⟩
end Go.Proofs.YtjlbahgjjdfaeaaGreat.Nz
namespace Go.Proofs.YtjlbahgjjdfaeaaGreat.Nz
open Go.RowKit Go.Proofs.Ty Go.Proofs.Nv Go.Proofs.Bits
set_option linter.unusedVariables false
set_option maxRecDepth 1000000
set_option linter.unusedSimpArgs false
theorem enterN_nu : ∀ args x, (callFunc 70 args).run Tryz.prog x = .ok (.enter 70 args) x := fun _ _ => by rfl
theorem infoHf : (Tryz.prog.info? 73).map (·.size) = some 3 := by kernel_rfl
/-- A half's cells. -/
def hfA (f k : Nat) (v : Value) : Array Value := #[.int .i64 f, .int .u16 k, v]
theorem hfA_one (f k : Nat) (v : Value) (h : v.oneCell' = true) : (hfA f k v).all (·.oneCell') = true := by
  rw [hfA, Array.all_eq_true_iff_forall_mem]
  intro x hx
  simp at hx
  rcases hx with rfl | rfl | rfl
  · rfl
  · rfl
  · exact h
theorem load_hf (w : World) (q f k : Nat) (v : Value) (hq : w.heap[q]? = some (.cells (hfA f k v) 73 (0, 0))) : (loadVar 73 ⟨q, 0, none⟩).run Tryz.prog w = .ok (.agg (hfA f k v)) w :=
  run_loadVar_row w q 73 73 _ (0, 0) _ hq Tryz.underlying73 rfl infoHf
theorem bytes_rowN {w : World} {v : Value} {l : List UInt8} {q : Nat} {x y : Int} {T : TypeId} (h : Bytes w v l) (hq : w.heap[q]? = some (.cells #[.int .i64 x, .int .u16 y, .slice none 0 0] T (0, 0))) (A : Array Value) : Bytes (w.setRow q A) v l := by
  obtain ⟨ao, cap, hv, h0, hc⟩ := h
  refine ⟨ao, cap, hv, h0, fun k hk => ?_⟩
  obtain ⟨b, off, ha, hlt, hcell⟩ := hc k hk
  have hne : b ≠ q := by
    intro e
    subst e
    rw [Lib.cell_of_heap hq] at hcell
    generalize off + k = j at hcell
    match j, hcell with
    | 0, hcell => simp at hcell
    | 1, hcell => simp at hcell
    | 2, hcell => simp at hcell
    | j + 3, hcell => simp at hcell
  refine ⟨b, off, ha, by simpa [World.setRow] using hlt, ?_⟩
  rw [← hcell]
  simp only [World.cell?, Go.Proofs.YtjlbahgjjdfaeaaGreat.setRow_other w q b A hne]
theorem neq_natN (a b : Nat) : (!decide ((a : Int) = (b : Int))) = (a != b) := by
  cases h : (a != b)
  · simp at h; simp [h]
  · simp at h; simp; omega
section
variable {C P : Nat} {c : Ch} {w : World}
theorem seg_len (h : c.Ok) (f : Nat) (hf : f + c.many ≤ c.n) : (c.seg f).length = 8 * c.many := by
  unfold Ch.seg
  rw [List.length_take, List.length_drop, h.len]
  omega
theorem rd_seg (h : c.Ok) (f : Nat) (hf : f + c.many ≤ c.n) : c.rd (f : Int) = (c.seg f).take 8 ∧ ∀ m, m ≤ c.room → (c.pg.drop (8 * (f + 1))).take m = ((c.seg f).drop 8).take m := by
  have h2 : 2 ≤ c.many := by have := h.lo; unfold Ch.many; omega
  have hr : c.room = 8 * (c.many - 1) := rfl
  refine ⟨?_, fun m hm => ?_⟩
  · unfold Ch.rd
    rw [if_pos (by simp [Ch.has]; omega), Int.toNat_natCast, Ch.seg, List.take_take, Nat.min_eq_left (by omega)]
  · unfold Ch.seg
    rw [List.drop_take, List.drop_drop, List.take_take, Nat.min_eq_left (by omega)]
    congr 2
set_option maxHeartbeats 8000000 in
theorem halfAt_any (h : Cm C P c w) (f : Nat) (hf : f + c.many ≤ c.n) :
    Calls Tryz.prog 44 #[.pointer (some ⟨C, 0, none⟩), .int .i64 f] w fun e w' => ∃ v, e = .returned (.agg (hfA f (c.holds f).1 v)) ∧ Bytes w' v (c.holds f).2 ∧ Below w.heap.size w w' ∧ Fr w.heap.size v := by
  obtain ⟨er, ed⟩ := rd_seg h.ok f hf
  have sl := seg_len h.ok f hf
  have hmany : 2 ≤ c.many := by have := h.ok.lo; unfold Ch.many; omega
  have hhi := h.ok.hi
  have hroom : c.room ≤ 131072 := by unfold Ch.room; omega
  have hrm : c.room = 8 * (c.many - 1) := rfl
  obtain ⟨S, hS⟩ : ∃ x, c.seg f = x := ⟨_, rfl⟩
  have HH : Hid (c.holds f = hs c.room S) := by show _ = _; unfold Ch.holds; rw [hS]
  rw [hS] at er ed sl
  obtain ⟨X, hX⟩ : ∃ x, S.take 8 = x := ⟨_, rfl⟩
  rw [hX] at er
  have X8 : X.length = 8 := by rw [← hX, List.length_take]; omega
  have x2 : X.take 2 = S.take 2 := by rw [← hX, List.take_take]; congr 1
  have x6 : X.take 6 = S.take 6 := by rw [← hX, List.take_take]; congr 1
  have x4 : (X.drop 2).take 4 = (S.drop 2).take 4 := by rw [← hX, List.drop_take, List.take_take]; congr 1
  have x7 : (X.drop 6).take 2 = (S.drop 6).take 2 := by rw [← hX, List.drop_take, List.take_take]; congr 1
  have HR : Hid (hs c.room S = if num (S.take 2) = 0 ∨ c.room < num ((S.drop 2).take 4) then (0, []) else if num ((S.drop 6).take 2) = crc16 (S.take 6 ++ (S.drop 8).take (num ((S.drop 2).take 4))) then (num (S.take 2), (S.drop 8).take (num ((S.drop 2).take 4))) else (0, [])) := rfl
  have lk := num_lt (X.take 2)
  have lm := num_lt ((X.drop 2).take 4)
  have ls := num_lt ((X.drop 6).take 2)
  have e2 : (X.take 2).length = 2 := by rw [List.length_take]; omega
  have e4 : ((X.drop 2).take 4).length = 4 := by rw [List.length_take, List.length_drop]; omega
  have e6 : ((X.drop 6).take 2).length = 2 := by rw [List.length_take, List.length_drop]; omega
  rw [e2] at lk
  rw [e4] at lm
  rw [e6] at ls
  rw [← x2, ← x4, ← x7, ← x6] at HR
  obtain ⟨k, hk⟩ : ∃ n, num (X.take 2) = n := ⟨_, rfl⟩
  obtain ⟨m, hm⟩ : ∃ n, num ((X.drop 2).take 4) = n := ⟨_, rfl⟩
  obtain ⟨s, hs'⟩ : ∃ n, num ((X.drop 6).take 2) = n := ⟨_, rfl⟩
  rw [hk, hm, hs'] at HR
  rw [hk] at lk
  rw [hm] at lm
  rw [hs'] at ls
  rw [HH.out]
  generalize hs c.room S = R at *
  -- the two boxes
  have hq0 := heap_alloc_new w (.cells #[.int .i64 0, .int .u16 0, .slice none 0 0] 73 (0, 0))
  have B1 : Below w.heap.size w (w.alloc (.cells #[.int .i64 0, .int .u16 0, .slice none 0 0] 73)) := (Below.refl _ w).alloc (Nat.le_refl _) _
  obtain ⟨w1, hw1⟩ : ∃ x, w.alloc (.cells #[.int .i64 0, .int .u16 0, .slice none 0 0] 73) = x := ⟨_, rfl⟩
  obtain ⟨q0, hq0s⟩ : ∃ q, w.heap.size = q := ⟨_, rfl⟩
  rw [hw1] at hq0 B1
  rw [hq0s] at hq0
  have hrd := Read_any (h.below B1) (f : Int)
  rw [er, pgV] at hrd
  obtain ⟨A, hA⟩ : ∃ x, (byC X).toArray = x := ⟨_, rfl⟩
  have hAs : A.size = 8 := by rw [← hA, List.size_toArray, byC_len, X8]
  have hone : A.all (·.oneCell') = true := by rw [← hA]; exact all_oneCell_toArray (byteCells_one X)
  rw [hA] at hrd
  have HPT : Hid (∀ (x : World) (q o n cap : Nat), x.heap[q]? = some (.cells A 81 (0, 0)) → ((X.drop o).take n).length = n → Bytes x (.slice (some ⟨q, o, none⟩) n cap) ((X.drop o).take n)) := fun x q o n cap hx hl =>
    bytes_cells hx cap hl (fun j hj => by rw [← hA]; exact byC_part X o n j hj)
  have HW : Hid (∀ w2, Below w1.heap.size w1 w2 → ∃ w3 q, w2.alloc (.cells #[.int .u8 0, .int .u8 0, .int .u8 0, .int .u8 0, .int .u8 0, .int .u8 0, .int .u8 0, .int .u8 0] 81) = w3 ∧ w2.heap.size = q ∧ w3.heap[q]? = some (.cells #[.int .u8 0, .int .u8 0, .int .u8 0, .int .u8 0, .int .u8 0, .int .u8 0, .int .u8 0, .int .u8 0] 81 (0, 0)) ∧ ∃ w4, w3.setRow q A = w4 ∧ w4.heap[q]? = some (.cells A 81 (0, 0)) ∧ Hid (Below w1.heap.size w1 w4) ∧ q0 ≠ q ∧
      Calls Tryz.prog 70 #[.slice (some ⟨q, 0, none⟩) 2 8] w4.drew (fun e w' => e = .returned (.int .u64 k) ∧ w' = w4.drew) ∧ Calls Tryz.prog 70 #[.slice (some ⟨q, 2, none⟩) 4 6] w4.drew (fun e w' => e = .returned (.int .u64 m) ∧ w' = w4.drew)) := by
    intro w2 b2
    have hq2 := heap_alloc_new w2 (.cells #[.int .u8 0, .int .u8 0, .int .u8 0, .int .u8 0, .int .u8 0, .int .u8 0, .int .u8 0, .int .u8 0] 81 (0, 0))
    have b3 := b2.alloc b2.size (.cells #[.int .u8 0, .int .u8 0, .int .u8 0, .int .u8 0, .int .u8 0, .int .u8 0, .int .u8 0, .int .u8 0] 81)
    have hq4 := Go.Proofs.YtjlbahgjjdfaeaaGreat.setRow_heap _ w2.heap.size _ A _ _ hq2
    have n1 := number_any (.slice (some ⟨w2.heap.size, 0, none⟩) 2 8) (X.take 2) (((w2.alloc (.cells #[.int .u8 0, .int .u8 0, .int .u8 0, .int .u8 0, .int .u8 0, .int .u8 0, .int .u8 0, .int .u8 0] 81)).setRow w2.heap.size A)).drew (by omega) (HPT.out _ _ 0 2 8 hq4 e2)
    have n2 := number_any (.slice (some ⟨w2.heap.size, 2, none⟩) 4 6) ((X.drop 2).take 4) (((w2.alloc (.cells #[.int .u8 0, .int .u8 0, .int .u8 0, .int .u8 0, .int .u8 0, .int .u8 0, .int .u8 0, .int .u8 0] 81)).setRow w2.heap.size A)).drew (by omega) (HPT.out _ _ 2 4 6 hq4 e4)
    rw [hk] at n1
    rw [hm] at n2
    exact ⟨_, _, rfl, rfl, hq2, _, rfl, hq4, below_row b3 b2.size b3.size A, (by have := (Array.getElem?_eq_some_iff.1 hq0).1; have := b2.size; omega), n1, n2⟩
  have HB1 := hidOf B1
  have HQ0 : Hid (∀ x, Below w1.heap.size w1 x → x.heap[q0]? = some (.cells #[.int .i64 0, .int .u16 0, .slice none 0 0] 73 (0, 0))) := fun x hx => (hx.block q0 (Array.getElem?_eq_some_iff.1 hq0).1).trans hq0
  have HRO : Hid (∀ x, Below w1.heap.size w1 x → Calls Tryz.prog 8 #[.pointer (some ⟨C, 0, none⟩)] x fun e w' => e = .returned (.int .i64 c.room) ∧ w' = x) := fun x hx => Room_any (h.below (B1.trans (hx.mono B1.size)))
  have HRB : Hid (∀ x, m ≤ c.room → Below w1.heap.size w1 x → Calls Tryz.prog 71 #[.pointer (some ⟨C, 0, none⟩), .int .i64 ((f : Int) + 1), .int .i64 m] x fun e w' => ∃ v, e = .returned v ∧ Bytes w' v ((S.drop 8).take m) ∧ Below x.heap.size x w' ∧ Fr x.heap.size v) := fun x hmr hx => by
    have := readBytes_any (h.below (B1.trans (hx.mono B1.size))) (f + 1) m (by omega)
    rw [ed m hmr] at this
    exact this
  have HFN : Hid (∀ x A', Below w1.heap.size w1 x → Below w.heap.size w (x.setRow q0 A')) := fun x A' hx => below_row (B1.trans (hx.mono B1.size)) (by omega) (B1.trans (hx.mono B1.size)).size A'
  have HSO : Hid (∀ (x : World) (v : Value) (b : List UInt8), b.length ≤ 1000000 → Bytes x v b → Calls Tryz.prog 48 #[.agg A, v] x fun e w' => e = .returned (.int .u16 (crc16 (X.take 6 ++ b))) ∧ Below x.heap.size x w') := fun x v b hb hB => by
    have := sumOf_any X v b x X8 (by omega) hB
    rw [pgV, hA] at this
    exact this
  have HN3 : Hid (∀ (x : World) (q : Nat), x.heap[q]? = some (.cells A 81 (0, 0)) → Calls Tryz.prog 70 #[.slice (some ⟨q, 6, none⟩) 2 2] x fun e w' => e = .returned (.int .u64 s) ∧ w' = x) := fun x q hq => by
    have := number_any (.slice (some ⟨q, 6, none⟩) 2 2) ((X.drop 6).take 2) x (by omega) (HPT.out _ _ 6 2 2 hq e6)
    rw [hs'] at this
    exact this
  have hfn : f ≤ 32768 := by omega
  have HSL : Hid (m ≤ c.room → ((S.drop 8).take m).length = m) := fun hm => by rw [List.length_take, List.length_drop, sl]; omega
  generalize (S.drop 8).take m = bb at *
  generalize X.take 6 = x6' at *
  clear HPT hk hm hs' hX x2 x4 x6 x7 er ed sl hS hA hq0 B1 h HH hrm
  generalize c.room = rm at *
  go_enter Tryz.func44, Tryz.ntmps44
  go_upto_region 2 with (first | (go_at_call 69; refine hrd.mono ?_; rintro e w2 ⟨rfl, hb2⟩; obtain ⟨w3, q, hw3, hqs, hq3, w4, hw4, hq4, HB4, hqq, hn1, hn2⟩ := HW.out w2 hb2; clear hb2 HW) | (refine wpList_store_row rfl 81 _ _ rfl q A rfl rfl 81 _ hq3 (by rw [hAs]; exact infoA8) (by rw [hAs]; rfl) hone ?_; rw [hw4]; clear hw4 hw3 hq3 hrd))
  refine wp_region_any (by kernel_rfl) ?_
  change wpAny _ _ _ _ _ _ _ w4.drew
  refine wpAny_take (i := 0) (v := (.slice (some ⟨q, 0, none⟩) 2 8)) rfl (by kernel_rfl) (by kernel_rfl) (by kernel_rfl) (fun _ _ _ h => h) (.inl ⟨rfl, fun _ => by simp [execOp, go_sem, Act.eval, run_underlying Tryz.underlying81]⟩) ?_
  simp only [List.getElem_toArray, List.getElem_cons_succ, List.getElem_cons_zero, Act.put, List.setIfInBounds_toArray, List.set_cons_succ, List.set_cons_zero]
  refine wpAny_take (i := 2) (v := (.slice (some ⟨q, 2, none⟩) 4 6)) rfl (by kernel_rfl) (by kernel_rfl) (by kernel_rfl) (fun _ _ _ h => h) (.inl ⟨rfl, fun _ => by simp [execOp, go_sem, Act.eval, run_underlying Tryz.underlying81]⟩) ?_
  simp only [List.getElem_toArray, List.getElem_cons_succ, List.getElem_cons_zero, Act.put, List.setIfInBounds_toArray, List.set_cons_succ, List.set_cons_zero]
  refine wpAny_all (rs := [1]) (by kernel_rfl) (by simp) ?_
  intro k hk
  simp only [List.mem_cons, List.mem_nil_iff, or_false] at hk
  subst hk
  refine wpOp_runN rfl rfl (wp_callN 70 #[.slice (some ⟨q, 0, none⟩) 2 8] (by simp [execOp, go_sem, Act.eval, resolve, invoke, enterN_nu, enterN_so]) ((hn1).mono ?_))
  rintro e x1 ⟨rfl, hx1⟩
  rw [hx1]
  clear hx1 x1
  simp only [List.getElem_toArray, List.getElem_cons_succ, List.getElem_cons_zero, Act.put, List.setIfInBounds_toArray, List.set_cons_succ, List.set_cons_zero]
  refine wpAny_all (rs := [3]) (by kernel_rfl) (by simp) ?_
  intro k hk
  simp only [List.mem_cons, List.mem_nil_iff, or_false] at hk
  subst hk
  refine wpOp_runN rfl rfl (wp_callN 70 #[.slice (some ⟨q, 2, none⟩) 4 6] (by simp [execOp, go_sem, Act.eval, resolve, invoke, enterN_nu, enterN_so]) ((hn2).mono ?_))
  rintro e x1 ⟨rfl, hx1⟩
  rw [hx1]
  clear hx1 x1
  simp only [List.getElem_toArray, List.getElem_cons_succ, List.getElem_cons_zero, Act.put, List.setIfInBounds_toArray, List.set_cons_succ, List.set_cons_zero]
  refine wpAny_take (i := 4) (v := (.int .u64 (k : Int))) rfl (by kernel_rfl) (by kernel_rfl) (by kernel_rfl) (fun _ _ _ h => h) (.inl ⟨rfl, fun _ => rfl⟩) ?_
  simp only [List.getElem_toArray, List.getElem_cons_succ, List.getElem_cons_zero, Act.put, List.setIfInBounds_toArray, List.set_cons_succ, List.set_cons_zero]
  refine wpAny_take (i := 5) (v := (.int .u64 (m : Int))) rfl (by kernel_rfl) (by kernel_rfl) (by kernel_rfl) (fun _ _ _ h => h) (.inl ⟨rfl, fun _ => rfl⟩) ?_
  simp only [List.getElem_toArray, List.getElem_cons_succ, List.getElem_cons_zero, Act.put, List.setIfInBounds_toArray, List.set_cons_succ, List.set_cons_zero]
  refine wpAny_done (by kernel_rfl) ?_ _
  have B4 := bdr HB4.out 1
  change Below _ _ w4.drew at B4
  have HBx := hidOf B4
  clear hn1 hn2
  have hq4d : w4.drew.heap[q]? = some (.cells A 81 (0, 0)) := hq4
  have hro := HRO.out _ B4
  generalize w4.drew = W at *
  clear hq4 HB4
  by_cases hk0 : k = 0
  · have HR1 : Hid (R = (0, [])) := by show R = _; rw [HR.out, if_pos (.inl hk0)]
    subst hk0
    clear hro
    have hq0x := HQ0.out _ HBx.out
    go_wp2_with (refine wpList_store_row rfl 73 _ _ rfl q0 (hfA f 0 (.slice none 0 0)) rfl rfl 73 _ hq0x infoHf rfl (hfA_one _ _ _ rfl) ?_; have hq9 := Go.Proofs.YtjlbahgjjdfaeaaGreat.setRow_heap _ q0 _ (hfA f 0 (.slice none 0 0)) _ _ hq0x)
    have hld9 := load_hf _ q0 _ _ _ hq9
    have hf9 := HFN.out _ (hfA f 0 (.slice none 0 0)) HBx.out
    try simp only [Act.put, List.setIfInBounds_toArray, List.set_cons_succ, List.set_cons_zero]
    exact bodyPost_ret (v := .agg (hfA f 0 (.slice none 0 0))) (by simp [results, Tryz.results44, asAddr, hld9]) rfl ⟨_, by rw [HR1.out], by rw [HR1.out]; exact Bytes.nil _, (by first | exact hf9 | (rw [hq0s] at hf9; exact hf9)), Fr.nil _⟩
  · have dk : ((k : Int) == 0) = false := by simp; omega
    have hcr : IntKind.u64.wrap (rm : Int) = (rm : Int) := by rw [wrapUN]; omega
    by_cases hmr : rm < m
    · have HR1 : Hid (R = (0, [])) := by show R = _; rw [HR.out, if_pos (.inr hmr)]
      have dm : decide ((rm : Int) < (m : Int)) = true := by simp; omega
      go_upto_region 4 with (go_at_call 8; refine hro.mono ?_; rintro e x1 ⟨rfl, hx1⟩; rw [hx1]; clear hx1 x1)
      have hq0x := HQ0.out _ HBx.out
      go_wp2_with (refine wpList_store_row rfl 73 _ _ rfl q0 (hfA f 0 (.slice none 0 0)) rfl rfl 73 _ hq0x infoHf rfl (hfA_one _ _ _ rfl) ?_; have hq9 := Go.Proofs.YtjlbahgjjdfaeaaGreat.setRow_heap _ q0 _ (hfA f 0 (.slice none 0 0)) _ _ hq0x)
      have hld9 := load_hf _ q0 _ _ _ hq9
      have hf9 := HFN.out _ (hfA f 0 (.slice none 0 0)) HBx.out
      try simp only [Act.put, List.setIfInBounds_toArray, List.set_cons_succ, List.set_cons_zero]
      exact bodyPost_ret (v := .agg (hfA f 0 (.slice none 0 0))) (by simp [results, Tryz.results44, asAddr, hld9]) rfl ⟨_, by rw [HR1.out], by rw [HR1.out]; exact Bytes.nil _, (by first | exact hf9 | (rw [hq0s] at hf9; exact hf9)), Fr.nil _⟩
    · have dm : decide ((rm : Int) < (m : Int)) = false := by simp; omega
      have HWZ : Hid (w.heap.size ≤ W.heap.size) := Nat.le_trans HB1.out.size HBx.out.size
      have hrb := HRB.out W (by omega) HBx.out
      have hm2 : m ≤ 131072 := by omega
      have hbl := HSL.out (by omega)
      go_upto_region 6 with (first | (go_at_call 8; refine hro.mono ?_; rintro e x1 ⟨rfl, hx1⟩; rw [hx1]; clear hx1 x1) | (go_at_call 71; refine hrb.mono ?_; rintro e w5 ⟨v5, rfl, hv5, hb5, hfr5⟩; have HFR := hidOf (hfr5.mono HWZ.out); clear hfr5; obtain ⟨av, cv, hav⟩ := bytes_shapeN hv5; rw [hbl] at hav; subst hav))
      have B5 := bdr (HBx.out.trans (hb5.mono HBx.out.size)) 1
      change Below _ _ w5.drew at B5
      have HV5 : Hid (Bytes w5.drew (.slice av m cv) bb) := hv5.below (bdr (Below.refl _ _) 1)
      have S0 : w5.drew.heap[q]? = some (.cells A 81 (0, 0)) := (hb5.block q (Array.getElem?_eq_some_iff.1 hq4d).1).trans hq4d
      have hqlt : q < w5.drew.heap.size := (Array.getElem?_eq_some_iff.1 S0).1
      have hn3 := HN3.out w5.drew q S0
      have hso := HSO.out w5.drew _ bb (by omega) HV5.out
      have hcl := crc16_lt (x6' ++ bb)
      obtain ⟨cr, hcrc⟩ : ∃ n, crc16 (x6' ++ bb) = n := ⟨_, rfl⟩
      rw [hcrc] at hso hcl
      have hcv : IntKind.u64.wrap (cr : Int) = (cr : Int) := by rw [wrapUN]; omega
      have HRR : Hid (R = if s = cr then (k, bb) else (0, [])) := by show R = _; rw [HR.out, if_neg (by omega), hcrc]
      clear hv5 HSL HN3 HSO HRB hrb hro HRO
      refine wp_region_held (S := fun x => x.heap[q]? = some (.cells A 81 (0, 0))) (by kernel_rfl) ?_
      change wpAnyH _ _ _ _ _ _ _ _ w5.drew
      generalize w5.drew = W5 at *
      clear hb5
      refine wpAnyH_take (i := 0) (v := (.slice (some ⟨q, 6, none⟩) 2 2)) rfl (by kernel_rfl) (by kernel_rfl) (by kernel_rfl) (fun _ _ _ h => h) (.inl ⟨rfl, fun _ hS => by simp [execOp, go_sem, Act.eval, run_underlying Tryz.underlying81]⟩) S0 ?_
      simp only [List.getElem_toArray, List.getElem_cons_succ, List.getElem_cons_zero, Act.put, List.setIfInBounds_toArray, List.set_cons_succ, List.set_cons_zero]
      refine wpAnyH_take (i := 2) (v := (.agg A)) rfl (by kernel_rfl) (by kernel_rfl) (by kernel_rfl) (fun _ _ _ h => h) (.inl ⟨rfl, fun _ hS => exec_loadN rfl rfl (load_a8 _ q A hS hAs)⟩) S0 ?_
      simp only [List.getElem_toArray, List.getElem_cons_succ, List.getElem_cons_zero, Act.put, List.setIfInBounds_toArray, List.set_cons_succ, List.set_cons_zero]
      refine wpAnyH_take (i := 3) (v := (.slice av m cv)) rfl (by kernel_rfl) (by kernel_rfl) (by kernel_rfl) (fun _ _ _ h => h) (.inl ⟨rfl, fun _ hS => rfl⟩) S0 ?_
      simp only [List.getElem_toArray, List.getElem_cons_succ, List.getElem_cons_zero, Act.put, List.setIfInBounds_toArray, List.set_cons_succ, List.set_cons_zero]
      refine wpAnyH_all (rs := [1]) (by kernel_rfl) (by simp) ?_
      intro k hk
      simp only [List.mem_cons, List.mem_nil_iff, or_false] at hk
      subst hk
      refine wpOp_runN rfl rfl (wp_callN 70 #[.slice (some ⟨q, 6, none⟩) 2 2] (by simp [execOp, go_sem, Act.eval, resolve, invoke, enterN_nu, enterN_so]) ((hn3).mono ?_))
      rintro e x1 ⟨rfl, hx1⟩
      rw [hx1]
      clear hx1 x1
      refine ⟨S0, ?_⟩
      simp only [List.getElem_toArray, List.getElem_cons_succ, List.getElem_cons_zero, Act.put, List.setIfInBounds_toArray, List.set_cons_succ, List.set_cons_zero]
      refine wpAnyH_all (rs := [4]) (by kernel_rfl) (by simp) ?_
      intro k hk
      simp only [List.mem_cons, List.mem_nil_iff, or_false] at hk
      subst hk
      refine wpOp_runN rfl rfl (wp_callN 48 #[.agg A, .slice av m cv] (by simp [execOp, go_sem, Act.eval, resolve, invoke, enterN_nu, enterN_so]) ((hso).mono ?_))
      rintro e w6 ⟨rfl, hb6⟩
      have S6 := (hb6.block q hqlt).trans S0
      refine ⟨S6, ?_⟩
      simp only [List.getElem_toArray, List.getElem_cons_succ, List.getElem_cons_zero, Act.put, List.setIfInBounds_toArray, List.set_cons_succ, List.set_cons_zero]
      refine wpAnyH_take (i := 5) (v := (.int .u64 (cr : Int))) rfl (by kernel_rfl) (by kernel_rfl) (by kernel_rfl) (fun _ _ _ h => h) (.inl ⟨rfl, fun _ hS => by simp [execOp, go_sem, Act.eval, hcv]⟩) S6 ?_
      simp only [List.getElem_toArray, List.getElem_cons_succ, List.getElem_cons_zero, Act.put, List.setIfInBounds_toArray, List.set_cons_succ, List.set_cons_zero]
      refine wpAnyH_take (i := 6) (v := (.bool (s != cr))) rfl (by kernel_rfl) (by kernel_rfl) (by kernel_rfl) (fun _ _ _ h => h) (.inl ⟨rfl, fun _ hS => by simp [execOp, go_sem, Act.eval]; first | rfl | exact neq_natN _ _⟩) S6 ?_
      simp only [List.getElem_toArray, List.getElem_cons_succ, List.getElem_cons_zero, Act.put, List.setIfInBounds_toArray, List.set_cons_succ, List.set_cons_zero]
      refine wpAnyH_done (by kernel_rfl) ?_ _
      have B6 := B5.trans (hb6.mono B5.size)
      have HV6 := hidOf (HV5.out.below hb6)
      clear hb6 S6 S0
      by_cases hsc : s = cr
      · have HR1 : Hid (R = (k, bb)) := by show R = _; rw [HRR.out, if_pos hsc]
        have hd9 : (s != cr) = false := by simpa using hsc
        have hck : IntKind.u16.wrap (k : Int) = (k : Int) := by rw [IntKind.wrap_u16]; omega
        simp only [hd9]
        go_upto_region 8 with fail
        have hq0x := HQ0.out _ B6
        go_wp2_with (refine wpList_store_row rfl 73 _ _ rfl q0 (hfA f k (.slice av m cv)) rfl rfl 73 _ hq0x infoHf rfl (hfA_one _ _ _ rfl) ?_; have hq9 := Go.Proofs.YtjlbahgjjdfaeaaGreat.setRow_heap _ q0 _ (hfA f k (.slice av m cv)) _ _ hq0x)
        have hld9 := load_hf _ q0 _ _ _ hq9
        have hf9 := HFN.out _ (hfA f k (.slice av m cv)) B6
        try simp only [Act.put, List.setIfInBounds_toArray, List.set_cons_succ, List.set_cons_zero]
        exact bodyPost_ret (v := .agg (hfA f k (.slice av m cv))) (by simp [results, Tryz.results44, asAddr, hld9]) rfl ⟨_, by rw [HR1.out], by rw [HR1.out]; exact bytes_rowN HV6.out hq0x _, (by first | exact hf9 | (rw [hq0s] at hf9; exact hf9)), (by first | exact HFR.out | (have h := HFR.out; rw [hq0s] at h; exact h))⟩
      · have HR1 : Hid (R = (0, [])) := by show R = _; rw [HRR.out, if_neg hsc]
        have hd9 : (s != cr) = true := by simpa using hsc
        simp only [hd9]
        go_upto_region 7 with fail
        have hq0x := HQ0.out _ B6
        go_wp2_with (refine wpList_store_row rfl 73 _ _ rfl q0 (hfA f 0 (.slice none 0 0)) rfl rfl 73 _ hq0x infoHf rfl (hfA_one _ _ _ rfl) ?_; have hq9 := Go.Proofs.YtjlbahgjjdfaeaaGreat.setRow_heap _ q0 _ (hfA f 0 (.slice none 0 0)) _ _ hq0x)
        have hld9 := load_hf _ q0 _ _ _ hq9
        have hf9 := HFN.out _ (hfA f 0 (.slice none 0 0)) B6
        try simp only [Act.put, List.setIfInBounds_toArray, List.set_cons_succ, List.set_cons_zero]
        exact bodyPost_ret (v := .agg (hfA f 0 (.slice none 0 0))) (by simp [results, Tryz.results44, asAddr, hld9]) rfl ⟨_, by rw [HR1.out], by rw [HR1.out]; exact Bytes.nil _, (by first | exact hf9 | (rw [hq0s] at hf9; exact hf9)), Fr.nil _⟩
end
end Go.Proofs.YtjlbahgjjdfaeaaGreat.Nz
namespace Go.Proofs.YtjlbahgjjdfaeaaGreat.Nz
open Go.RowKit Go.Proofs.Ty Go.Proofs.Nv Go.Proofs.Bits
set_option linter.unusedVariables false
set_option maxRecDepth 1000000
set_option linter.unusedSimpArgs false
theorem infoHv : (Tryz.prog.info? 74).map (·.size) = some 6 := by kernel_rfl
/-- The cells of two halves. -/
def hvA (f k : Nat) (v : Value) (g m : Nat) (u : Value) : Array Value := #[.int .i64 f, .int .u16 k, v, .int .i64 g, .int .u16 m, u]
theorem hvA_one (f k : Nat) (v : Value) (g m : Nat) (u : Value) (h : v.oneCell' = true) (h2 : u.oneCell' = true) : (hvA f k v g m u).all (·.oneCell') = true := by
  rw [hvA, Array.all_eq_true_iff_forall_mem]
  intro x hx
  simp at hx
  rcases hx with rfl | rfl | rfl | rfl | rfl | rfl
  · rfl
  · rfl
  · exact h
  · rfl
  · rfl
  · exact h2
theorem load_hv (w : World) (q f k : Nat) (v : Value) (g m : Nat) (u : Value) (hq : w.heap[q]? = some (.cells (hvA f k v g m u) 74 (0, 0))) : (loadVar 74 ⟨q, 0, none⟩).run Tryz.prog w = .ok (.agg (hvA f k v g m u)) w :=
  run_loadVar_row w q 74 74 _ (0, 0) _ hq Tryz.underlying74 rfl infoHv
theorem oneSlice {w : World} {v : Value} {l : List UInt8} (h : Bytes w v l) : v.oneCell' = true := by
  obtain ⟨ao, cap, rfl⟩ := bytes_shapeN h
  rfl
/-- Bytes that do not lie in a row of halves. -/
theorem bytes_rowH {w : World} {v : Value} {l : List UInt8} {q : Nat} {A0 : Array Value} {T : TypeId} (h : Bytes w v l) (hq : w.heap[q]? = some (.cells A0 T (0, 0))) (hA : ∀ (j : Nat) (n : Int), A0[j]? ≠ some (Value.int .u8 n)) (A : Array Value) : Bytes (w.setRow q A) v l := by
  obtain ⟨ao, cap, hv, h0, hc⟩ := h
  refine ⟨ao, cap, hv, h0, fun k hk => ?_⟩
  obtain ⟨b, off, ha, hlt, hcell⟩ := hc k hk
  have hne : b ≠ q := by
    intro e
    subst e
    rw [Lib.cell_of_heap hq] at hcell
    exact hA _ _ hcell
  refine ⟨b, off, ha, by simpa [World.setRow] using hlt, ?_⟩
  rw [← hcell]
  simp only [World.cell?, Go.Proofs.YtjlbahgjjdfaeaaGreat.setRow_other w q b A hne]
theorem hv_no (j : Nat) (n : Int) : (#[.int .i64 0, .int .u16 0, .slice none 0 0, .int .i64 0, .int .u16 0, .slice none 0 0] : Array Value)[j]? ≠ some (.int .u8 n) := by
  match j with
  | 0 => simp
  | 1 => simp
  | 2 => simp
  | 3 => simp
  | 4 => simp
  | 5 => simp
  | j + 6 => simp
theorem hf_no (j : Nat) (n : Int) : (#[.int .i64 0, .int .u16 0, .slice none 0 0] : Array Value)[j]? ≠ some (.int .u8 n) := by
  match j with
  | 0 => simp
  | 1 => simp
  | 2 => simp
  | j + 3 => simp
section
variable {C P : Nat} {c : Ch} {w : World}
set_option maxHeartbeats 2000000 in
theorem halvesOf_any (h : Cm C P c w) :
    Calls Tryz.prog 21 #[.pointer (some ⟨C, 0, none⟩)] w fun e w' => ∃ v u, e = .returned (.agg (hvA 0 (c.holds 0).1 v c.many (c.holds c.many).1 u)) ∧ Bytes w' v (c.holds 0).2 ∧ Bytes w' u (c.holds c.many).2 ∧ Below w.heap.size w w' ∧ Fr w.heap.size v ∧ Fr w.heap.size u := by
  have hm : c.many + c.many ≤ c.n := by unfold Ch.many; omega
  have hq0 := heap_alloc_new w (.cells #[.int .i64 0, .int .u16 0, .slice none 0 0, .int .i64 0, .int .u16 0, .slice none 0 0] 74 (0, 0))
  have B1 : Below w.heap.size w (w.alloc (.cells #[.int .i64 0, .int .u16 0, .slice none 0 0, .int .i64 0, .int .u16 0, .slice none 0 0] 74)) := (Below.refl _ w).alloc (Nat.le_refl _) _
  obtain ⟨w1, hw1⟩ : ∃ x, w.alloc (.cells #[.int .i64 0, .int .u16 0, .slice none 0 0, .int .i64 0, .int .u16 0, .slice none 0 0] 74) = x := ⟨_, rfl⟩
  obtain ⟨q0, hq0s⟩ : ∃ q, w.heap.size = q := ⟨_, rfl⟩
  rw [hw1] at hq0 B1
  rw [hq0s] at hq0
  have h1 := h.below B1
  have ha := halfAt_any h1 0 (by omega)
  have hp := hidOf (fun (x : World) (hx : Below w1.heap.size w1 x) => And.intro (halfPages_any (h1.below hx)) (halfAt_any (h1.below hx) c.many hm))
  have HF : Hid (∀ x A, Below w1.heap.size w1 x → x.heap[q0]? = some (.cells #[.int .i64 0, .int .u16 0, .slice none 0 0, .int .i64 0, .int .u16 0, .slice none 0 0] 74 (0, 0)) ∧ Below w.heap.size w (x.setRow q0 A)) := fun x A hx =>
    ⟨(hx.block q0 (Array.getElem?_eq_some_iff.1 hq0).1).trans hq0, below_row (B1.trans (hx.mono B1.size)) (by omega) (B1.trans (hx.mono B1.size)).size A⟩
  generalize (c.holds 0).1 = k0 at *
  generalize (c.holds 0).2 = l0 at *
  generalize (c.holds c.many).1 = k1 at *
  generalize (c.holds c.many).2 = l1 at *
  simp only [hfA] at ha hp
  have HW1 := hidOf B1.size
  clear h h1 B1 hq0 hm
  go_enter Tryz.func21, Tryz.ntmps21
  go_wp2_with (first | (go_at_call 44; refine ha.mono ?_; clear ha; rintro e w2 ⟨v2, rfl, hv2, hb2, hf2⟩; have HF2 := hidOf (hf2.mono HW1.out); obtain ⟨hpp, ha2⟩ := hp.out w2 hb2; clear hp hf2) | (go_at_call 19; refine hpp.mono ?_; rintro e x2 ⟨rfl, hx2⟩; rw [hx2]; clear hx2 x2) | (go_at_call 44; refine ha2.mono ?_; rintro e w3 ⟨v3, rfl, hv3, hb3, hf3⟩; have HF3 := hidOf (hf3.mono (Nat.le_trans HW1.out hb2.size)); clear hf3; have HB3 := hidOf (hb2.trans (hb3.mono hb2.size)); have HV2 := hidOf (hv2.below hb3); have HV3 := hidOf hv3; clear ha2; obtain ⟨hq3, _⟩ := HF.out w3 #[] HB3.out) | (refine wpList_store_row rfl 74 _ _ rfl q0 (hvA 0 k0 v2 c.many k1 v3) rfl rfl 74 _ hq3 infoHv rfl (hvA_one _ _ _ _ _ _ (oneSlice HV2.out) (oneSlice HV3.out)) ?_; have hq4 := Go.Proofs.YtjlbahgjjdfaeaaGreat.setRow_heap w3 q0 _ (hvA 0 k0 v2 c.many k1 v3) _ _ hq3))
  have hld := load_hv _ q0 _ _ _ _ _ _ hq4
  have hf9 := (HF.out w3 (hvA 0 k0 v2 c.many k1 v3) HB3.out).2
  try simp only [Act.put, List.setIfInBounds_toArray, List.set_cons_succ, List.set_cons_zero]
  exact bodyPost_ret (v := .agg (hvA 0 k0 v2 c.many k1 v3)) (by simp [results, Tryz.results21, asAddr, hld]) rfl ⟨_, _, rfl, bytes_rowH HV2.out hq3 hv_no _, bytes_rowH HV3.out hq3 hv_no _, (by first | exact hf9 | (rw [hq0s] at hf9; exact hf9)), (by first | exact HF2.out | (have h := HF2.out; rw [hq0s] at h; exact h)), (by first | exact HF3.out | (have h := HF3.out; rw [hq0s] at h; exact h))⟩
/-- Which half is the latest, of two counters. -/
def lat (k m : Nat) : Nat := if k = 0 ∨ m = nxt k then 1 else 0
theorem latest_any (f k g m : Nat) (v u : Value) (w : World) (hk : k < 65536) (hm : m < 65536) :
    Calls Tryz.prog 22 #[.agg (hvA f k v g m u)] w fun e w' => e = .returned (.int .i64 (lat k m)) ∧ Below w.heap.size w w' := by
  have hq := heap_alloc_new w (.cells (hvA f k v g m u) 74 (0, 0))
  have B1 : Below w.heap.size w (w.alloc (.cells (hvA f k v g m u) 74)) := (Below.refl _ w).alloc (Nat.le_refl _) _
  obtain ⟨w1, hw1⟩ : ∃ x, w.alloc (.cells (hvA f k v g m u) 74) = x := ⟨_, rfl⟩
  obtain ⟨q, hqs⟩ : ∃ q, w.heap.size = q := ⟨_, rfl⟩
  rw [hw1] at hq B1
  rw [hqs] at hq
  have c1 : w1.cell? ⟨q, 1, none⟩ = some (.int .u16 k) := Lib.cell_of_heap hq 1
  have c4 : w1.cell? ⟨q, 4, none⟩ = some (.int .u16 m) := Lib.cell_of_heap hq 4
  have hn := next_any k hk
  have HL : Hid (lat k m = if k = 0 ∨ m = nxt k then 1 else 0) := rfl
  have hlt := nxt_lt hk
  generalize lat k m = L at *
  generalize nxt k = nk at *
  have HB := hidOf B1
  by_cases hk0 : k = 0
  · have e1 := hidOf (show L = 1 by rw [HL.out, if_pos (.inl hk0)])
    subst hk0
    replace c1 : w1.cell? ⟨q, 1, none⟩ = some (.int .u16 0) := c1
    go_enter Tryz.func22, Tryz.ntmps22
    go_wp2_with fail
    go_quiet (first | (go_at_call 28; refine Calls.quiet_of_same (hn _)))
    go_wp2
    go_ret
    exact ⟨ret_int (by rw [e1.out]; rfl), (by first | exact bdr HB.out _ | (have := bdr HB.out 1; rw [hqs] at this; exact this))⟩
  · have dk : ((k : Int) == 0) = false := by simp; omega
    by_cases hmk : m = nk
    · have e1 := hidOf (show L = 1 by rw [HL.out, if_pos (.inr hmk)])
      subst hmk
      go_enter Tryz.func22, Tryz.ntmps22
      go_wp2_with fail
      go_quiet (first | (go_at_call 28; refine Calls.quiet_of_same (hn _)))
      go_wp2
      go_ret
      exact ⟨ret_int (by rw [e1.out]; rfl), (by first | exact bdr HB.out _ | (have := bdr HB.out 1; rw [hqs] at this; exact this))⟩
    · have e1 := hidOf (show L = 0 by rw [HL.out, if_neg (by omega)])
      have dm : ((m : Int) == (nk : Int)) = false := by simp; omega
      go_enter Tryz.func22, Tryz.ntmps22
      go_wp2_with fail
      go_quiet (first | (go_at_call 28; refine Calls.quiet_of_same (hn _)))
      go_wp2
      go_ret
      exact ⟨ret_int (by rw [e1.out]; rfl), (by first | exact bdr HB.out _ | (have := bdr HB.out 1; rw [hqs] at this; exact this))⟩
theorem clearHead_any (h : Cm C P c w) (f : Nat) : Calls Tryz.prog 24 #[.pointer (some ⟨C, 0, none⟩), .int .i64 f] w fun e w' => e = .returned (.bool (c.wr f zero8).2) ∧ Cm C P (c.wr f zero8).1 w' ∧ Two C P w w' := by
  have hw := Write_any h (f : Int) zero8 zero8_len
  have hz : pgV zero8 = .agg #[.int .u8 0, .int .u8 0, .int .u8 0, .int .u8 0, .int .u8 0, .int .u8 0, .int .u8 0, .int .u8 0] := rfl
  rw [hz] at hw
  generalize (c.wr f zero8).2 = o at *
  generalize (c.wr f zero8).1 = d at *
  go_enter Tryz.func24, Tryz.ntmps24
  go_wp2_with (go_at_call 26; refine hw.mono ?_; rintro e w2 ⟨rfl, h2, t2⟩)
  go_ret
  exact ⟨rfl, h2, t2⟩
theorem written_any (b : Bool) (w : World) : Calls Tryz.prog 23 #[.bool b] w fun e w' => e = .returned (.int .i64 (if b then 0 else 6)) ∧ w' = w := by
  cases b
  · go_enter Tryz.func23, Tryz.ntmps23
    go_wp2
    go_ret
    exact ⟨rfl, rfl⟩
  · go_enter Tryz.func23, Tryz.ntmps23
    go_wp2
    go_ret
    exact ⟨rfl, rfl⟩
end
end Go.Proofs.YtjlbahgjjdfaeaaGreat.Nz
namespace Go.Proofs.YtjlbahgjjdfaeaaGreat.Nz
open Go.RowKit Go.Proofs.Ty Go.Proofs.Nv Go.Proofs.Bits
set_option linter.unusedVariables false
set_option maxRecDepth 1000000
set_option linter.unusedSimpArgs false
section
variable {C P : Nat} {c : Ch} {w : World}
theorem Load_nil (w : World) : Calls Tryz.prog 13 #[.pointer none] w fun e w' => e = .returned (.tuple #[.slice none 0 0, .bool false]) ∧ w' = w := by
  go_enter Tryz.func13, Tryz.ntmps13
  go_wp2
  go_ret2
  exact ⟨rfl, rfl⟩
theorem neq_zeroN (k : Nat) : ((k : Int) != 0) = (k != 0) := by
  cases h : (k != 0)
  · simp at h; simp [h]
  · simp at h; simp; omega
/-- What Load does behind halvesOf, at the half that is the latest. -/
theorem load_at (x : World) (q j f k : Nat) (v : Value) (A : Array Value) (hq : x.heap[q]? = some (.cells A 74 (0, 0))) (h0 : A[j]? = some (.int .i64 f)) (h1 : A[j + 1]? = some (.int .u16 k)) (h2 : A[j + 2]? = some v) : x.rangeAt q j [.int .i64 f, .int .u16 k, v] := by
  intro i u hu
  rw [Lib.cell_of_heap hq]
  match i, hu with
  | 0, hu => simp at hu; subst hu; exact h0
  | 1, hu => simp at hu; subst hu; exact h1
  | 2, hu => simp at hu; subst hu; exact h2
  | i + 3, hu => simp at hu
set_option maxHeartbeats 4000000 in
theorem Load_any (h : Cm C P c w) :
    Calls Tryz.prog 13 #[.pointer (some ⟨C, 0, none⟩)] w fun e w' => ∃ v, e = .returned (.tuple #[v, .bool (c.kept.1 != 0)]) ∧ Bytes w' v c.kept.2 ∧ Below w.heap.size w w' ∧ Fr w.heap.size v := by
  have hh := halvesOf_any h
  have l0 : (c.holds 0).1 < 65536 := hs_fst _ _
  have l1 : (c.holds c.many).1 < 65536 := hs_fst _ _
  have HK : Hid (c.kept = if lat (c.holds 0).1 (c.holds c.many).1 = 1 then c.holds c.many else c.holds 0) := rfl
  have hlat : lat (c.holds 0).1 (c.holds c.many).1 = 0 ∨ lat (c.holds 0).1 (c.holds c.many).1 = 1 := by unfold lat; split <;> simp
  generalize c.holds 0 = R0 at *
  generalize c.holds c.many = R1 at *
  generalize c.kept = K at *
  obtain ⟨k0, b0⟩ := R0
  obtain ⟨k1, b1⟩ := R1
  simp only at hh l0 l1 HK hlat
  have HW : Hid (∀ (x : World) (v u : Value), Below w.heap.size w x → Bytes x v b0 → Bytes x u b1 → ∃ y q, x.alloc (.cells #[.int .i64 0, .int .u16 0, .slice none 0 0, .int .i64 0, .int .u16 0, .slice none 0 0] 74) = y ∧ x.heap.size = q ∧ y.heap[q]? = some (.cells #[.int .i64 0, .int .u16 0, .slice none 0 0, .int .i64 0, .int .u16 0, .slice none 0 0] 74 (0, 0)) ∧ ∃ z, y.setRow q (hvA 0 k0 v c.many k1 u) = z ∧ z.heap[q]? = some (.cells (hvA 0 k0 v c.many k1 u) 74 (0, 0)) ∧ Hid (Below w.heap.size w z) ∧ Hid (Bytes z v b0) ∧ Hid (Bytes z u b1) ∧ Calls Tryz.prog 22 #[.agg (hvA 0 k0 v c.many k1 u)] z (fun e w' => e = .returned (.int .i64 (lat k0 k1)) ∧ Below z.heap.size z w')) := by
    intro x v u hx hv hu
    have hq := heap_alloc_new x (.cells #[.int .i64 0, .int .u16 0, .slice none 0 0, .int .i64 0, .int .u16 0, .slice none 0 0] 74 (0, 0))
    have b1 := hx.alloc hx.size (.cells #[.int .i64 0, .int .u16 0, .slice none 0 0, .int .i64 0, .int .u16 0, .slice none 0 0] 74)
    have bx : Below x.heap.size x (x.alloc (.cells #[.int .i64 0, .int .u16 0, .slice none 0 0, .int .i64 0, .int .u16 0, .slice none 0 0] 74)) := (Below.refl _ _).alloc (Nat.le_refl _) _
    exact ⟨_, _, rfl, rfl, hq, _, rfl, Go.Proofs.YtjlbahgjjdfaeaaGreat.setRow_heap _ _ _ _ _ _ hq, below_row b1 hx.size b1.size _, bytes_rowH (hv.below bx) hq hv_no _, bytes_rowH (hu.below bx) hq hv_no _, latest_any 0 k0 c.many k1 v u _ l0 l1⟩
  have HV : Hid (∀ (x : World) (v : Value) (b : List UInt8) (f k : Nat), Below w.heap.size w x → Bytes x v b → ∃ y q, x.alloc (.cells #[.int .i64 0, .int .u16 0, .slice none 0 0] 73) = y ∧ x.heap.size = q ∧ y.heap[q]? = some (.cells #[.int .i64 0, .int .u16 0, .slice none 0 0] 73 (0, 0)) ∧ ∃ z, y.setRow q (hfA f k v) = z ∧ z.cell? ⟨q, 1, none⟩ = some (.int .u16 k) ∧ z.cell? ⟨q, 2, none⟩ = some v ∧ Hid (Below w.heap.size w z) ∧ Hid (Bytes z v b)) := by
    intro x v b f k hx hv
    have hq := heap_alloc_new x (.cells #[.int .i64 0, .int .u16 0, .slice none 0 0] 73 (0, 0))
    have b1 := hx.alloc hx.size (.cells #[.int .i64 0, .int .u16 0, .slice none 0 0] 73)
    have bx : Below x.heap.size x (x.alloc (.cells #[.int .i64 0, .int .u16 0, .slice none 0 0] 73)) := (Below.refl _ _).alloc (Nat.le_refl _) _
    have hz := Go.Proofs.YtjlbahgjjdfaeaaGreat.setRow_heap _ x.heap.size _ (hfA f k v) _ _ hq
    exact ⟨_, _, rfl, rfl, hq, _, rfl, Lib.cell_of_heap hz 1, Lib.cell_of_heap hz 2, below_row b1 hx.size b1.size _, bytes_rowH (hv.below bx) hq hf_no _⟩
  clear h
  rcases hlat with hl | hl
  · have HK1 : Hid (K = (k0, b0)) := by show K = _; rw [HK.out, if_neg (by omega)]
    rw [hl] at HW
    clear hl HK
    have hnz := neq_zeroN k0
    go_enter Tryz.func13, Tryz.ntmps13
    go_upto_region 5 with (first | (go_at_call 21; refine hh.mono ?_; rintro e w1 ⟨v, u, rfl, hv, hu, hb, hfv, hfu⟩; have HFV := hidOf hfv; have HFU := hidOf hfu; clear hfv hfu; obtain ⟨y1, q1, hy1, hq1s, hq1, z1, hz1, hqz1, HBz1, HVz1, HUz1, hlt⟩ := HW.out w1 v u hb hv hu; clear HW hb; have hov := oneSlice hv; have hou := oneSlice hu; clear hv hu) | (refine wpList_store_row rfl 74 _ _ rfl q1 (hvA 0 k0 v c.many k1 u) rfl rfl 74 _ hq1 infoHv rfl (hvA_one _ _ _ _ _ _ hov hou) ?_; rw [hz1]; clear hz1 hy1 hq1) | (refine wpList_load_row rfl 74 _ rfl q1 rfl 74 (hvA 0 k0 v c.many k1 u) (0, 0) _ hqz1 Tryz.underlying74 rfl infoHv ?_) | (go_at_call 22; refine hlt.mono ?_; rintro e w2 ⟨rfl, hb2⟩; have hrg := load_at w2 q1 0 0 k0 v _ ((hb2.block q1 (Array.getElem?_eq_some_iff.1 hqz1).1).trans hqz1) rfl rfl rfl; obtain ⟨y2, q2, hy2, hq2s, hq2, z2, hz2, c1, c2, HBz2, HVz2⟩ := HV.out w2 v b0 0 k0 (HBz1.out.trans (hb2.mono HBz1.out.size)) (HVz1.out.below hb2); clear HV hlt) | (refine wpList_load_mid rfl 73 _ rfl q1 0 rfl _ _ hrg Tryz.underlying73 rfl infoHf ?_) | (refine wpList_store_row rfl 73 _ _ rfl q2 (hfA 0 k0 v) rfl rfl 73 _ hq2 infoHf rfl (hfA_one _ _ _ hov) ?_; rw [hz2]; clear hz2 hy2 hq2))
    have HV9 := HVz2
    obtain ⟨av, cv, hav⟩ := bytes_shapeN HVz2.out
    obtain ⟨nb, hnb⟩ : ∃ n, b0.length = n := ⟨_, rfl⟩
    rw [hnb] at hav
    clear hnb
    subst hav
    simp only [Act.put]
    clear hh hrg hqz1 HVz1 HUz1 HBz1 hov hou HVz2
    go_wp2_with fail
    go_quiet (fail)
    go_wp2
    go_ret2
    refine ⟨.slice av nb cv, by rw [HK1.out]; rfl, by rw [HK1.out]; exact HV9.out.below (bdr (Below.refl _ _) _), bdr HBz2.out _, HFV.out⟩
  · have HK1 : Hid (K = (k1, b1)) := by show K = _; rw [HK.out, if_pos hl]
    rw [hl] at HW
    clear hl HK
    have hnz := neq_zeroN k1
    go_enter Tryz.func13, Tryz.ntmps13
    go_upto_region 5 with (first | (go_at_call 21; refine hh.mono ?_; rintro e w1 ⟨v, u, rfl, hv, hu, hb, hfv, hfu⟩; have HFV := hidOf hfv; have HFU := hidOf hfu; clear hfv hfu; obtain ⟨y1, q1, hy1, hq1s, hq1, z1, hz1, hqz1, HBz1, HVz1, HUz1, hlt⟩ := HW.out w1 v u hb hv hu; clear HW hb; have hov := oneSlice hv; have hou := oneSlice hu; clear hv hu) | (refine wpList_store_row rfl 74 _ _ rfl q1 (hvA 0 k0 v c.many k1 u) rfl rfl 74 _ hq1 infoHv rfl (hvA_one _ _ _ _ _ _ hov hou) ?_; rw [hz1]; clear hz1 hy1 hq1) | (refine wpList_load_row rfl 74 _ rfl q1 rfl 74 (hvA 0 k0 v c.many k1 u) (0, 0) _ hqz1 Tryz.underlying74 rfl infoHv ?_) | (go_at_call 22; refine hlt.mono ?_; rintro e w2 ⟨rfl, hb2⟩; have hrg := load_at w2 q1 3 c.many k1 u _ ((hb2.block q1 (Array.getElem?_eq_some_iff.1 hqz1).1).trans hqz1) rfl rfl rfl; obtain ⟨y2, q2, hy2, hq2s, hq2, z2, hz2, c1, c2, HBz2, HVz2⟩ := HV.out w2 u b1 c.many k1 (HBz1.out.trans (hb2.mono HBz1.out.size)) (HUz1.out.below hb2); clear HV hlt) | (refine wpList_load_mid rfl 73 _ rfl q1 3 rfl _ _ hrg Tryz.underlying73 rfl infoHf ?_) | (refine wpList_store_row rfl 73 _ _ rfl q2 (hfA c.many k1 u) rfl rfl 73 _ hq2 infoHf rfl (hfA_one _ _ _ hou) ?_; rw [hz2]; clear hz2 hy2 hq2))
    have HV9 := HVz2
    obtain ⟨av, cv, hav⟩ := bytes_shapeN HVz2.out
    obtain ⟨nb, hnb⟩ : ∃ n, b1.length = n := ⟨_, rfl⟩
    rw [hnb] at hav
    clear hnb
    subst hav
    simp only [Act.put]
    clear hh hrg hqz1 HVz1 HUz1 HBz1 hov hou HVz2
    go_wp2_with fail
    go_quiet (fail)
    go_wp2
    go_ret2
    refine ⟨.slice av nb cv, by rw [HK1.out]; rfl, by rw [HK1.out]; exact HV9.out.below (bdr (Below.refl _ _) _), bdr HBz2.out _, HFU.out⟩
end
end Go.Proofs.YtjlbahgjjdfaeaaGreat.Nz
