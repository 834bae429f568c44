/- Contracts: Write and Read. -/
import Derived.Test.YthbcpmakhdogmaaNvC
import Derived.OrdersHeld
namespace Go.Proofs.Ythbcpmakhdogmaa
open Go.RowKit Go.Proofs.Ty Go.Proofs.Nv
set_option linter.unusedVariables false
set_option maxRecDepth 1000000
set_option linter.unusedSimpArgs false
theorem wpOp_runN {ops : Array Oper} {Q : Exit → Act → World → Prop} {K : Act → World → Prop} {a : Act} {w : World} {i : Nat} {o : Oper} (hi : ops[i]? = some o) (hg : Region.wanted o (yielded ops a.tmps) = true) (h : o.wp Try.prog a w K Q) : wpOp Try.prog ops Q i K a w := by
  unfold Go.wpOp
  simp only [hi]
  rw [if_pos hg]
  exact .inl h
theorem exec_loadN {a : Act} {o : Oper} {x : Operand} {ty : TypeId} {ad : Addr} {v : Value} {w : World} (ho : o.op = .load ty x) (hx : a.eval x = .pointer (some ad)) (hr : (loadVar ty ad).run Try.prog w = .ok v w) :
    (execOp a.eval o).run Try.prog w = .ok (.value v) w := by
  unfold execOp
  simp only [ho, hx, Instr.loadAt, Instr.sureAddr, Sem.run_bind, Sem.run_pure, Result.andThen_ok, hr]
theorem load_pg (x : World) (D k : Nat) (ao : Option Addr) (l c : Nat) (hc : x.cell? ⟨D, k, none⟩ = some (.slice ao l c)) : (loadVar 49 ⟨D, k, none⟩).run Try.prog x = .ok (.slice ao l c) x := by
  simp [go_sem, run_underlying Try.underlying49, hc]
theorem info_sizeN {T : TypeId} {n : Nat} (h : (Try.prog.info? T).map (·.size) = some n) : ∃ i, Try.prog.info? T = some i ∧ i.size = n := by
  cases hi : Try.prog.info? T with
  | none => rw [hi] at h; cases h
  | some i => rw [hi] at h; simp at h; exact ⟨i, rfl, h⟩
theorem exec_idxP {a : Act} {o : Oper} {s i : Operand} {b n c k : Nat} (ho : o.op = .indexAddr 49 s i) (hs : a.eval s = .slice (some ⟨b, 0, none⟩) n c) (hi : a.eval i = .int .i64 (k : Int)) (hk : k < n) (w : World) : (execOp a.eval o).run Try.prog w = .ok (.value (.pointer (some ⟨b, 8 * k, none⟩))) w := by
  have h1 : (0 : Int) ≤ (k : Int) := by omega
  have h2 : (k : Int) < (n : Int) := by omega
  unfold execOp
  simp only [ho, hs, hi]
  obtain ⟨i0, hi0, hz0⟩ := info_sizeN infoA8
  simp [go_sem, run_underlying Try.underlying49, sizeOf, typeInfo, hi0, hz0, h1, h2, Addr.add_mid, Nat.mul_comm]
theorem load_a8 (w : World) (q : Nat) (A : Array Value) (hq : w.heap[q]? = some (.cells A 38 (0, 0))) (hA : A.size = 8) : (loadVar 38 ⟨q, 0, none⟩).run Try.prog w = .ok (.agg A) w :=
  run_loadVar_row w q 38 38 A (0, 0) _ hq Try.underlying38 rfl (by rw [hA]; exact infoA8)
section
variable {C P : Nat} {c : Ch} {w : World}
theorem wr_no {i : Int} {b : List UInt8} (h : c.has i = false ∨ c.dead = true) : c.wr i b = (c, false) := by unfold Ch.wr; rw [if_pos h]
theorem wr_die {i : Int} {b : List UInt8} (h1 : c.has i = true) (h2 : c.dead = false) (h3 : c.left = 0) : c.wr i b = (c.die, false) := by unfold Ch.wr; rw [if_neg (by simp [h1, h2]), if_pos h3]
theorem wr_put {i : Int} {b : List UInt8} (h1 : c.has i = true) (h2 : c.dead = false) (h3 : c.left ≠ 0) : c.wr i b = (c.put i.toNat b, true) := by unfold Ch.wr; rw [if_neg (by simp [h1, h2]), if_neg h3]
set_option maxHeartbeats 2000000 in
theorem Write_put (h : Cm C P c w) (i : Nat) (b : List UInt8) (hb : b.length = 8) (hi : i < c.n) (hd : c.dead = false) (hl : c.left ≠ 0) :
    Calls Try.prog 26 #[.pointer (some ⟨C, 0, none⟩), .int .i64 i, pgV b] w fun e w' => e = .returned (.bool true) ∧ Cm C P (c.put i b) w' ∧ Two C P w w' := by
  have hhas : c.has (i : Int) = true := by simp [Ch.has, hi]
  have HH := has_any (h.below ((Below.refl _ w).alloc (Nat.le_refl _) (.cells (byC b).toArray 38))) (i : Int)
  rw [hhas] at HH
  obtain ⟨A, hA⟩ : ∃ A, (byC b).toArray = A := ⟨_, rfl⟩
  have hAs : A.size = 8 := by rw [← hA]; simp [Lib.byteCells, hb]
  have HA : Hid (A = (byC b).toArray) := hA.symm
  have HB := hidOf hb
  have B1 : Below w.heap.size w (w.alloc (.cells A 38)) := (Below.refl _ w).alloc (Nat.le_refl _) _
  have h1 := h.below B1
  have hq : (w.alloc (.cells A 38)).heap[w.heap.size]? = some (.cells A 38 (0, 0)) := heap_alloc_new w _
  have HP : Hid ((c.put i b).Ok) := Ch.put_ok h.ok hi hb
  have T1 := hidOf (Two.of_below B1 C P)
  have HX0 := hidOf h1
  have c1 := h1.c1
  have c2 := h1.c2
  have hf := h1.free
  rw [hd] at c2
  unfold pgV
  rw [hA] at HH ⊢
  obtain ⟨w1, hw1⟩ : ∃ x, w.alloc (.cells A 38) = x := ⟨_, rfl⟩
  obtain ⟨q, hqs⟩ : ∃ q, w.heap.size = q := ⟨_, rfl⟩
  rw [hw1] at HH h1 hq T1 HX0 c1 c2 hf
  rw [hqs] at hq
  clear B1
  have hqlt := h.ltP
  have hClt := h.lt
  have hin := hi
  have HLE : Hid (c.n = c.n) := rfl
  by_cases hneg : 0 < c.left
  · have hd0 : decide ((c.left : Int) = 0) = false := by simpa using hl
    have hd0' : (c.left == 0) = false := by simpa using hl
    have hd1 : decide (0 < c.left) = true := by simpa using hneg
    have hw : wrap64 (c.left - 1) = c.left - 1 := by have := h.ok.l1; have := h.ok.l2; simp only [wrap64]; omega
    have HX1 := hidOf (h1.left1 (c.left - 1) ⟨c.pg, c.n, c.left - 1, c.dead⟩ rfl rfl rfl rfl ⟨h.ok.len, h.ok.lo, h.ok.hi, by show (-1 : Int) ≤ c.left - 1; omega, by show c.left - 1 < 9223372036854775808; have := h.ok.l2; omega⟩)
    have T2 := hidOf (T1.out.at0 1 (.int .i64 (c.left - 1)))
    have hq2 : (w1.setCell ⟨C, 1, none⟩ (.int .i64 (c.left - 1))).heap[q]? = some (.cells A 38 (0, 0)) := (Below.heap_setCell _ ⟨C, 1, none⟩ _ q (by show q ≠ C; omega)).trans hq
    go_enter Try.func26, Try.ntmps26
    go_upto_region 8 with (go_at_call 38; refine HH.mono ?_; rintro e w2 ⟨rfl, hw2⟩; rw [hw2]; clear hw2 w2)
    clear HH h1 hq
    have HX := HX1
    have TX := T2
    have hqX := hq2
    clear HX0 HX1 T1 T2 hq2 HLE c1 c2 hf
    clear hw1
    generalize w1.setCell ⟨C, 1, none⟩ (.int .i64 (c.left - 1)) = X at *
    have HXD := hidOf (HX.out.drawn 1)
    have HZ := hidOf (HXD.out.page i b (c.put i b) rfl rfl (by show (if 0 < c.left then c.left - 1 else c.left) = c.left - 1; rw [if_pos hneg]) rfl HP.out)
    have TZ := hidOf ((TX.out.drawn 1).row P (.inr (.inl rfl)) (putA (byC c.pg).toArray (8 * i) b))
    have S0 : X.drew.heap[C]? = some (.cells #[.slice (some ⟨P, 0, none⟩) c.n c.n, .int .i64 (c.left - 1), .bool c.dead] 51 (0, 0)) ∧ X.drew.heap[q]? = some (.cells A 38 (0, 0)) := ⟨HX.out.head, hqX⟩
    have SZ : Hid ((X.drew.setRow P (putA (byC c.pg).toArray (8 * i) b)).heap[C]? = some (.cells #[.slice (some ⟨P, 0, none⟩) c.n c.n, .int .i64 (c.left - 1), .bool c.dead] 51 (0, 0)) ∧ (X.drew.setRow P (putA (byC c.pg).toArray (8 * i) b)).heap[q]? = some (.cells A 38 (0, 0))) :=
      ⟨(Go.Proofs.Ythbcpmakhdogmaa.setRow_other _ P C _ HX.out.ne).trans S0.1, (Go.Proofs.Ythbcpmakhdogmaa.setRow_other _ P q _ (by omega)).trans S0.2⟩
    have HAS := hidOf hAs
    have hsz : 8 * i + 8 ≤ c.pg.length := by have := HX.out.ok.len; first | omega | (simp only at this; omega)
    refine wp_region_held (S := fun x => x.heap[C]? = some (.cells #[.slice (some ⟨P, 0, none⟩) c.n c.n, .int .i64 (c.left - 1), .bool c.dead] 51 (0, 0)) ∧ x.heap[q]? = some (.cells A 38 (0, 0))) (by kernel_rfl) ?_
    change wpAnyH _ _ _ _ _ _ _ _ X.drew
    refine wpAnyH_take (i := 0) (v := (.pointer (some ⟨C, 0, none⟩))) rfl (by kernel_rfl) (by kernel_rfl) (by kernel_rfl) (fun _ _ _ h => h) (.inl ⟨rfl, fun _ hS => rfl⟩) S0 ?_
    simp only [List.getElem_toArray, List.getElem_cons_succ, List.getElem_cons_zero, Act.put, List.setIfInBounds_toArray, List.set_cons_succ, List.set_cons_zero]
    refine wpAnyH_take (i := 1) (v := (.pointer (some ⟨C, 0, none⟩))) rfl (by kernel_rfl) (by kernel_rfl) (by kernel_rfl) (fun _ _ _ h => h) (.inl ⟨rfl, fun _ hS => by simp [execOp, go_sem, Act.eval]⟩) S0 ?_
    simp only [List.getElem_toArray, List.getElem_cons_succ, List.getElem_cons_zero, Act.put, List.setIfInBounds_toArray, List.set_cons_succ, List.set_cons_zero]
    refine wpAnyH_take (i := 2) (v := (.pointer (some ⟨C, 0, none⟩))) rfl (by kernel_rfl) (by kernel_rfl) (by kernel_rfl) (fun _ _ _ h => h) (.inl ⟨rfl, fun _ hS => by simp [execOp, go_sem, Act.eval]⟩) S0 ?_
    simp only [List.getElem_toArray, List.getElem_cons_succ, List.getElem_cons_zero, Act.put, List.setIfInBounds_toArray, List.set_cons_succ, List.set_cons_zero]
    refine wpAnyH_take (i := 3) (v := (.slice (some ⟨P, 0, none⟩) c.n c.n)) rfl (by kernel_rfl) (by kernel_rfl) (by kernel_rfl) (fun _ _ _ h => h) (.inl ⟨rfl, fun _ hS => exec_loadN rfl rfl (load_pg _ C 0 _ _ _ (Lib.cell_of_heap hS.1 0))⟩) S0 ?_
    simp only [List.getElem_toArray, List.getElem_cons_succ, List.getElem_cons_zero, Act.put, List.setIfInBounds_toArray, List.set_cons_succ, List.set_cons_zero]
    refine wpAnyH_take (i := 4) (v := (.int .i64 (i : Int))) rfl (by kernel_rfl) (by kernel_rfl) (by kernel_rfl) (fun _ _ _ h => h) (.inl ⟨rfl, fun _ hS => rfl⟩) S0 ?_
    simp only [List.getElem_toArray, List.getElem_cons_succ, List.getElem_cons_zero, Act.put, List.setIfInBounds_toArray, List.set_cons_succ, List.set_cons_zero]
    refine wpAnyH_take (i := 5) (v := (.agg A)) rfl (by kernel_rfl) (by kernel_rfl) (by kernel_rfl) (fun _ _ _ h => h) (.inl ⟨rfl, fun _ hS => exec_loadN rfl rfl (load_a8 _ _ A hS.2 HAS.out)⟩) S0 ?_
    simp only [List.getElem_toArray, List.getElem_cons_succ, List.getElem_cons_zero, Act.put, List.setIfInBounds_toArray, List.set_cons_succ, List.set_cons_zero]
    refine wpAnyH_take (i := 6) (v := (.pointer (some ⟨P, 8 * i, none⟩))) rfl (by kernel_rfl) (by kernel_rfl) (by kernel_rfl) (fun _ _ _ h => h) (.inl ⟨rfl, fun _ hS => exec_idxP rfl rfl rfl hin _⟩) S0 ?_
    simp only [List.getElem_toArray, List.getElem_cons_succ, List.getElem_cons_zero, Act.put, List.setIfInBounds_toArray, List.set_cons_succ, List.set_cons_zero]
    refine wpAnyH_all (rs := [7]) (by kernel_rfl) (by simp) ?_
    intro k hk
    simp only [List.mem_cons, List.mem_nil_iff, or_false] at hk
    subst hk
    refine wpOp_runN rfl rfl (wp_storePg _ _ rfl P (8 * i) _ _ b HB.out rfl (by show Value.agg A = pgV b; rw [HA.out]; rfl) HXD.out.pages (by rw [List.size_toArray, byC_len]; exact hsz) ?_)
    refine ⟨SZ.out, ?_⟩
    simp only [List.getElem_toArray, List.getElem_cons_succ, List.getElem_cons_zero, Act.put, List.setIfInBounds_toArray, List.set_cons_succ, List.set_cons_zero]
    refine wpAnyH_done (by kernel_rfl) ?_ _
    clear S0 SZ
    go_wp2
    go_ret
    exact ⟨rfl, HZ.out, TZ.out⟩
  · have hd0' : (c.left == 0) = false := by simpa using hl
    have hd1 : decide (0 < c.left) = false := by simpa using hneg
    go_enter Try.func26, Try.ntmps26
    go_upto_region 8 with (go_at_call 38; refine HH.mono ?_; rintro e w2 ⟨rfl, hw2⟩; rw [hw2]; clear hw2 w2)
    clear HH h1
    have HX := HX0
    have TX := T1
    have hqX := hq
    clear HX0 T1 hq HLE c1 c2 hf
    clear hw1
    obtain ⟨X, hX⟩ : ∃ x, w1 = x := ⟨_, rfl⟩
    subst hX
    have HXD := hidOf (HX.out.drawn 1)
    have HZ := hidOf (HXD.out.page i b (c.put i b) rfl rfl (by show (if 0 < c.left then c.left - 1 else c.left) = c.left; rw [if_neg (by omega)]) rfl HP.out)
    have TZ := hidOf ((TX.out.drawn 1).row P (.inr (.inl rfl)) (putA (byC c.pg).toArray (8 * i) b))
    have S0 : w1.drew.heap[C]? = some (.cells #[.slice (some ⟨P, 0, none⟩) c.n c.n, .int .i64 c.left, .bool c.dead] 51 (0, 0)) ∧ w1.drew.heap[q]? = some (.cells A 38 (0, 0)) := ⟨HX.out.head, hqX⟩
    have SZ : Hid ((w1.drew.setRow P (putA (byC c.pg).toArray (8 * i) b)).heap[C]? = some (.cells #[.slice (some ⟨P, 0, none⟩) c.n c.n, .int .i64 c.left, .bool c.dead] 51 (0, 0)) ∧ (w1.drew.setRow P (putA (byC c.pg).toArray (8 * i) b)).heap[q]? = some (.cells A 38 (0, 0))) :=
      ⟨(Go.Proofs.Ythbcpmakhdogmaa.setRow_other _ P C _ HX.out.ne).trans S0.1, (Go.Proofs.Ythbcpmakhdogmaa.setRow_other _ P q _ (by omega)).trans S0.2⟩
    have HAS := hidOf hAs
    have hsz : 8 * i + 8 ≤ c.pg.length := by have := HX.out.ok.len; first | omega | (simp only at this; omega)
    refine wp_region_held (S := fun x => x.heap[C]? = some (.cells #[.slice (some ⟨P, 0, none⟩) c.n c.n, .int .i64 c.left, .bool c.dead] 51 (0, 0)) ∧ x.heap[q]? = some (.cells A 38 (0, 0))) (by kernel_rfl) ?_
    change wpAnyH _ _ _ _ _ _ _ _ w1.drew
    refine wpAnyH_take (i := 0) (v := (.pointer (some ⟨C, 0, none⟩))) rfl (by kernel_rfl) (by kernel_rfl) (by kernel_rfl) (fun _ _ _ h => h) (.inl ⟨rfl, fun _ hS => rfl⟩) S0 ?_
    simp only [List.getElem_toArray, List.getElem_cons_succ, List.getElem_cons_zero, Act.put, List.setIfInBounds_toArray, List.set_cons_succ, List.set_cons_zero]
    refine wpAnyH_take (i := 1) (v := (.pointer (some ⟨C, 0, none⟩))) rfl (by kernel_rfl) (by kernel_rfl) (by kernel_rfl) (fun _ _ _ h => h) (.inl ⟨rfl, fun _ hS => by simp [execOp, go_sem, Act.eval]⟩) S0 ?_
    simp only [List.getElem_toArray, List.getElem_cons_succ, List.getElem_cons_zero, Act.put, List.setIfInBounds_toArray, List.set_cons_succ, List.set_cons_zero]
    refine wpAnyH_take (i := 2) (v := (.pointer (some ⟨C, 0, none⟩))) rfl (by kernel_rfl) (by kernel_rfl) (by kernel_rfl) (fun _ _ _ h => h) (.inl ⟨rfl, fun _ hS => by simp [execOp, go_sem, Act.eval]⟩) S0 ?_
    simp only [List.getElem_toArray, List.getElem_cons_succ, List.getElem_cons_zero, Act.put, List.setIfInBounds_toArray, List.set_cons_succ, List.set_cons_zero]
    refine wpAnyH_take (i := 3) (v := (.slice (some ⟨P, 0, none⟩) c.n c.n)) rfl (by kernel_rfl) (by kernel_rfl) (by kernel_rfl) (fun _ _ _ h => h) (.inl ⟨rfl, fun _ hS => exec_loadN rfl rfl (load_pg _ C 0 _ _ _ (Lib.cell_of_heap hS.1 0))⟩) S0 ?_
    simp only [List.getElem_toArray, List.getElem_cons_succ, List.getElem_cons_zero, Act.put, List.setIfInBounds_toArray, List.set_cons_succ, List.set_cons_zero]
    refine wpAnyH_take (i := 4) (v := (.int .i64 (i : Int))) rfl (by kernel_rfl) (by kernel_rfl) (by kernel_rfl) (fun _ _ _ h => h) (.inl ⟨rfl, fun _ hS => rfl⟩) S0 ?_
    simp only [List.getElem_toArray, List.getElem_cons_succ, List.getElem_cons_zero, Act.put, List.setIfInBounds_toArray, List.set_cons_succ, List.set_cons_zero]
    refine wpAnyH_take (i := 5) (v := (.agg A)) rfl (by kernel_rfl) (by kernel_rfl) (by kernel_rfl) (fun _ _ _ h => h) (.inl ⟨rfl, fun _ hS => exec_loadN rfl rfl (load_a8 _ _ A hS.2 HAS.out)⟩) S0 ?_
    simp only [List.getElem_toArray, List.getElem_cons_succ, List.getElem_cons_zero, Act.put, List.setIfInBounds_toArray, List.set_cons_succ, List.set_cons_zero]
    refine wpAnyH_take (i := 6) (v := (.pointer (some ⟨P, 8 * i, none⟩))) rfl (by kernel_rfl) (by kernel_rfl) (by kernel_rfl) (fun _ _ _ h => h) (.inl ⟨rfl, fun _ hS => exec_idxP rfl rfl rfl hin _⟩) S0 ?_
    simp only [List.getElem_toArray, List.getElem_cons_succ, List.getElem_cons_zero, Act.put, List.setIfInBounds_toArray, List.set_cons_succ, List.set_cons_zero]
    refine wpAnyH_all (rs := [7]) (by kernel_rfl) (by simp) ?_
    intro k hk
    simp only [List.mem_cons, List.mem_nil_iff, or_false] at hk
    subst hk
    refine wpOp_runN rfl rfl (wp_storePg _ _ rfl P (8 * i) _ _ b HB.out rfl (by show Value.agg A = pgV b; rw [HA.out]; rfl) HXD.out.pages (by rw [List.size_toArray, byC_len]; exact hsz) ?_)
    refine ⟨SZ.out, ?_⟩
    simp only [List.getElem_toArray, List.getElem_cons_succ, List.getElem_cons_zero, Act.put, List.setIfInBounds_toArray, List.set_cons_succ, List.set_cons_zero]
    refine wpAnyH_done (by kernel_rfl) ?_ _
    clear S0 SZ
    go_wp2
    go_ret
    exact ⟨rfl, HZ.out, TZ.out⟩
theorem Write_no (h : Cm C P c w) (i : Int) (b : List UInt8) (hb : b.length = 8) (hno : c.has i = false ∨ c.dead = true) :
    Calls Try.prog 26 #[.pointer (some ⟨C, 0, none⟩), .int .i64 i, pgV b] w fun e w' => e = .returned (.bool false) ∧ Cm C P c w' ∧ Two C P w w' := by
  obtain ⟨A, hA⟩ : ∃ A, (byC b).toArray = A := ⟨_, rfl⟩
  have hAs : A.size = 8 := by rw [← hA]; simp [Lib.byteCells, hb]
  have B1 : Below w.heap.size w (w.alloc (.cells A 38)) := (Below.refl _ w).alloc (Nat.le_refl _) _
  have h1 := h.below B1
  have HH := has_any h1 i
  have T1 := hidOf (Two.of_below B1 C P)
  have HX0 := hidOf h1
  have c2 := h1.c2
  unfold pgV
  rw [hA]
  clear hA h B1 hb
  cases hhas : c.has i with
  | false =>
    rw [hhas] at HH
    clear hno
    go_enter Try.func26, Try.ntmps26
    go_wp2_with (go_at_call 38; refine HH.mono ?_; rintro e w2 ⟨rfl, hw2⟩; rw [hw2]; clear hw2 w2)
    go_ret
    exact ⟨rfl, HX0.out, T1.out⟩
  | true =>
    rw [hhas] at HH hno
    have hdd : c.dead = true := by simpa using hno
    rw [hdd] at c2
    clear hno
    go_enter Try.func26, Try.ntmps26
    go_wp2_with (go_at_call 38; refine HH.mono ?_; rintro e w2 ⟨rfl, hw2⟩; rw [hw2]; clear hw2 w2)
    go_ret
    exact ⟨rfl, HX0.out, T1.out⟩
theorem Write_die (h : Cm C P c w) (i : Int) (b : List UInt8) (hb : b.length = 8) (hhas : c.has i = true) (hd : c.dead = false) (hl : c.left = 0) :
    Calls Try.prog 26 #[.pointer (some ⟨C, 0, none⟩), .int .i64 i, pgV b] w fun e w' => e = .returned (.bool false) ∧ Cm C P c.die w' ∧ Two C P w w' := by
  obtain ⟨A, hA⟩ : ∃ A, (byC b).toArray = A := ⟨_, rfl⟩
  have hAs : A.size = 8 := by rw [← hA]; simp [Lib.byteCells, hb]
  have B1 : Below w.heap.size w (w.alloc (.cells A 38)) := (Below.refl _ w).alloc (Nat.le_refl _) _
  have h1 := h.below B1
  have HH := has_any h1 i
  have T1 := hidOf ((Two.of_below B1 C P).at0 2 (.bool true))
  have HX0 := hidOf (h1.dead2 true c.die rfl rfl rfl rfl ⟨h.ok.len, h.ok.lo, h.ok.hi, h.ok.l1, h.ok.l2⟩)
  have c1 := h1.c1
  have c2 := h1.c2
  have hf := h1.free
  rw [hd] at c2
  rw [hl] at c1
  rw [hhas] at HH
  unfold pgV
  rw [hA]
  clear hA h B1 hb h1
  go_enter Try.func26, Try.ntmps26
  go_wp2_with (go_at_call 38; refine HH.mono ?_; rintro e w2 ⟨rfl, hw2⟩; rw [hw2]; clear hw2 w2)
  go_ret
  exact ⟨rfl, HX0.out, T1.out⟩
theorem Write_any (h : Cm C P c w) (i : Int) (b : List UInt8) (hb : b.length = 8) :
    Calls Try.prog 26 #[.pointer (some ⟨C, 0, none⟩), .int .i64 i, pgV b] w fun e w' => e = .returned (.bool (c.wr i b).2) ∧ Cm C P (c.wr i b).1 w' ∧ Two C P w w' := by
  cases hhas : c.has i with
  | false => rw [wr_no (.inl hhas)]; exact Write_no h i b hb (.inl hhas)
  | true =>
    cases hd : c.dead with
    | true => rw [wr_no (.inr hd)]; exact Write_no h i b hb (.inr hd)
    | false =>
      by_cases hl : c.left = 0
      · rw [wr_die hhas hd hl]; exact Write_die h i b hb hhas hd hl
      · rw [wr_put hhas hd hl]
        have hi : 0 ≤ i ∧ i < c.n := by simpa [Ch.has] using hhas
        have := Write_put h i.toNat b hb (by omega) hd hl
        rw [show ((i.toNat : Nat) : Int) = i by omega] at this
        exact this
theorem Read_any (h : Cm C P c w) (i : Int) :
    Calls Try.prog 35 #[.pointer (some ⟨C, 0, none⟩), .int .i64 i] w fun e w' => e = .returned (pgV (c.rd i)) ∧ Below w.heap.size w w' := by
  have B1 : Below w.heap.size w (w.alloc (.cells (byC zero8).toArray 38)) := (Below.refl _ w).alloc (Nat.le_refl _) _
  have h1 := h.below B1
  have HH := has_any h1 i
  obtain ⟨Z, hZ⟩ : ∃ Z, (byC zero8).toArray = Z := ⟨_, rfl⟩
  have hZs : Z.size = 8 := by rw [← hZ]; rfl
  have HZ : Hid (Z = #[.int .u8 0, .int .u8 0, .int .u8 0, .int .u8 0, .int .u8 0, .int .u8 0, .int .u8 0, .int .u8 0]) := by rw [← hZ]; rfl
  have hq : (w.alloc (.cells Z 38)).heap[w.heap.size]? = some (.cells Z 38 (0, 0)) := heap_alloc_new w _
  rw [hZ] at HH B1 h1
  obtain ⟨w1, hw1⟩ : ∃ x, w.alloc (.cells Z 38) = x := ⟨_, rfl⟩
  obtain ⟨q, hqs⟩ : ∃ q, w.heap.size = q := ⟨_, rfl⟩
  have hw1' : w.alloc (.cells #[.int .u8 0, .int .u8 0, .int .u8 0, .int .u8 0, .int .u8 0, .int .u8 0, .int .u8 0, .int .u8 0] 38) = w1 := by rw [← HZ.out]; exact hw1
  rw [hw1] at HH B1 h1 hq
  have HB1 := hidOf B1
  rw [hqs] at hq
  have HQ := hidOf hqs
  have fin : ∀ (M : Array Value), Hid (Below w.heap.size w (w1.setRow q M)) := fun M => below_row B1 (by omega) B1.size M
  clear hw1 hZ
  cases hhas : c.has i with
  | false =>
    rw [hhas] at HH
    have HR : Hid (c.rd i = zero8) := by show _ = _; unfold Ch.rd; rw [hhas]; rfl
    go_enter Try.func35, Try.ntmps35
    go_wp2_with (first | (go_at_call 38; refine HH.mono ?_; rintro e w2 ⟨rfl, hw2⟩; rw [hw2]; clear hw2 w2) | (refine wpList_store_row rfl 38 _ _ rfl q (byC zero8).toArray rfl rfl 38 Z hq infoA8 (by rw [hZs]; rfl) (all_oneCell_toArray (byteCells_one zero8)) ?_; have hq2 := Go.Proofs.Ythbcpmakhdogmaa.setRow_heap w1 q Z (byC zero8).toArray _ _ hq) | (refine wpList_load_row rfl 38 _ rfl q rfl 38 _ (0, 0) _ hq2 Try.underlying38 rfl infoA8 ?_))
    have hld := load_a8 _ q _ hq2 rfl
    simp only [Act.put]
    exact bodyPost_ret (v := pgV zero8) (by simp [results, Try.results35, asAddr, hld]; rfl) rfl ⟨by rw [HR.out], (fin _).out⟩
  | true =>
    rw [hhas] at HH
    have hi : 0 ≤ i ∧ i < c.n := by simpa [Ch.has] using hhas
    have HR : Hid (c.rd i = (c.pg.drop (8 * i.toNat)).take 8) := by show _ = _; unfold Ch.rd; rw [hhas]; rfl
    have c0 := h1.c0
    have hrg := h1.range i.toNat (by omega)
    rw [Nat.mul_comm] at hrg
    have hlen : ((c.pg.drop (8 * i.toNat)).take 8).length = 8 := by rw [List.length_take, List.length_drop, h.ok.len]; omega
    have hlen' : (byC ((c.pg.drop (8 * i.toNat)).take 8)).length = 8 := by rw [byC_len, hlen]
    rw [HR.out]
    obtain ⟨L, hL⟩ : ∃ L, (c.pg.drop (8 * i.toNat)).take 8 = L := ⟨_, rfl⟩
    rw [Nat.mul_comm i.toNat 8, hL, Nat.mul_comm 8 i.toNat] at hrg
    rw [hL] at hlen' hlen ⊢
    obtain ⟨M, hM⟩ : ∃ M, byC L = M := ⟨_, rfl⟩
    rw [hM] at hrg hlen'
    have hLM : Hid (byC L = M) := hM
    have HH1 : Hid (∀ v ∈ M, v.oneCell' = true) := by rw [← hM]; exact byteCells_one L
    clear HR hL hM
    go_enter Try.func35, Try.ntmps35
    go_wp2_with (first | (go_at_call 38; refine HH.mono ?_; rintro e w2 ⟨rfl, hw2⟩; rw [hw2]; clear hw2 w2) | (refine wpList_load_mid rfl 38 _ rfl P (i.toNat * 8) rfl M _ hrg Try.underlying38 rfl (by rw [hlen']; exact infoA8) ?_) | (refine wpList_store_row rfl 38 _ _ rfl q M.toArray rfl rfl 38 Z hq (by rw [List.size_toArray, hlen']; exact infoA8) (by rw [hZs, List.size_toArray, hlen']) (all_oneCell_toArray HH1.out) ?_; have hq2 := Go.Proofs.Ythbcpmakhdogmaa.setRow_heap w1 q Z M.toArray _ _ hq))
    have hld := load_a8 _ q _ hq2 (by rw [List.size_toArray, hlen'])
    simp only [Act.put, List.setIfInBounds_toArray, List.set_cons_succ, List.set_cons_zero]
    exact bodyPost_ret (v := .agg M.toArray) (by simp [results, Try.results35, asAddr, hld]) rfl ⟨by rw [pgV, hLM.out], (fin _).out⟩
end
end Go.Proofs.Ythbcpmakhdogmaa
