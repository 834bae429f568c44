/- Both servers answer a frame. -/
import Derived.Test.YtahfnknbmikmkaaGreatZs
import Derived.Test.YtahfnknbmikmkaaGreatKb34
namespace Go.Proofs.YtahfnknbmikmkaaGreat
open Go.RowKit Go.Proofs.Ty
set_option linter.unusedVariables false
set_option maxRecDepth 1000000
set_option linter.unusedSimpArgs false
theorem load_ps (x : World) (X k : Nat) (p : Option Addr) (hc : x.cell? ⟨X, k, none⟩ = some (.pointer p)) : (loadVar 27 ⟨X, k, none⟩).run Tryz.prog x = .ok (.pointer p) x := by
  simp [go_sem, run_underlying Tryz.underlying27, hc]
theorem load_pr (x : World) (X k : Nat) (p : Option Addr) (hc : x.cell? ⟨X, k, none⟩ = some (.pointer p)) : (loadVar 37 ⟨X, k, none⟩).run Tryz.prog x = .ok (.pointer p) x := by
  simp [go_sem, run_underlying Tryz.underlying37, hc]
theorem enterDg : ∀ args x, (callFunc 23 args).run Tryz.prog x = .ok (.enter 23 args) x := fun _ _ => by rfl
theorem exec_eql8 {a : Act} {o : Oper} {x y : Operand} {t : TypeId} (f : F8) (ho : o.op = .binOp .eql 32 x y t) (hx : a.eval x = .agg f.arr) (hy : a.eval y = .agg f.arr) (w : World) : (execOp a.eval o).run Tryz.prog w = .ok (.value (.bool true)) w := by
  have he := eq8F f 9998 w
  have hm : Tryz.prog.eqGuardType Tryz.prog.depth 32 = false := by kernel_rfl
  unfold execOp
  simp only [ho, hx, hy]
  simp [go_sem, run_eqGuard_agg w .eql 32 _ _ f.arr f.arr hm, run_eql_struct, he]
theorem ph_results {Q : Nat} {f : F8} {b : Bool} {w : World} (h : Qb Q f w) (tmps : Array Value) (h2 : tmps[4]?.getD undef = .pointer (some ⟨Q, 0, none⟩)) (h3 : tmps[5]?.getD undef = .bool b) :
    (results Tryz.f16 tmps).run Tryz.prog w = .ok (.tuple #[.agg f.arr, .bool b]) w := by
  have l0 := h.load
  simp [Go.results, Tryz.results16, h2, h3, asAddr, l0]
theorem enterHd : ∀ args x, (callFunc 35 args).run Tryz.prog x = .ok (.enter 35 args) x := fun _ _ => by rfl
theorem enterRh : ∀ args x, (callFunc 37 args).run Tryz.prog x = .ok (.enter 37 args) x := fun _ _ => by rfl
/-- The blocks that a frame may change. -/
def hch (p : Pl) (its : List Im) (s : Ss) (ao : Option Addr) : List Nat := p.S :: p.T :: p.E :: (wl s ao ++ its.map Im.b)
section
variable {w x : World} {p : Pl} {its : List Im} {s : Ss} {ao ap : Option Addr} {cp cq : Nat}
set_option maxHeartbeats 16000000 in
theorem Handles_kp (h : Jt w p its its s s ao cp ap cq x) (q : F8) : Calls Tryz.prog 16 #[.pointer (some ⟨p.Y, 0, none⟩), .agg q.arr] x fun e x' => e = .returned (.tuple #[.agg (hndO its s q).1.f.arr, .bool true]) ∧ ∃ ao' cp' ap' cq', Jt w p (hndO its s q).2.1 (hndO its s q).2.1 (hndO its s q).2.2 (hndO its s q).2.2 ao' cp' ap' cq' x' ∧ Kp (hch p its s ao) x x' ∧ (∀ b ∈ blk ao', b ∈ blk ao ∨ x.heap.size ≤ b) ∧ (∀ b ∈ blk ap', b ∈ blk ap ∨ x.heap.size ≤ b) := by
  obtain ⟨W, hW⟩ : ∃ W, x.alloc (.cells q.arr 32) = W := ⟨_, rfl⟩
  obtain ⟨k, hk⟩ : ∃ k, x.heap.size = k := ⟨_, rfl⟩
  have hWs : W.heap.size = k + 1 := by rw [← hW, size_alloc, hk]
  have b0 : Below x.heap.size x (W.alloc (.cells zA8 32)) := (hW ▸ (Below.refl _ _).alloc (Nat.le_refl _) _).alloc (by rw [hWs, hk]; omega) _
  have q0 : Qb k q (W.alloc (.cells zA8 32)) := (Lib.alloc_old W _ k (by omega)).trans (by rw [← hk, ← hW]; exact Qb.new x q)
  have r0 : Qb (k + 1) F8.nul (W.alloc (.cells zA8 32)) := by rw [← hWs]; exact heap_alloc_new W _
  have h0 := h.next b0
  have hYk : p.Y < k := by rw [← hk]; exact (Array.getElem?_eq_some_iff.1 h.prY).1
  have hwk : w.heap.size ≤ k := by rw [← hk]; exact h.below.size
  have HLA := hidOf2 (show ∀ b ∈ blk ao, b < k from fun b hb => by rw [← hk]; exact h.pv.lt b hb)
  have HLB := hidOf2 (show ∀ b ∈ blk ap, b < k from fun b hb => by rw [← hk]; exact h.dv.lt b hb)
  have HCP : Hid (∀ b ∈ p.S :: (wl s ao ++ its.map Im.b), b ∈ hch p its s ao) := fun b hb => by
    unfold hch
    rcases List.mem_cons.1 hb with h1 | h1
    · rw [h1]; simp
    · exact List.mem_cons_of_mem _ (List.mem_cons_of_mem _ (List.mem_cons_of_mem _ h1))
  have HCD : Hid (∀ b ∈ [p.T, p.E], b ∈ hch p its s ao) := fun b hb => by
    unfold hch
    simp at hb
    rcases hb with h1 | h1 <;> rw [h1] <;> simp
  have KB : Kp (hch p its s ao) x (W.alloc (.cells zA8 32)) := Kp.of_below b0
  generalize hch p its s ao = CS at *
  clear h b0
  obtain ⟨V, hV⟩ : ∃ V, W.alloc (.cells zA8 32) = V := ⟨_, rfl⟩
  have hVs : V.heap.size = k + 2 := by rw [← hV, size_alloc, hWs]
  rw [hV] at q0 r0 h0 KB
  obtain ⟨ff, hff⟩ : ∃ f, (hndO its s q).1.f = f := ⟨_, rfl⟩
  obtain ⟨bb, hbb⟩ : ∃ b, hndB q = b := ⟨_, rfl⟩
  have c0 : Below V.heap.size V V.drew := bdr (Below.refl _ _) 1
  have J0 : Jt w p its its s s ao cp ap cq V.drew := h0.next c0
  have KX0 : Kp CS x V.drew := KB.trans (Kp.of_below c0)
  have qk0 : Qb k q V.drew := q0.below c0
  have rk0 : Qb (k + 1) F8.nul V.drew := r0.below c0
  have hDs : V.drew.heap.size = k + 2 := hVs
  have S0 : (fun y => y.cell? ⟨p.Y, 1, none⟩ = some (.pointer (some ⟨p.S, 0, none⟩)) ∧ Qb k q y) V.drew := ⟨J0.cY.2.1, qk0⟩
  have HFR : Hid (∀ (aN : Option Addr) (z : World), k + 1 < z.heap.size → (∀ b ∈ blk aN, b ∈ blk ao ∨ z.heap.size ≤ b) → ∀ b ∈ blk aN, b ≠ k + 1) := fun aN z hz f b hb => by
    rcases f b hb with h1 | h1
    · have := HLA.out b h1; omega
    · omega
  have HFS : Hid (∀ (aN : Option Addr) (z : World), k + 1 < z.heap.size → (∀ b ∈ blk aN, b ∈ blk ap ∨ z.heap.size ≤ b) → ∀ b ∈ blk aN, b ≠ k + 1) := fun aN z hz f b hb => by
    rcases f b hb with h1 | h1
    · have := HLB.out b h1; omega
    · omega
  have HFR2 : Hid (∀ (aN : Option Addr) (z : World), k + 1 < z.heap.size → (∀ b ∈ blk aN, b ∈ blk ao ∨ z.heap.size ≤ b) → ∀ b ∈ blk aN, b ∈ blk ao ∨ k ≤ b) := fun aN z hz f b hb => by
    rcases f b hb with h1 | h1
    · exact .inl h1
    · exact .inr (by omega)
  have HFS2 : Hid (∀ (aN : Option Addr) (z : World), k + 1 < z.heap.size → (∀ b ∈ blk aN, b ∈ blk ap ∨ z.heap.size ≤ b) → ∀ b ∈ blk aN, b ∈ blk ap ∨ k ≤ b) := fun aN z hz f b hb => by
    rcases f b hb with h1 | h1
    · exact .inl h1
    · exact .inr (by omega)
  go_enter Tryz.func16, Tryz.ntmps16
  go_upto_region 1 with fail
  change Code.wp Tryz.prog _ _ _ (W.alloc (.cells zA8 32))
  rw [hV]
  refine wp_cut (α := Nat) (fun u y => ∃ aN cN, Jt w p (hndO its s q).2.1 its (hndO its s q).2.2 s aN cN ap cq y ∧ Qb u ff y ∧ Qb k q y ∧ Qb (k + 1) F8.nul y ∧ k + 1 < u ∧ (∀ b ∈ blk aN, b ≠ u) ∧ (∀ b ∈ blk aN, b ≠ k + 1) ∧ Kp CS x y ∧ (∀ b ∈ blk aN, b ∈ blk ao ∨ k ≤ b)) (fun a u => (((((((((((a.put (some 11) (.pointer (some ⟨p.Y, 0, none⟩))).put (some 12) (.pointer (some ⟨p.Y, 0, none⟩))).put (some 13) (.pointer (some ⟨p.Y, 1, none⟩))).put (some 14) (.pointer (some ⟨p.S, 0, none⟩))).put (some 15) (.agg q.arr)).put (some 16) (.tuple #[.agg ff.arr, .bool bb])).put (some 10) (.tuple #[.agg ff.arr, .bool bb])).put (some 17) (.agg ff.arr)).put (some 18) (.bool bb)).put (some 6) (.pointer (some ⟨u, 0, none⟩))).put (some 7) (.bool bb))) ?_ ?_
  · refine wp_region_held (S := fun y => y.cell? ⟨p.Y, 1, none⟩ = some (.pointer (some ⟨p.S, 0, none⟩)) ∧ Qb k q y) (by kernel_rfl) ?_
    change wpAnyH _ _ _ _ _ _ _ _ V.drew
    refine tk 0 (.pointer (some ⟨p.Y, 0, none⟩)) rfl (by kernel_rfl) (fun _ _ _ h => nomatch h.1) rfl (fun _ hS => rfl) S0 ?_
    simp only [zzA, zzB, zzC, Act.put, zzD, zzE, zzF]
    refine tk 1 (.pointer (some ⟨p.Y, 0, none⟩)) rfl (by kernel_rfl) (fun _ _ _ h => nomatch h.1) rfl (fun _ hS => by simp [execOp, go_sem, Act.eval]) S0 ?_
    simp only [zzA, zzB, zzC, Act.put, zzD, zzE, zzF]
    refine tk 2 (.pointer (some ⟨p.Y, 1, none⟩)) rfl (by kernel_rfl) (fun _ _ _ h => nomatch h.1) rfl (fun _ hS => by simp [execOp, go_sem, Act.eval]) S0 ?_
    simp only [zzA, zzB, zzC, Act.put, zzD, zzE, zzF]
    refine tk 3 (.pointer (some ⟨p.S, 0, none⟩)) rfl (by kernel_rfl) (fun _ _ _ h => nomatch h.1) rfl (fun _ hS => exec_load rfl rfl (load_ps _ _ _ _ hS.1)) S0 ?_
    simp only [zzA, zzB, zzC, Act.put, zzD, zzE, zzF]
    refine tk 4 (.agg q.arr) rfl (by kernel_rfl) (fun _ _ _ h => nomatch h.1) rfl (fun _ hS => exec_load rfl rfl (hS.2.load)) S0 ?_
    simp only [zzA, zzB, zzC, Act.put, zzD, zzE, zzF]
    refine wpAnyH_all (rs := [5, 9]) (by kernel_rfl) (by simp) ?_
    intro k hk
    simp only [List.mem_cons, List.mem_nil_iff, or_false] at hk
    rcases hk with rfl | rfl
    · have hz1 : k + 1 < V.drew.heap.size := (rk0).lt
      refine wpOp_run rfl rfl (wp_call_fn 35 #[.pointer (some ⟨p.S, 0, none⟩), .agg q.arr] (by simp [execOp, go_sem, Act.eval, resolve, invoke, enterHd]) ?_)
      refine (Handle_any J0.pv q).mono ?_
      rintro e u1 ⟨rfl, aN, caN, P1, K1, f1⟩
      have J1 := J0.prog P1 (hnd_b its s q) K1 f1
      rw [hff, hbb]
      have KX1 := KX0.fresh K1 (fun b hb => .inl (HCP.out b hb))
      have qkx1 := J0.keepP K1 (by omega) (qk0) (fun b hb => by have := HLA.out b hb; omega)
      have rkx1 := J0.keepP K1 (by omega) (rk0) (fun b hb => by have := HLA.out b hb; omega)
      have s1 := (show (fun y => y.cell? ⟨p.Y, 1, none⟩ = some (.pointer (some ⟨p.S, 0, none⟩)) ∧ Qb k q y) u1 from ⟨J1.cY.2.1, qkx1⟩)
      refine ⟨s1, ?_⟩
      simp only [zzA, zzB, zzC, Act.put, zzD, zzE, zzF]
      refine tk 6 (.tuple #[.agg ff.arr, .bool bb]) rfl (by kernel_rfl) (fun _ _ _ h => nomatch h.1) rfl (fun _ hS => rfl) s1 ?_
      simp only [zzA, zzB, zzC, Act.put, zzD, zzE, zzF]
      refine tk 7 (.agg ff.arr) rfl (by kernel_rfl) (fun _ _ _ h => nomatch h.1) rfl (fun _ hS => by simp [execOp, go_sem, Act.eval]) s1 ?_
      simp only [zzA, zzB, zzC, Act.put, zzD, zzE, zzF]
      refine tk 8 (.bool bb) rfl (by kernel_rfl) (fun _ _ _ h => nomatch h.1) rfl (fun _ hS => by simp [execOp, go_sem, Act.eval]) s1 ?_
      simp only [zzA, zzB, zzC, Act.put, zzD, zzE, zzF]
      refine wpAnyH_all (rs := [9]) (by kernel_rfl) (by simp) ?_
      intro k hk
      simp only [List.mem_cons, List.mem_nil_iff, or_false] at hk
      subst hk
      refine wpOp_run rfl rfl (wp_allocA8 rfl ?_)
      obtain ⟨qv, hqv⟩ : ∃ q, u1.heap.size = q := ⟨_, rfl⟩
      have g2 : Qb u1.heap.size F8.nul (u1.alloc (.cells zA8 32)) := heap_alloc_new u1 (.cells zA8 32)
      have ba2 : Below u1.heap.size u1 (u1.alloc (.cells zA8 32)) := (Below.refl _ _).alloc (Nat.le_refl _) _
      have J2 := J1.next ba2
      have KX2 := KX1.trans (Kp.of_below ba2)
      have qkx2 := (qkx1).below ba2
      have rkx2 := (rkx1).below ba2
      have hqr : k + 1 < qv := by have := (rkx1).lt; omega
      have hne : ∀ b ∈ blk aN, b ≠ qv := fun b hb => by have := J1.pv.lt b hb; omega
      have s2 := (show (fun y => y.cell? ⟨p.Y, 1, none⟩ = some (.pointer (some ⟨p.S, 0, none⟩)) ∧ Qb k q y) (u1.alloc (.cells zA8 32)) from ⟨J2.cY.2.1, qkx2⟩)
      rw [hqv] at g2 ⊢
      generalize u1.alloc (.cells zA8 32) = u2 at *
      refine ⟨s2, ?_⟩
      simp only [zzA, zzB, zzC, Act.put, zzD, zzE, zzF]
      refine wpAnyH_all (rs := [10]) (by kernel_rfl) (by simp) ?_
      intro k hk
      simp only [List.mem_cons, List.mem_nil_iff, or_false] at hk
      subst hk
      refine wpOp_run rfl rfl (wp_store_row 32 _ _ rfl qv ff.arr rfl rfl 32 _ g2 (by rw [F8.size]; exact infoA8s) rfl (F8.one _) ?_)
      have gZ := (g2).row ff
      have JZ := J2.frame g2 (by omega) (fun b hb => hne b hb) (fun b hb => by have := HLB.out b hb; omega) (Kp.setRow1 u2 qv ff.arr)
      have KXZ := KX2.fresh (Kp.setRow1 u2 qv ff.arr) (fun b hb => .inr (by simp at hb; rw [hb, hk]; omega))
      have qkZ : Qb _ _ (u2.setRow qv ff.arr) := (setRow_other _ _ _ _ (by omega)).trans (qkx2)
      have rkZ : Qb _ _ (u2.setRow qv ff.arr) := (setRow_other _ _ _ _ (by omega)).trans (rkx2)
      have sZ := (show (fun y => y.cell? ⟨p.Y, 1, none⟩ = some (.pointer (some ⟨p.S, 0, none⟩)) ∧ Qb k q y) (u2.setRow qv ff.arr) from ⟨JZ.cY.2.1, qkZ⟩)
      refine ⟨sZ, ?_⟩
      simp only [zzA, zzB, zzC, Act.put, zzD, zzE, zzF]
      refine tk 11 (.bool bb) rfl (by kernel_rfl) (fun _ _ _ h => nomatch h.1) rfl (fun _ hS => rfl) sZ ?_
      simp only [zzA, zzB, zzC, Act.put, zzD, zzE, zzF]
      refine wpAnyH_done (by kernel_rfl) ?_ _
      exact ⟨rfl, qv, rfl, aN, caN, JZ, gZ, qkZ, rkZ, hqr, hne, (by first | exact HFR.out aN _ hz1 f1 | exact HFR.out aN _ hz2 f2), KXZ, (by first | exact HFR2.out aN _ hz1 f1 | exact HFR2.out aN _ hz2 f2)⟩
    · refine wpOp_run rfl rfl (wp_allocA8 rfl ?_)
      obtain ⟨qv, hqv⟩ : ∃ q, V.drew.heap.size = q := ⟨_, rfl⟩
      have g1 : Qb V.drew.heap.size F8.nul (V.drew.alloc (.cells zA8 32)) := heap_alloc_new V.drew (.cells zA8 32)
      have ba1 : Below V.drew.heap.size V.drew (V.drew.alloc (.cells zA8 32)) := (Below.refl _ _).alloc (Nat.le_refl _) _
      have J1 := J0.next ba1
      have KX1 := KX0.trans (Kp.of_below ba1)
      have qkx1 := (qk0).below ba1
      have rkx1 := (rk0).below ba1
      have hqr : k + 1 < qv := by have := (rk0).lt; omega
      have s1 := (show (fun y => y.cell? ⟨p.Y, 1, none⟩ = some (.pointer (some ⟨p.S, 0, none⟩)) ∧ Qb k q y) (V.drew.alloc (.cells zA8 32)) from ⟨J1.cY.2.1, qkx1⟩)
      rw [hqv] at g1 ⊢
      generalize V.drew.alloc (.cells zA8 32) = u1 at *
      refine ⟨s1, ?_⟩
      simp only [zzA, zzB, zzC, Act.put, zzD, zzE, zzF]
      refine wpAnyH_all (rs := [5]) (by kernel_rfl) (by simp) ?_
      intro k hk
      simp only [List.mem_cons, List.mem_nil_iff, or_false] at hk
      subst hk
      have hz2 : k + 1 < u1.heap.size := (rkx1).lt
      refine wpOp_run rfl rfl (wp_call_fn 35 #[.pointer (some ⟨p.S, 0, none⟩), .agg q.arr] (by simp [execOp, go_sem, Act.eval, resolve, invoke, enterHd]) ?_)
      refine (Handle_any J1.pv q).mono ?_
      rintro e u2 ⟨rfl, aN, caN, P2, K2, f2⟩
      have J2 := J1.prog P2 (hnd_b its s q) K2 f2
      rw [hff, hbb]
      have KX2 := KX1.fresh K2 (fun b hb => .inl (HCP.out b hb))
      have qkx2 := J1.keepP K2 (by omega) (qkx1) (fun b hb => by have := HLA.out b hb; omega)
      have rkx2 := J1.keepP K2 (by omega) (rkx1) (fun b hb => by have := HLA.out b hb; omega)
      have gx2 := J1.keepP K2 (by omega) (g1) (fun b hb => by have := HLA.out b hb; omega)
      have s2 := (show (fun y => y.cell? ⟨p.Y, 1, none⟩ = some (.pointer (some ⟨p.S, 0, none⟩)) ∧ Qb k q y) u2 from ⟨J2.cY.2.1, qkx2⟩)
      have hne : ∀ b ∈ blk aN, b ≠ qv := fun b hb => (f2 b hb).elim (fun h1 => by have := HLA.out b h1; omega) (fun h1 => by have := (g1).lt; omega)
      refine ⟨s2, ?_⟩
      simp only [zzA, zzB, zzC, Act.put, zzD, zzE, zzF]
      refine tk 6 (.tuple #[.agg ff.arr, .bool bb]) rfl (by kernel_rfl) (fun _ _ _ h => nomatch h.1) rfl (fun _ hS => rfl) s2 ?_
      simp only [zzA, zzB, zzC, Act.put, zzD, zzE, zzF]
      refine tk 7 (.agg ff.arr) rfl (by kernel_rfl) (fun _ _ _ h => nomatch h.1) rfl (fun _ hS => by simp [execOp, go_sem, Act.eval]) s2 ?_
      simp only [zzA, zzB, zzC, Act.put, zzD, zzE, zzF]
      refine tk 8 (.bool bb) rfl (by kernel_rfl) (fun _ _ _ h => nomatch h.1) rfl (fun _ hS => by simp [execOp, go_sem, Act.eval]) s2 ?_
      simp only [zzA, zzB, zzC, Act.put, zzD, zzE, zzF]
      refine wpAnyH_all (rs := [10]) (by kernel_rfl) (by simp) ?_
      intro k hk
      simp only [List.mem_cons, List.mem_nil_iff, or_false] at hk
      subst hk
      refine wpOp_run rfl rfl (wp_store_row 32 _ _ rfl qv ff.arr rfl rfl 32 _ gx2 (by rw [F8.size]; exact infoA8s) rfl (F8.one _) ?_)
      have gZ := (gx2).row ff
      have JZ := J2.frame gx2 (by omega) (fun b hb => hne b hb) (fun b hb => by have := HLB.out b hb; omega) (Kp.setRow1 u2 qv ff.arr)
      have KXZ := KX2.fresh (Kp.setRow1 u2 qv ff.arr) (fun b hb => .inr (by simp at hb; rw [hb, hk]; omega))
      have qkZ : Qb _ _ (u2.setRow qv ff.arr) := (setRow_other _ _ _ _ (by omega)).trans (qkx2)
      have rkZ : Qb _ _ (u2.setRow qv ff.arr) := (setRow_other _ _ _ _ (by omega)).trans (rkx2)
      have sZ := (show (fun y => y.cell? ⟨p.Y, 1, none⟩ = some (.pointer (some ⟨p.S, 0, none⟩)) ∧ Qb k q y) (u2.setRow qv ff.arr) from ⟨JZ.cY.2.1, qkZ⟩)
      refine ⟨sZ, ?_⟩
      simp only [zzA, zzB, zzC, Act.put, zzD, zzE, zzF]
      refine tk 11 (.bool bb) rfl (by kernel_rfl) (fun _ _ _ h => nomatch h.1) rfl (fun _ hS => rfl) sZ ?_
      simp only [zzA, zzB, zzC, Act.put, zzD, zzE, zzF]
      refine wpAnyH_done (by kernel_rfl) ?_ _
      exact ⟨rfl, qv, rfl, aN, caN, JZ, gZ, qkZ, rkZ, hqr, hne, (by first | exact HFR.out aN _ hz1 f1 | exact HFR.out aN _ hz2 f2), KXZ, (by first | exact HFR2.out aN _ hz1 f1 | exact HFR2.out aN _ hz2 f2)⟩
  intro u y hI
  simp only [Act.put, List.setIfInBounds_toArray, List.set_cons_succ, List.set_cons_zero]
  obtain ⟨aN, cN, J1, gu, qk1, rk1, hku, hnu, hb1, KX1, hfa⟩ := hI
  have HFA := hidOf2 hfa
  clear hfa KX0 KB
  obtain ⟨I2, hI2⟩ : ∃ I, (hndO its s q).2.1 = I := ⟨_, rfl⟩
  obtain ⟨ss, hss⟩ : ∃ I, (hndO its s q).2.2 = I := ⟨_, rfl⟩
  rw [hI2, hss] at J1
  clear S0 J0 qk0 rk0 c0 hDs
  have c0 : Below y.heap.size y y.drew := bdr (Below.refl _ _) 1
  have J0 : Jt w p I2 its ss s aN cN ap cq y.drew := J1.next c0
  have qk0 : Qb k q y.drew := qk1.below c0
  have rk0 : Qb (k + 1) F8.nul y.drew := rk1.below c0
  have gu0 : Qb u ff y.drew := gu.below c0
  have KX0 : Kp CS x y.drew := KX1.trans (Kp.of_below c0)
  have S0 : (fun y => y.cell? ⟨p.Y, 2, none⟩ = some (.pointer (some ⟨p.T, 0, none⟩)) ∧ Qb k q y) y.drew := ⟨J0.cY.2.2, qk0⟩
  have hguz := gu0.lt
  go_upto_region 2 with fail
  refine wp_cut (α := Nat) (fun u2 z => ∃ aM cM, Jt w p I2 I2 ss ss aN cN aM cM z ∧ Qb u2 ff z ∧ Qb u ff z ∧ Qb (k + 1) F8.nul z ∧ k + 1 < u2 ∧ (∀ b ∈ blk aM, b ≠ k + 1) ∧ Kp CS x z ∧ (∀ b ∈ blk aM, b ∈ blk ap ∨ k ≤ b)) (fun a u => ((fun a u => (((((((((((a.put (some 20) (.pointer (some ⟨p.Y, 0, none⟩))).put (some 21) (.pointer (some ⟨p.Y, 0, none⟩))).put (some 22) (.pointer (some ⟨p.Y, 2, none⟩))).put (some 23) (.pointer (some ⟨p.T, 0, none⟩))).put (some 24) (.agg q.arr)).put (some 25) (.tuple #[.agg ff.arr, .bool bb])).put (some 19) (.tuple #[.agg ff.arr, .bool bb])).put (some 26) (.agg ff.arr)).put (some 27) (.bool bb)).put (some 8) (.pointer (some ⟨u, 0, none⟩))).put (some 9) (.bool bb)))) a u) ?_ ?_
  · refine wp_region_held (S := fun y => y.cell? ⟨p.Y, 2, none⟩ = some (.pointer (some ⟨p.T, 0, none⟩)) ∧ Qb k q y) (by kernel_rfl) ?_
    change wpAnyH _ _ _ _ _ _ _ _ y.drew
    refine tk 0 (.pointer (some ⟨p.Y, 0, none⟩)) rfl (by kernel_rfl) (fun _ _ _ h => nomatch h.1) rfl (fun _ hS => rfl) S0 ?_
    simp only [zzA, zzB, zzC, Act.put, zzD, zzE, zzF]
    refine tk 1 (.pointer (some ⟨p.Y, 0, none⟩)) rfl (by kernel_rfl) (fun _ _ _ h => nomatch h.1) rfl (fun _ hS => by simp [execOp, go_sem, Act.eval]) S0 ?_
    simp only [zzA, zzB, zzC, Act.put, zzD, zzE, zzF]
    refine tk 2 (.pointer (some ⟨p.Y, 2, none⟩)) rfl (by kernel_rfl) (fun _ _ _ h => nomatch h.1) rfl (fun _ hS => by simp [execOp, go_sem, Act.eval]) S0 ?_
    simp only [zzA, zzB, zzC, Act.put, zzD, zzE, zzF]
    refine tk 3 (.pointer (some ⟨p.T, 0, none⟩)) rfl (by kernel_rfl) (fun _ _ _ h => nomatch h.1) rfl (fun _ hS => exec_load rfl rfl (load_pr _ _ _ _ hS.1)) S0 ?_
    simp only [zzA, zzB, zzC, Act.put, zzD, zzE, zzF]
    refine tk 4 (.agg q.arr) rfl (by kernel_rfl) (fun _ _ _ h => nomatch h.1) rfl (fun _ hS => exec_load rfl rfl (hS.2.load)) S0 ?_
    simp only [zzA, zzB, zzC, Act.put, zzD, zzE, zzF]
    refine wpAnyH_all (rs := [5, 9]) (by kernel_rfl) (by simp) ?_
    intro k hk
    simp only [List.mem_cons, List.mem_nil_iff, or_false] at hk
    rcases hk with rfl | rfl
    · have hz1 : k + 1 < y.drew.heap.size := (rk0).lt
      refine wpOp_run rfl rfl (wp_call_fn 37 #[.pointer (some ⟨p.T, 0, none⟩), .agg q.arr] (by simp [execOp, go_sem, Act.eval, resolve, invoke, enterRh]) ?_)
      refine (rsHandle_any J0.dv q).mono ?_
      rintro e u1 ⟨rfl, aM, caM, P1, K1, f1⟩
      have J1 := hI2 ▸ hss ▸ J0.doc P1 K1 f1
      rw [hff, hbb]
      have KX1 := KX0.fresh K1 (fun b hb => .inl (HCD.out b hb))
      have qkx1 := J0.keepD K1 (by omega) (qk0)
      have rkx1 := J0.keepD K1 (by omega) (rk0)
      have gux1 := J0.keepD K1 (by omega) (gu0)
      have s1 := (show (fun y => y.cell? ⟨p.Y, 2, none⟩ = some (.pointer (some ⟨p.T, 0, none⟩)) ∧ Qb k q y) u1 from ⟨J1.cY.2.2, qkx1⟩)
      refine ⟨s1, ?_⟩
      simp only [zzA, zzB, zzC, Act.put, zzD, zzE, zzF]
      refine tk 6 (.tuple #[.agg ff.arr, .bool bb]) rfl (by kernel_rfl) (fun _ _ _ h => nomatch h.1) rfl (fun _ hS => rfl) s1 ?_
      simp only [zzA, zzB, zzC, Act.put, zzD, zzE, zzF]
      refine tk 7 (.agg ff.arr) rfl (by kernel_rfl) (fun _ _ _ h => nomatch h.1) rfl (fun _ hS => by simp [execOp, go_sem, Act.eval]) s1 ?_
      simp only [zzA, zzB, zzC, Act.put, zzD, zzE, zzF]
      refine tk 8 (.bool bb) rfl (by kernel_rfl) (fun _ _ _ h => nomatch h.1) rfl (fun _ hS => by simp [execOp, go_sem, Act.eval]) s1 ?_
      simp only [zzA, zzB, zzC, Act.put, zzD, zzE, zzF]
      refine wpAnyH_all (rs := [9]) (by kernel_rfl) (by simp) ?_
      intro k hk
      simp only [List.mem_cons, List.mem_nil_iff, or_false] at hk
      subst hk
      refine wpOp_run rfl rfl (wp_allocA8 rfl ?_)
      obtain ⟨qw, hqv⟩ : ∃ q, u1.heap.size = q := ⟨_, rfl⟩
      have g2 : Qb u1.heap.size F8.nul (u1.alloc (.cells zA8 32)) := heap_alloc_new u1 (.cells zA8 32)
      have ba2 : Below u1.heap.size u1 (u1.alloc (.cells zA8 32)) := (Below.refl _ _).alloc (Nat.le_refl _) _
      have J2 := J1.next ba2
      have KX2 := KX1.trans (Kp.of_below ba2)
      have qkx2 := (qkx1).below ba2
      have rkx2 := (rkx1).below ba2
      have gux2 := (gux1).below ba2
      have hnA : ∀ b ∈ blk aN, b ≠ qw := fun b hb => by have := J1.pv.lt b hb; omega
      have hqu : u < qw := by have := (gux1).lt; omega
      have hqr : k + 1 < qw := by have := (rkx1).lt; omega
      have hne : ∀ b ∈ blk aM, b ≠ qw := fun b hb => by have := J1.dv.lt b hb; omega
      have s2 := (show (fun y => y.cell? ⟨p.Y, 2, none⟩ = some (.pointer (some ⟨p.T, 0, none⟩)) ∧ Qb k q y) (u1.alloc (.cells zA8 32)) from ⟨J2.cY.2.2, qkx2⟩)
      rw [hqv] at g2 ⊢
      generalize u1.alloc (.cells zA8 32) = u2 at *
      refine ⟨s2, ?_⟩
      simp only [zzA, zzB, zzC, Act.put, zzD, zzE, zzF]
      refine wpAnyH_all (rs := [10]) (by kernel_rfl) (by simp) ?_
      intro k hk
      simp only [List.mem_cons, List.mem_nil_iff, or_false] at hk
      subst hk
      refine wpOp_run rfl rfl (wp_store_row 32 _ _ rfl qw ff.arr rfl rfl 32 _ g2 (by rw [F8.size]; exact infoA8s) rfl (F8.one _) ?_)
      have gZ := (g2).row ff
      have JZ := J2.frame g2 (by omega) (fun b hb => hnA b hb) (fun b hb => hne b hb) (Kp.setRow1 u2 qw ff.arr)
      have KXZ := KX2.fresh (Kp.setRow1 u2 qw ff.arr) (fun b hb => .inr (by simp at hb; rw [hb, hk]; omega))
      have qkZ : Qb _ _ (u2.setRow qw ff.arr) := (setRow_other _ _ _ _ (by omega)).trans (qkx2)
      have rkZ : Qb _ _ (u2.setRow qw ff.arr) := (setRow_other _ _ _ _ (by omega)).trans (rkx2)
      have guZ : Qb _ _ (u2.setRow qw ff.arr) := (setRow_other _ _ _ _ (by omega)).trans (gux2)
      have sZ := (show (fun y => y.cell? ⟨p.Y, 2, none⟩ = some (.pointer (some ⟨p.T, 0, none⟩)) ∧ Qb k q y) (u2.setRow qw ff.arr) from ⟨JZ.cY.2.2, qkZ⟩)
      refine ⟨sZ, ?_⟩
      simp only [zzA, zzB, zzC, Act.put, zzD, zzE, zzF]
      refine tk 11 (.bool bb) rfl (by kernel_rfl) (fun _ _ _ h => nomatch h.1) rfl (fun _ hS => rfl) sZ ?_
      simp only [zzA, zzB, zzC, Act.put, zzD, zzE, zzF]
      refine wpAnyH_done (by kernel_rfl) ?_ _
      exact ⟨rfl, qw, rfl, aM, caM, JZ, gZ, guZ, rkZ, hqr, (by first | exact HFS.out aM _ hz1 f1 | exact HFS.out aM _ hz2 f2), KXZ, (by first | exact HFS2.out aM _ hz1 f1 | exact HFS2.out aM _ hz2 f2)⟩
    · refine wpOp_run rfl rfl (wp_allocA8 rfl ?_)
      obtain ⟨qw, hqv⟩ : ∃ q, y.drew.heap.size = q := ⟨_, rfl⟩
      have g1 : Qb y.drew.heap.size F8.nul (y.drew.alloc (.cells zA8 32)) := heap_alloc_new y.drew (.cells zA8 32)
      have ba1 : Below y.drew.heap.size y.drew (y.drew.alloc (.cells zA8 32)) := (Below.refl _ _).alloc (Nat.le_refl _) _
      have J1 := J0.next ba1
      have KX1 := KX0.trans (Kp.of_below ba1)
      have qkx1 := (qk0).below ba1
      have rkx1 := (rk0).below ba1
      have gux1 := (gu0).below ba1
      have hnA : ∀ b ∈ blk aN, b ≠ qw := fun b hb => by have := J0.pv.lt b hb; omega
      have hqu : u < qw := by have := (gu0).lt; omega
      have hqr : k + 1 < qw := by have := (rk0).lt; omega
      have s1 := (show (fun y => y.cell? ⟨p.Y, 2, none⟩ = some (.pointer (some ⟨p.T, 0, none⟩)) ∧ Qb k q y) (y.drew.alloc (.cells zA8 32)) from ⟨J1.cY.2.2, qkx1⟩)
      rw [hqv] at g1 ⊢
      generalize y.drew.alloc (.cells zA8 32) = u1 at *
      refine ⟨s1, ?_⟩
      simp only [zzA, zzB, zzC, Act.put, zzD, zzE, zzF]
      refine wpAnyH_all (rs := [5]) (by kernel_rfl) (by simp) ?_
      intro k hk
      simp only [List.mem_cons, List.mem_nil_iff, or_false] at hk
      subst hk
      have hz2 : k + 1 < u1.heap.size := (rkx1).lt
      refine wpOp_run rfl rfl (wp_call_fn 37 #[.pointer (some ⟨p.T, 0, none⟩), .agg q.arr] (by simp [execOp, go_sem, Act.eval, resolve, invoke, enterRh]) ?_)
      refine (rsHandle_any J1.dv q).mono ?_
      rintro e u2 ⟨rfl, aM, caM, P2, K2, f2⟩
      have J2 := hI2 ▸ hss ▸ J1.doc P2 K2 f2
      rw [hff, hbb]
      have KX2 := KX1.fresh K2 (fun b hb => .inl (HCD.out b hb))
      have qkx2 := J1.keepD K2 (by omega) (qkx1)
      have rkx2 := J1.keepD K2 (by omega) (rkx1)
      have gx2 := J1.keepD K2 (by omega) (g1)
      have gux2 := J1.keepD K2 (by omega) (gux1)
      have s2 := (show (fun y => y.cell? ⟨p.Y, 2, none⟩ = some (.pointer (some ⟨p.T, 0, none⟩)) ∧ Qb k q y) u2 from ⟨J2.cY.2.2, qkx2⟩)
      have hne : ∀ b ∈ blk aM, b ≠ qw := fun b hb => (f2 b hb).elim (fun h1 => by have := HLB.out b h1; omega) (fun h1 => by have := (g1).lt; omega)
      refine ⟨s2, ?_⟩
      simp only [zzA, zzB, zzC, Act.put, zzD, zzE, zzF]
      refine tk 6 (.tuple #[.agg ff.arr, .bool bb]) rfl (by kernel_rfl) (fun _ _ _ h => nomatch h.1) rfl (fun _ hS => rfl) s2 ?_
      simp only [zzA, zzB, zzC, Act.put, zzD, zzE, zzF]
      refine tk 7 (.agg ff.arr) rfl (by kernel_rfl) (fun _ _ _ h => nomatch h.1) rfl (fun _ hS => by simp [execOp, go_sem, Act.eval]) s2 ?_
      simp only [zzA, zzB, zzC, Act.put, zzD, zzE, zzF]
      refine tk 8 (.bool bb) rfl (by kernel_rfl) (fun _ _ _ h => nomatch h.1) rfl (fun _ hS => by simp [execOp, go_sem, Act.eval]) s2 ?_
      simp only [zzA, zzB, zzC, Act.put, zzD, zzE, zzF]
      refine wpAnyH_all (rs := [10]) (by kernel_rfl) (by simp) ?_
      intro k hk
      simp only [List.mem_cons, List.mem_nil_iff, or_false] at hk
      subst hk
      refine wpOp_run rfl rfl (wp_store_row 32 _ _ rfl qw ff.arr rfl rfl 32 _ gx2 (by rw [F8.size]; exact infoA8s) rfl (F8.one _) ?_)
      have gZ := (gx2).row ff
      have JZ := J2.frame gx2 (by omega) (fun b hb => hnA b hb) (fun b hb => hne b hb) (Kp.setRow1 u2 qw ff.arr)
      have KXZ := KX2.fresh (Kp.setRow1 u2 qw ff.arr) (fun b hb => .inr (by simp at hb; rw [hb, hk]; omega))
      have qkZ : Qb _ _ (u2.setRow qw ff.arr) := (setRow_other _ _ _ _ (by omega)).trans (qkx2)
      have rkZ : Qb _ _ (u2.setRow qw ff.arr) := (setRow_other _ _ _ _ (by omega)).trans (rkx2)
      have guZ : Qb _ _ (u2.setRow qw ff.arr) := (setRow_other _ _ _ _ (by omega)).trans (gux2)
      have sZ := (show (fun y => y.cell? ⟨p.Y, 2, none⟩ = some (.pointer (some ⟨p.T, 0, none⟩)) ∧ Qb k q y) (u2.setRow qw ff.arr) from ⟨JZ.cY.2.2, qkZ⟩)
      refine ⟨sZ, ?_⟩
      simp only [zzA, zzB, zzC, Act.put, zzD, zzE, zzF]
      refine tk 11 (.bool bb) rfl (by kernel_rfl) (fun _ _ _ h => nomatch h.1) rfl (fun _ hS => rfl) sZ ?_
      simp only [zzA, zzB, zzC, Act.put, zzD, zzE, zzF]
      refine wpAnyH_done (by kernel_rfl) ?_ _
      exact ⟨rfl, qw, rfl, aM, caM, JZ, gZ, guZ, rkZ, hqr, (by first | exact HFS.out aM _ hz1 f1 | exact HFS.out aM _ hz2 f2), KXZ, (by first | exact HFS2.out aM _ hz1 f1 | exact HFS2.out aM _ hz2 f2)⟩
  intro u2 y2 hI
  simp only [Act.put, List.setIfInBounds_toArray, List.set_cons_succ, List.set_cons_zero]
  obtain ⟨aM, cM, J2, g2, g1, rk2, h2k, hb2, KX2, hfb⟩ := hI
  have HFB := hidOf2 hfb
  clear hfb KX0 KX1
  clear S0 J0 qk0 rk0 gu0 c0 hguz
  have c0 : Below y2.heap.size y2 y2.drew := bdr (Below.refl _ _) 1
  have rk0 : Qb (k + 1) F8.nul y2.drew := rk2.below c0
  have KX0 : Kp CS x y2.drew := KX2.trans (Kp.of_below c0)
  have S0 : (fun z => Qb u ff z ∧ Qb u2 ff z ∧ Jt w p I2 I2 ss ss aN cN aM cM z) y2.drew := ⟨g1.below c0, g2.below c0, J2.next c0⟩
  go_upto_region 3 with fail
  refine wp_region_held (S := fun z => Qb u ff z ∧ Qb u2 ff z ∧ Jt w p I2 I2 ss ss aN cN aM cM z) (by kernel_rfl) ?_
  change wpAnyH _ _ _ _ _ _ _ _ y2.drew
  refine tk 0 (.agg ff.arr) rfl (by kernel_rfl) (fun _ _ _ h => h) rfl (fun _ hS => exec_load rfl rfl (hS.1.load)) S0 ?_
  simp only [zzA, zzB, zzC, Act.put, zzD, zzE, zzF]
  refine tk 1 (.agg ff.arr) rfl (by kernel_rfl) (fun _ _ _ h => h) rfl (fun _ hS => exec_load rfl rfl (hS.1.load)) S0 ?_
  simp only [zzA, zzB, zzC, Act.put, zzD, zzE, zzF]
  refine tk 2 (.agg ff.arr) rfl (by kernel_rfl) (fun _ _ _ h => h) rfl (fun _ hS => exec_load rfl rfl (hS.2.1.load)) S0 ?_
  simp only [zzA, zzB, zzC, Act.put, zzD, zzE, zzF]
  refine tk 3 (.bool true) rfl (by kernel_rfl) (fun _ _ _ h => h) rfl (fun _ hS => exec_eql8 ff rfl rfl rfl _) S0 ?_
  simp only [zzA, zzB, zzC, Act.put, zzD, zzE, zzF]
  refine tk 4 (.bool true) rfl (by kernel_rfl) (fun _ _ _ h => h) rfl (fun _ hS => rfl) S0 ?_
  simp only [zzA, zzB, zzC, Act.put, zzD, zzE, zzF]
  refine tk 5 (.bool bb) rfl (by kernel_rfl) (fun _ _ _ h => h) rfl (fun _ hS => rfl) S0 ?_
  simp only [zzA, zzB, zzC, Act.put, zzD, zzE, zzF]
  refine tk 6 (.bool bb) rfl (by kernel_rfl) (fun _ _ _ h => h) rfl (fun _ hS => rfl) S0 ?_
  simp only [zzA, zzB, zzC, Act.put, zzD, zzE, zzF]
  refine tk 7 (.bool true) rfl (by kernel_rfl) (fun _ _ _ h => h) rfl (fun _ hS => by simp [execOp, go_sem, Act.eval]) S0 ?_
  simp only [zzA, zzB, zzC, Act.put, zzD, zzE, zzF]
  refine tk 8 (.bool true) rfl (by kernel_rfl) (fun _ _ _ h => h) rfl (fun _ hS => by simp [execOp, go_sem, Act.eval]) S0 ?_
  simp only [zzA, zzB, zzC, Act.put, zzD, zzE, zzF]
  refine tk 9 (.bool true) rfl (by kernel_rfl) (fun _ _ _ h => h) rfl (fun _ hS => rfl) S0 ?_
  simp only [zzA, zzB, zzC, Act.put, zzD, zzE, zzF]
  refine tk 10 (.pointer (some ⟨p.Y, 0, none⟩)) rfl (by kernel_rfl) (fun _ _ _ h => h) rfl (fun _ hS => rfl) S0 ?_
  simp only [zzA, zzB, zzC, Act.put, zzD, zzE, zzF]
  refine tk 11 (.pointer (some ⟨p.Y, 0, none⟩)) rfl (by kernel_rfl) (fun _ _ _ h => h) rfl (fun _ hS => by simp [execOp, go_sem, Act.eval]) S0 ?_
  simp only [zzA, zzB, zzC, Act.put, zzD, zzE, zzF]
  refine tk 12 (.pointer (some ⟨p.Y, 1, none⟩)) rfl (by kernel_rfl) (fun _ _ _ h => h) rfl (fun _ hS => by simp [execOp, go_sem, Act.eval]) S0 ?_
  simp only [zzA, zzB, zzC, Act.put, zzD, zzE, zzF]
  refine tk 13 (.pointer (some ⟨p.S, 0, none⟩)) rfl (by kernel_rfl) (fun _ _ _ h => h) rfl (fun _ hS => exec_load rfl rfl (load_ps _ _ _ _ hS.2.2.cY.2.1)) S0 ?_
  simp only [zzA, zzB, zzC, Act.put, zzD, zzE, zzF]
  refine tk 15 (.pointer (some ⟨p.Y, 0, none⟩)) rfl (by kernel_rfl) (fun _ _ _ h => h) rfl (fun _ hS => rfl) S0 ?_
  simp only [zzA, zzB, zzC, Act.put, zzD, zzE, zzF]
  refine tk 16 (.pointer (some ⟨p.Y, 0, none⟩)) rfl (by kernel_rfl) (fun _ _ _ h => h) rfl (fun _ hS => by simp [execOp, go_sem, Act.eval]) S0 ?_
  simp only [zzA, zzB, zzC, Act.put, zzD, zzE, zzF]
  refine tk 17 (.pointer (some ⟨p.Y, 2, none⟩)) rfl (by kernel_rfl) (fun _ _ _ h => h) rfl (fun _ hS => by simp [execOp, go_sem, Act.eval]) S0 ?_
  simp only [zzA, zzB, zzC, Act.put, zzD, zzE, zzF]
  refine tk 18 (.pointer (some ⟨p.T, 0, none⟩)) rfl (by kernel_rfl) (fun _ _ _ h => h) rfl (fun _ hS => exec_load rfl rfl (load_pr _ _ _ _ hS.2.2.cY.2.2)) S0 ?_
  simp only [zzA, zzB, zzC, Act.put, zzD, zzE, zzF]
  refine tk 19 (.pointer (some ⟨p.T, 0, none⟩)) rfl (by kernel_rfl) (fun _ _ _ h => h) rfl (fun _ hS => by simp [execOp, go_sem, Act.eval]) S0 ?_
  simp only [zzA, zzB, zzC, Act.put, zzD, zzE, zzF]
  refine tk 20 (.pointer (some ⟨p.T, 1, none⟩)) rfl (by kernel_rfl) (fun _ _ _ h => h) rfl (fun _ hS => by simp [execOp, go_sem, Act.eval]) S0 ?_
  simp only [zzA, zzB, zzC, Act.put, zzD, zzE, zzF]
  refine tk 21 (.int .i64 (ss.dn : Int)) rfl (by kernel_rfl) (fun _ _ _ h => h) rfl (fun _ hS => exec_load rfl rfl (load_int _ _ _ _ hS.2.2.dv.head.c.2.1)) S0 ?_
  simp only [zzA, zzB, zzC, Act.put, zzD, zzE, zzF]
  refine wpAnyH_all (rs := [14]) (by kernel_rfl) (by simp) ?_
  intro k hk
  simp only [List.mem_cons, List.mem_nil_iff, or_false] at hk
  subst hk
  refine wpOp_runw rfl rfl (wp_call_fn 23 #[.pointer (some ⟨p.S, 0, none⟩)] (by simp [execOp, go_sem, Act.eval, resolve, invoke, enterDg]) ?_)
  refine (Doing_any S0.2.2.pv.head).mono ?_
  rintro e z1 ⟨rfl, hz1⟩
  rw [hz1]
  refine ⟨S0, ?_⟩
  simp only [zzA, zzB, zzC, Act.put, zzD, zzE, zzF]
  refine tk 22 (.bool true) rfl (by kernel_rfl) (fun _ _ _ h => h) rfl (fun _ hS => by simp [execOp, go_sem, Act.eval]) S0 ?_
  simp only [zzA, zzB, zzC, Act.put, zzD, zzE, zzF]
  refine tk 23 (.bool true) rfl (by kernel_rfl) (fun _ _ _ h => h) rfl (fun _ hS => by simp [execOp, go_sem, Act.eval]) S0 ?_
  simp only [zzA, zzB, zzC, Act.put, zzD, zzE, zzF]
  refine wpAnyH_all (rs := [24]) (by kernel_rfl) (by simp) ?_
  intro k hk
  simp only [List.mem_cons, List.mem_nil_iff, or_false] at hk
  subst hk
  refine wpOp_run rfl rfl (wp_store_row 32 _ _ rfl (k + 1) ff.arr rfl rfl 32 _ rk0 (by rw [F8.size]; exact infoA8s) rfl (F8.one _) ?_)
  have rZ := rk0.row ff
  have KZ := Kp.setRow1 y2.drew (k + 1) ff.arr
  have KXZ := KX0.fresh KZ (fun b hb => .inr (by simp at hb; rw [hb, hk]; omega))
  have JZ := S0.2.2.frame rk0 (by omega) hb1 hb2 KZ
  have sZ := (show (fun z => Qb u ff z ∧ Qb u2 ff z ∧ Jt w p I2 I2 ss ss aN cN aM cM z) (y2.drew.setRow (k + 1) ff.arr) from ⟨(setRow_other _ _ _ _ (by omega)).trans S0.1, (setRow_other _ _ _ _ (by omega)).trans S0.2.1, JZ⟩)
  refine ⟨sZ, ?_⟩
  simp only [zzA, zzB, zzC, Act.put, zzD, zzE, zzF]
  refine tk 25 (.bool true) rfl (by kernel_rfl) (fun _ _ _ h => h) rfl (fun _ hS => rfl) sZ ?_
  simp only [zzA, zzB, zzC, Act.put, zzD, zzE, zzF]
  refine wpAnyH_done (by kernel_rfl) ?_ _
  have HZ := hidOf2 (And.intro JZ (And.intro hI2 (And.intro hss hff)))
  have HKX := hidOf2 KXZ
  have HK := hidOf2 hk
  clear S0 sZ J1 J2 JZ KZ hI2 hss hff KXZ KX0 KX2
  go_wp2
  exact bodyPost_ret (ph_results rZ _ rfl rfl) rfl ⟨by rw [HZ.out.2.2.2], by rw [HZ.out.2.1, HZ.out.2.2.1]; exact ⟨aN, cN, aM, cM, HZ.out.1, HKX.out, (fun b hb => (HFA.out b hb).imp id (fun h => by rw [HK.out]; exact h)), fun b hb => (HFB.out b hb).imp id (fun h => by rw [HK.out]; exact h)⟩⟩
end
end Go.Proofs.YtahfnknbmikmkaaGreat
