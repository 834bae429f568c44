/- same: two lists of frames. -/
import Derived.Test.YtebjofkblfmkmaaBkE0
namespace Go.Proofs.Ytebjofkblfmkmaa
open Go.RowKit Go.Proofs.Ty Go.Proofs.Bits
set_option linter.unusedVariables false
set_option maxRecDepth 1000000
set_option linter.unusedSimpArgs false
theorem exec_idxF {a : Act} {o : Oper} {s i : Operand} {b off n c k : Nat} (ho : o.op = .indexAddr 23 s i) (hs : a.eval s = .slice (some ⟨b, off, none⟩) n c) (hi : a.eval i = .int .i64 (k : Int)) (hk : k < n) (w : World) : (execOp a.eval o).run Try.prog w = .ok (.value (.pointer (some ⟨b, off + k * 8, none⟩))) w := by
  have h1 : (0 : Int) ≤ (k : Int) := by omega
  have h2 : (k : Int) < (n : Int) := by omega
  unfold execOp
  simp only [ho, hs, hi]
  obtain ⟨i0, hi0, hz0, hz1, hz2⟩ := info_parts info8
  simp [go_sem, run_underlying Try.underlying23, sizeOf, typeInfo, hi0, hz1, h1, h2, Addr.add_mid]
theorem load_mid8 {w : World} {b o : Nat} {f : F8} (h : w.rangeAt b o f.c) : (loadVar 30 ⟨b, o, none⟩).run Try.prog w = .ok (.agg f.arr) w :=
  run_loadVar_mid w b o 30 f.c _ h Try.underlying30 rfl infoA8s
theorem exec_neqF {a : Act} {o : Oper} {x y : Operand} {t : TypeId} (f : F8) (ho : o.op = .binOp .neq 30 x y t) (hx : a.eval x = .agg f.arr) (hy : a.eval y = .agg f.arr) (w : World) : (execOp a.eval o).run Try.prog w = .ok (.value (.bool false)) w := by
  have he := eq8F f 9998 w
  have hm : Try.prog.eqGuardType Try.prog.depth 30 = false := by kernel_rfl
  unfold execOp
  simp only [ho, hx, hy]
  simp [go_sem, run_eqGuard_agg w .neq 30 _ _ f.arr f.arr hm, run_neq_struct, he]
set_option maxHeartbeats 4000000 in
theorem same_any {B C : Nat} {w : World} {v u : Value} {L : List F8} (h1 : Lf B w v L) (h2 : Lf C w u L) (hl : L.length ≤ 100000) : Calls Try.prog 11 #[v, u] w fun e w' => e = .returned (.bool true) ∧ ∃ n, w' = w.drewN n := by
  obtain ⟨av, cv, hv⟩ := h1.1.wide.shape
  obtain ⟨au, cu, hu⟩ := h2.1.wide.shape
  have HA : Hid (∀ k (hk : k < L.length), ∃ b off c of2, av = some ⟨b, off, none⟩ ∧ au = some ⟨c, of2, none⟩ ∧ w.rangeAt b (off + k * 8) L[k].c ∧ w.rangeAt c (of2 + k * 8) L[k].c) := fun k hk => by
    obtain ⟨b, off, cap, e1, _, r1⟩ := h1.1.wide.at0 k hk
    obtain ⟨c, of2, cap2, e2, _, r2⟩ := h2.1.wide.at0 k hk
    rw [hv] at e1
    rw [hu] at e2
    injection e1 with e1
    injection e2 with e2
    exact ⟨b, off, c, of2, e1, e2, r1, r2⟩
  obtain ⟨N, hN⟩ : ∃ N, L.length = N := ⟨_, rfl⟩
  have HN := hidOf2 hN
  rw [hN] at hv hu hl
  subst hv hu
  clear h1 h2 hN
  go_enter Try.func11, Try.ntmps11
  go_wp2_with fail
  go_loopw [5] (fun i wr => ∃ k n : Nat, k ≤ N ∧ i = .int .i64 k ∧ wr = w.drewN n) (fun i _ => N - (intOf i).toNat)
  case atStart => exact ⟨0, 0, Nat.zero_le _, rfl, rfl⟩
  case round =>
    obtain ⟨k, n, hk, rfl, hwr⟩ := hrel
    subst hwr
    by_cases hkN : k < N
    · obtain ⟨b, off, c, of2, e1, e2, r1, r2⟩ := HA.out k (by rw [HN.out]; exact hkN)
      subst e1 e2
      obtain ⟨ff, hff⟩ : ∃ f, L[k]'(by rw [HN.out]; exact hkN) = f := ⟨_, rfl⟩
      rw [hff] at r1 r2
      have S0 : (fun y : World => y.rangeAt b (off + k * 8) ff.c ∧ y.rangeAt c (of2 + k * 8) ff.c) (w.drewN n).drew := ⟨r1, r2⟩
      go_upto_region 6 with fail
      refine wp_region_held (S := fun y : World => y.rangeAt b (off + k * 8) ff.c ∧ y.rangeAt c (of2 + k * 8) ff.c) (by kernel_rfl) ?_
      change wpAnyH _ _ _ _ _ _ _ _ (w.drewN n).drew
      refine wpAnyH_take (i := 0) (v := (.slice (some ⟨b, off, none⟩) N cv)) rfl (by kernel_rfl) (by kernel_rfl) (by kernel_rfl) (fun _ _ _ h => h) (.inl ⟨rfl, fun _ hS => rfl⟩) S0 ?_
      simp only [List.getElem_toArray, List.getElem_cons_succ, List.getElem_cons_zero, Act.put, List.setIfInBounds_toArray, List.set_cons_succ, List.set_cons_zero]
      refine wpAnyH_take (i := 1) (v := (.int .i64 (k : Int))) rfl (by kernel_rfl) (by kernel_rfl) (by kernel_rfl) (fun _ _ _ h => h) (.inl ⟨rfl, fun _ hS => rfl⟩) S0 ?_
      simp only [List.getElem_toArray, List.getElem_cons_succ, List.getElem_cons_zero, Act.put, List.setIfInBounds_toArray, List.set_cons_succ, List.set_cons_zero]
      refine wpAnyH_take (i := 2) (v := (.pointer (some ⟨b, off + k * 8, none⟩))) rfl (by kernel_rfl) (by kernel_rfl) (by kernel_rfl) (fun _ _ _ h => h) (.inl ⟨rfl, fun _ hS => exec_idxF rfl rfl rfl hkN _⟩) S0 ?_
      simp only [List.getElem_toArray, List.getElem_cons_succ, List.getElem_cons_zero, Act.put, List.setIfInBounds_toArray, List.set_cons_succ, List.set_cons_zero]
      refine wpAnyH_take (i := 3) (v := (.agg ff.arr)) rfl (by kernel_rfl) (by kernel_rfl) (by kernel_rfl) (fun _ _ _ h => h) (.inl ⟨rfl, fun _ hS => exec_load rfl rfl (load_mid8 hS.1)⟩) S0 ?_
      simp only [List.getElem_toArray, List.getElem_cons_succ, List.getElem_cons_zero, Act.put, List.setIfInBounds_toArray, List.set_cons_succ, List.set_cons_zero]
      refine wpAnyH_take (i := 4) (v := (.slice (some ⟨c, of2, none⟩) N cu)) rfl (by kernel_rfl) (by kernel_rfl) (by kernel_rfl) (fun _ _ _ h => h) (.inl ⟨rfl, fun _ hS => rfl⟩) S0 ?_
      simp only [List.getElem_toArray, List.getElem_cons_succ, List.getElem_cons_zero, Act.put, List.setIfInBounds_toArray, List.set_cons_succ, List.set_cons_zero]
      refine wpAnyH_take (i := 5) (v := (.int .i64 (k : Int))) rfl (by kernel_rfl) (by kernel_rfl) (by kernel_rfl) (fun _ _ _ h => h) (.inl ⟨rfl, fun _ hS => rfl⟩) S0 ?_
      simp only [List.getElem_toArray, List.getElem_cons_succ, List.getElem_cons_zero, Act.put, List.setIfInBounds_toArray, List.set_cons_succ, List.set_cons_zero]
      refine wpAnyH_take (i := 6) (v := (.pointer (some ⟨c, of2 + k * 8, none⟩))) rfl (by kernel_rfl) (by kernel_rfl) (by kernel_rfl) (fun _ _ _ h => h) (.inl ⟨rfl, fun _ hS => exec_idxF rfl rfl rfl hkN _⟩) S0 ?_
      simp only [List.getElem_toArray, List.getElem_cons_succ, List.getElem_cons_zero, Act.put, List.setIfInBounds_toArray, List.set_cons_succ, List.set_cons_zero]
      refine wpAnyH_take (i := 7) (v := (.agg ff.arr)) rfl (by kernel_rfl) (by kernel_rfl) (by kernel_rfl) (fun _ _ _ h => h) (.inl ⟨rfl, fun _ hS => exec_load rfl rfl (load_mid8 hS.2)⟩) S0 ?_
      simp only [List.getElem_toArray, List.getElem_cons_succ, List.getElem_cons_zero, Act.put, List.setIfInBounds_toArray, List.set_cons_succ, List.set_cons_zero]
      refine wpAnyH_take (i := 8) (v := (.bool false)) rfl (by kernel_rfl) (by kernel_rfl) (by kernel_rfl) (fun _ _ _ h => h) (.inl ⟨rfl, fun _ hS => exec_neqF ff rfl rfl rfl _⟩) S0 ?_
      simp only [List.getElem_toArray, List.getElem_cons_succ, List.getElem_cons_zero, Act.put, List.setIfInBounds_toArray, List.set_cons_succ, List.set_cons_zero]
      refine wpAnyH_done (by kernel_rfl) ?_ _
      clear S0 r1 r2
      go_wp2
      go_roundw
      case rel => exact ⟨k + 1, n + 1, by omega, by go_num, rfl⟩
      case measure => simp [intOf]; omega
    · go_wp2
      go_ret
      exact ⟨rfl, n, rfl⟩
end Go.Proofs.Ytebjofkblfmkmaa
