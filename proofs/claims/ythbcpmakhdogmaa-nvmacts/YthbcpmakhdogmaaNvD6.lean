/- Contracts: pages held against one another; same. -/
import Derived.Test.YthbcpmakhdogmaaNvD5
namespace Go.Proofs.Ythbcpmakhdogmaa
open Go.RowKit Go.Shelf Go.Proofs.Ty Go.Proofs.Nv Go.Proofs.Bits
set_option linter.unusedVariables false
set_option maxRecDepth 1000000
set_option linter.unusedSimpArgs false
theorem part8 (A : Array Value) (k : Nat) (v : Value) (h : A[k]? = some v) (w : World) : (part 5 A k).run Try.prog w = .ok v w := by
  simp [part, go_sem, run_underlying Try.underlying5, h]
theorem eq8 (l : List UInt8) (h : l.length = 8) (d : Nat) (w : World) : (Op.equalIn (d + 2) 38 (.agg (byC l).toArray) (.agg (byC l).toArray)).run Try.prog w = .ok true w := by
  obtain ⟨i0, hi0, hz0⟩ := info_sizeN info1u8
  have hg : ∀ k, k < 8 → ∃ z : Int, (byC l).toArray[k]? = some (.int .u8 z) := fun k hk => ⟨_, by rw [List.getElem?_toArray]; exact byC_get l k (by omega)⟩
  have he : ∀ k, k < 8 → ∃ v, (part 5 (byC l).toArray k).run Try.prog w = .ok v w ∧ (Op.equalIn (d + 1) 5 v v).run Try.prog w = .ok true w := fun k hk => by
    obtain ⟨z, hz⟩ := hg k hk
    refine ⟨_, part8 _ k _ hz w, ?_⟩
    rw [run_equalIn_int w d 5 .u8 .u8 z z Try.underlying5]
    simp
  obtain ⟨v0, p0, q0⟩ := he 0 (by omega)
  obtain ⟨v1, p1, q1⟩ := he 1 (by omega)
  obtain ⟨v2, p2, q2⟩ := he 2 (by omega)
  obtain ⟨v3, p3, q3⟩ := he 3 (by omega)
  obtain ⟨v4, p4, q4⟩ := he 4 (by omega)
  obtain ⟨v5, p5, q5⟩ := he 5 (by omega)
  obtain ⟨v6, p6, q6⟩ := he 6 (by omega)
  obtain ⟨v7, p7, q7⟩ := he 7 (by omega)
  generalize (byC l).toArray = A at *
  rw [Op.equalIn]
  have hr : List.range' 0 8 1 = [0, 1, 2, 3, 4, 5, 6, 7] := by decide
  simp [Sem.run_bind, run_underlying Try.underlying38, sizeOf, typeInfo, hi0, hz0, hr, p0, q0, p1, q1, p2, q2, p3, q3, p4, q4, p5, q5, p6, q6, p7, q7]
theorem exec_neq8 {a : Act} {o : Oper} {x y : Operand} {t : TypeId} {A : Array Value} {R : List UInt8} (ho : o.op = .binOp .neq 38 x y t) (hx : a.eval x = .agg A) (hy : a.eval y = .agg A) (hA : A = (byC R).toArray) (hR : R.length = 8) (w : World) : (execOp a.eval o).run Try.prog w = .ok (.value (.bool false)) w := by
  have he := eq8 R hR 9998 w
  rw [← hA] at he
  have hm : Try.prog.eqGuardType Try.prog.depth 38 = false := by kernel_rfl
  unfold execOp
  simp only [ho, hx, hy]
  simp [go_sem, run_eqGuard_agg w .neq 38 _ _ A A hm, run_neq_struct, he]
theorem enN_r : ∀ args x, (callFunc 35 args).run Try.prog x = .ok (.enter 35 args) x := fun _ _ => by rfl
section
variable {w W W' : World} {C P D Q : Nat} {c d c' d' : Ch}
theorem Jn.drawn (h : Jn w C P D Q c d W) (n : Nat) : Jn w C P D Q c d (W.drewN n) := ⟨h.a.drawn n, h.b.drawn n, bdr h.old n, h.c1, h.p1, h.d1, h.q1, h.n1, h.n2, h.n3, h.n4⟩
theorem rd_len (h : c.Ok) (i : Int) : (c.rd i).length = 8 := by
  unfold Ch.rd
  split
  · rename_i hh
    have hi : 0 ≤ i ∧ i < c.n := by simpa [Ch.has] using hh
    rw [List.length_take, List.length_drop, h.len]
    omega
  · rfl
set_option maxHeartbeats 16000000 in
theorem same9_any (h : Jn w C P D Q c c W) : Calls Try.prog 16 #[.pointer (some ⟨C, 0, none⟩), .pointer (some ⟨D, 0, none⟩)] W fun e w' => e = .returned (.bool true) ∧ Jn w C P D Q c c w' := by
  have HJ := hidOf h
  have c0 := h.b.c0
  have c2 := h.b.c2
  have hn15 : c.n ≤ 32768 := h.a.ok.hi
  have hmd : ((c.n : Int) / 2) = (c.many : Int) := by unfold Ch.many; omega
  have hm2 : 2 ≤ c.many := by have := h.a.ok.lo; unfold Ch.many; omega
  have hmany : c.many ≤ 16384 := by unfold Ch.many; omega
  have hr8 : 8 * ((c.many : Int) - 1) = (c.room : Int) := by have : c.room = 8 * (c.many - 1) := rfl; omega
  have hpp : ∀ n, Calls Try.prog 34 #[.pointer (some ⟨C, 0, none⟩)] (W.drewN n) (fun e w' => e = .returned (.int .i64 c.n) ∧ w' = W.drewN n) := fun n => Pages_any (h.a.drawn n)
  have hdd : ∀ n, Calls Try.prog 18 #[.pointer (some ⟨C, 0, none⟩)] (W.drewN n) (fun e w' => e = .returned (.bool c.dead) ∧ w' = W.drewN n) := fun n => Dead_any (h.a.drawn n)
  have hrr : ∀ n, Calls Try.prog 11 #[.pointer (some ⟨C, 0, none⟩)] (W.drewN n) (fun e w' => e = .returned (.int .i64 c.room) ∧ w' = W.drewN n) := fun n => Room_any (h.a.drawn n)
  have HRW : Hid (∀ (x : World) (i : Int), Jn w C P D Q c c x → ∃ R : List UInt8, Hid (c.rd i = R) ∧ Hid (R.length = 8) ∧ ((i < 0 ∨ (c.n : Int) ≤ i) → R = zero8) ∧ (0 ≤ i → i < c.n → x.rangeAt Q (i.toNat * 8) (byC R))) := fun x i hx => by
    refine ⟨_, rfl, rd_len hx.a.ok i, fun hi => ?_, fun h0 h1 => ?_⟩
    · have : c.has i = false := by unfold Ch.has; simp; omega
      unfold Ch.rd; rw [this]; rfl
    · have hh : c.has i = true := by unfold Ch.has; simp; omega
      have := hx.b.range i.toNat (by omega)
      rw [Nat.mul_comm] at this
      unfold Ch.rd
      rw [hh]
      rw [Nat.mul_comm] at this ⊢
      exact this
  generalize hNn : c.n = n at *
  generalize c.many = m at *
  generalize hRr : c.room = r at *
  generalize hDe : c.dead = de at *
  have HNN := hidOf hNn
  clear h hNn hRr hDe
  go_enter Try.func16, Try.ntmps16
  go_wp2_with fail
  cases de
  all_goals
    go_quiet (first | (go_at_call 34; refine Calls.quiet_of_same (hpp _)) | (go_at_call 18; refine Calls.quiet_of_same (hdd _)) | (go_at_call 11; refine Calls.quiet_of_same (hrr _)))
    go_wp2_with fail
    go_loopw [5] (fun v x => ∃ i : Int, -1 ≤ i ∧ i ≤ (n : Int) + 1 ∧ v = .int .i64 i ∧ Hid (Jn w C P D Q c c x)) (fun v _ => ((n : Int) + 1 - intOf v).toNat)
    case atStart => exact ⟨-1, by omega, by omega, rfl, HJ.out.drawn nq⟩
    case round =>
      clear c0 c2 hpp hdd hrr HJ
      obtain ⟨i, hi0, hi1, rfl, HW⟩ := hrel
      obtain ⟨X, hXe⟩ : ∃ X, X = wr := ⟨wr, rfl⟩
      subst hXe
      have c0 := HW.out.b.c0
      rw [HNN.out] at c0
      by_cases hin : i ≤ n
      · have hdi : decide (i ≤ (n : Int)) = true := by simpa using hin
        have hq0 := heap_alloc_new X (.cells #[.int .u8 0, .int .u8 0, .int .u8 0, .int .u8 0, .int .u8 0, .int .u8 0, .int .u8 0, .int .u8 0] 38 (0, 0))
        have bz : Below X.heap.size X (X.alloc (.cells #[.int .u8 0, .int .u8 0, .int .u8 0, .int .u8 0, .int .u8 0, .int .u8 0, .int .u8 0, .int .u8 0] 38)) := (Below.refl _ X).alloc (Nat.le_refl _) _
        obtain ⟨X1, hX1⟩ : ∃ y, X.alloc (.cells #[.int .u8 0, .int .u8 0, .int .u8 0, .int .u8 0, .int .u8 0, .int .u8 0, .int .u8 0, .int .u8 0] 38) = y := ⟨_, rfl⟩
        obtain ⟨qf, hqf⟩ : ∃ q, X.heap.size = q := ⟨_, rfl⟩
        rw [hX1] at hq0 bz
        rw [hqf] at hq0
        have hone8 : (#[.int .u8 0, .int .u8 0, .int .u8 0, .int .u8 0, .int .u8 0, .int .u8 0, .int .u8 0, .int .u8 0] : Array Value).all (·.oneCell') = true := all_oneCell_toArray (byteCells_one zero8)
        have hq1 := Go.Proofs.Ythbcpmakhdogmaa.setRow_heap X1 qf _ #[.int .u8 0, .int .u8 0, .int .u8 0, .int .u8 0, .int .u8 0, .int .u8 0, .int .u8 0, .int .u8 0] _ _ hq0
        have b1 := below_row bz (q := qf) (by omega) bz.size #[.int .u8 0, .int .u8 0, .int .u8 0, .int .u8 0, .int .u8 0, .int .u8 0, .int .u8 0, .int .u8 0]
        obtain ⟨X2, hX2⟩ : ∃ y, X1.setRow qf #[.int .u8 0, .int .u8 0, .int .u8 0, .int .u8 0, .int .u8 0, .int .u8 0, .int .u8 0, .int .u8 0] = y := ⟨_, rfl⟩
        rw [hX2] at hq1 b1
        have HJ2 := hidOf (HW.out.below b1)
        obtain ⟨R, HR1, HRL, hRz, hRp⟩ := HRW.out X2 i HJ2.out
        obtain ⟨A, hA⟩ : ∃ A, (byC R).toArray = A := ⟨_, rfl⟩
        have hAs : A.size = 8 := by rw [← hA, List.size_toArray, byC_len, HRL.out]
        have HAR := hidOf hA.symm
        have HAR2 : Hid (pgV (c.rd i) = .agg A) := by show _ = _; rw [HR1.out, pgV, hA]
        have STORE : True := trivial
        by_cases hio : i < 0 ∨ (n : Int) ≤ i
        · obtain rfl := hRz hio
          have HQX : Hid (X2.heap[qf]? = some (.cells A 38 (0, 0))) := by show _ = _; rw [← hA]; exact hq1
          have HJX := HJ2
          have HB1 := hidOf b1
          clear hRz hRp HRW hA hq1 b1 bz HW
          by_cases hneg : i < 0
          · have hdn : decide (0 ≤ i) = false := by simp; omega
            go_wp2_with (refine wpList_store_row rfl 38 _ _ rfl qf #[.int .u8 0, .int .u8 0, .int .u8 0, .int .u8 0, .int .u8 0, .int .u8 0, .int .u8 0, .int .u8 0] rfl rfl 38 _ hq0 infoA8 rfl hone8 ?_; rw [hX2])
            refine wp_region_held (S := fun x => x.heap[qf]? = some (.cells A 38 (0, 0))) (by kernel_rfl) ?_
            obtain ⟨y1, hy1⟩ : ∃ x : World, { X2 with drawn := X2.drawn + 1 } = x := ⟨_, rfl⟩
            have j1 : Jn w C P D Q c c y1 := by rw [← hy1]; exact HJX.out.draw
            have f1 : y1.heap[qf]? = some (.cells A 38 (0, 0)) := by rw [← hy1]; exact HQX.out
            have HRD : Hid (Calls Try.prog 35 #[.pointer (some ⟨C, 0, none⟩), .int .i64 i] y1 fun e w' => e = .returned (.agg A) ∧ Below y1.heap.size y1 w') := by show Calls _ _ _ _ _; rw [← HAR2.out]; exact Read_any j1.a i
            rw [hy1]
            refine wpAnyH_take (i := 0) (v := (.pointer (some ⟨C, 0, none⟩))) rfl (by kernel_rfl) (by kernel_rfl) (by kernel_rfl) (fun _ _ _ h => h) (.inl ⟨rfl, fun _ hS => rfl⟩) f1 ?_
            simp only [List.getElem_toArray, List.getElem_cons_succ, List.getElem_cons_zero, Act.put, List.setIfInBounds_toArray, List.set_cons_succ, List.set_cons_zero]
            refine wpAnyH_take (i := 1) (v := (.int .i64 i)) rfl (by kernel_rfl) (by kernel_rfl) (by kernel_rfl) (fun _ _ _ h => h) (.inl ⟨rfl, fun _ hS => rfl⟩) f1 ?_
            simp only [List.getElem_toArray, List.getElem_cons_succ, List.getElem_cons_zero, Act.put, List.setIfInBounds_toArray, List.set_cons_succ, List.set_cons_zero]
            refine wpAnyH_take (i := 3) (v := (.agg A)) rfl (by kernel_rfl) (by kernel_rfl) (by kernel_rfl) (fun _ _ _ h => h) (.inl ⟨rfl, fun _ hS => exec_loadN rfl rfl (load_a8 _ qf A hS hAs)⟩) f1 ?_
            simp only [List.getElem_toArray, List.getElem_cons_succ, List.getElem_cons_zero, Act.put, List.setIfInBounds_toArray, List.set_cons_succ, List.set_cons_zero]
            refine wpAnyH_all (rs := [2]) (by kernel_rfl) (by simp) ?_
            intro k hk
            simp only [List.mem_cons, List.mem_nil_iff, or_false] at hk
            subst hk
            refine wpOp_runN rfl rfl (wp_callN 35 #[.pointer (some ⟨C, 0, none⟩), .int .i64 i] (by simp [execOp, go_sem, Act.eval, resolve, invoke, enN_r]) (HRD.out.mono ?_))
            rintro e y2 ⟨rfl, hb2⟩
            have f2 : y2.heap[qf]? = some (.cells A 38 (0, 0)) := (hb2.block qf (Array.getElem?_eq_some_iff.1 f1).1).trans f1
            have HJ2 := hidOf (j1.below hb2)
            refine ⟨f2, ?_⟩
            simp only [List.getElem_toArray, List.getElem_cons_succ, List.getElem_cons_zero, Act.put, List.setIfInBounds_toArray, List.set_cons_succ, List.set_cons_zero]
            refine wpAnyH_take (i := 4) (v := (.bool false)) rfl (by kernel_rfl) (by kernel_rfl) (by kernel_rfl) (fun _ _ _ h => h) (.inl ⟨rfl, fun x hS => exec_neq8 rfl rfl rfl HAR.out HRL.out x⟩) f2 ?_
            simp only [List.getElem_toArray, List.getElem_cons_succ, List.getElem_cons_zero, Act.put, List.setIfInBounds_toArray, List.set_cons_succ, List.set_cons_zero]
            refine wpAnyH_done (by kernel_rfl) ?_ _
            clear f1 f2 j1 hy1 hb2 HRD
            go_wp2
            go_roundw
            case rel => exact ⟨i + 1, by omega, by omega, by go_num, HJ2⟩
            case measure => simp [intOf]; omega
          · have hdn : decide (0 ≤ i) = true := by simp; omega
            have hdl : decide (i < (n : Int)) = false := by simp; omega
            have c02 := HJX.out.b.c0
            rw [HNN.out] at c02
            go_wp2_with (refine wpList_store_row rfl 38 _ _ rfl qf #[.int .u8 0, .int .u8 0, .int .u8 0, .int .u8 0, .int .u8 0, .int .u8 0, .int .u8 0, .int .u8 0] rfl rfl 38 _ hq0 infoA8 rfl hone8 ?_; rw [hX2])
            refine wp_region_held (S := fun x => x.heap[qf]? = some (.cells A 38 (0, 0))) (by kernel_rfl) ?_
            obtain ⟨y1, hy1⟩ : ∃ x : World, { X2 with drawn := X2.drawn + 1 } = x := ⟨_, rfl⟩
            have j1 : Jn w C P D Q c c y1 := by rw [← hy1]; exact HJX.out.draw
            have f1 : y1.heap[qf]? = some (.cells A 38 (0, 0)) := by rw [← hy1]; exact HQX.out
            have HRD : Hid (Calls Try.prog 35 #[.pointer (some ⟨C, 0, none⟩), .int .i64 i] y1 fun e w' => e = .returned (.agg A) ∧ Below y1.heap.size y1 w') := by show Calls _ _ _ _ _; rw [← HAR2.out]; exact Read_any j1.a i
            rw [hy1]
            refine wpAnyH_take (i := 0) (v := (.pointer (some ⟨C, 0, none⟩))) rfl (by kernel_rfl) (by kernel_rfl) (by kernel_rfl) (fun _ _ _ h => h) (.inl ⟨rfl, fun _ hS => rfl⟩) f1 ?_
            simp only [List.getElem_toArray, List.getElem_cons_succ, List.getElem_cons_zero, Act.put, List.setIfInBounds_toArray, List.set_cons_succ, List.set_cons_zero]
            refine wpAnyH_take (i := 1) (v := (.int .i64 i)) rfl (by kernel_rfl) (by kernel_rfl) (by kernel_rfl) (fun _ _ _ h => h) (.inl ⟨rfl, fun _ hS => rfl⟩) f1 ?_
            simp only [List.getElem_toArray, List.getElem_cons_succ, List.getElem_cons_zero, Act.put, List.setIfInBounds_toArray, List.set_cons_succ, List.set_cons_zero]
            refine wpAnyH_take (i := 3) (v := (.agg A)) rfl (by kernel_rfl) (by kernel_rfl) (by kernel_rfl) (fun _ _ _ h => h) (.inl ⟨rfl, fun _ hS => exec_loadN rfl rfl (load_a8 _ qf A hS hAs)⟩) f1 ?_
            simp only [List.getElem_toArray, List.getElem_cons_succ, List.getElem_cons_zero, Act.put, List.setIfInBounds_toArray, List.set_cons_succ, List.set_cons_zero]
            refine wpAnyH_all (rs := [2]) (by kernel_rfl) (by simp) ?_
            intro k hk
            simp only [List.mem_cons, List.mem_nil_iff, or_false] at hk
            subst hk
            refine wpOp_runN rfl rfl (wp_callN 35 #[.pointer (some ⟨C, 0, none⟩), .int .i64 i] (by simp [execOp, go_sem, Act.eval, resolve, invoke, enN_r]) (HRD.out.mono ?_))
            rintro e y2 ⟨rfl, hb2⟩
            have f2 : y2.heap[qf]? = some (.cells A 38 (0, 0)) := (hb2.block qf (Array.getElem?_eq_some_iff.1 f1).1).trans f1
            have HJ2 := hidOf (j1.below hb2)
            refine ⟨f2, ?_⟩
            simp only [List.getElem_toArray, List.getElem_cons_succ, List.getElem_cons_zero, Act.put, List.setIfInBounds_toArray, List.set_cons_succ, List.set_cons_zero]
            refine wpAnyH_take (i := 4) (v := (.bool false)) rfl (by kernel_rfl) (by kernel_rfl) (by kernel_rfl) (fun _ _ _ h => h) (.inl ⟨rfl, fun x hS => exec_neq8 rfl rfl rfl HAR.out HRL.out x⟩) f2 ?_
            simp only [List.getElem_toArray, List.getElem_cons_succ, List.getElem_cons_zero, Act.put, List.setIfInBounds_toArray, List.set_cons_succ, List.set_cons_zero]
            refine wpAnyH_done (by kernel_rfl) ?_ _
            clear f1 f2 j1 hy1 hb2 HRD
            go_wp2
            go_roundw
            case rel => exact ⟨i + 1, by omega, by omega, by go_num, HJ2⟩
            case measure => simp [intOf]; omega
        · have hdn : decide (0 ≤ i) = true := by simp; omega
          have hdl : decide (i < (n : Int)) = true := by simp; omega
          have hi : 0 ≤ i ∧ i < n := by omega
          have c02 := HJ2.out.b.c0
          rw [HNN.out] at c02
          have hrg := hRp hi.1 hi.2
          obtain ⟨M, hM⟩ : ∃ M, byC R = M := ⟨_, rfl⟩
          have hlen' : M.length = 8 := by rw [← hM, byC_len, HRL.out]
          have HH1 : Hid (∀ v ∈ M, v.oneCell' = true) := by rw [← hM]; exact byteCells_one R
          rw [hM] at hrg hA
          have hq3 := Go.Proofs.Ythbcpmakhdogmaa.setRow_heap X2 qf _ M.toArray _ _ hq1
          have b3 := below_row b1 (q := qf) (by omega) b1.size M.toArray
          obtain ⟨X3, hX3⟩ : ∃ y, X2.setRow qf M.toArray = y := ⟨_, rfl⟩
          rw [hX3] at hq3 b3
          have HQX : Hid (X3.heap[qf]? = some (.cells A 38 (0, 0))) := by show _ = _; rw [← hA]; exact hq3
          have HJX := hidOf (HW.out.below b3)
          clear hRz hRp HRW hA bz HW hq3 b3 b1 hM
          go_wp2_with (first | (refine wpList_store_row rfl 38 _ _ rfl qf #[.int .u8 0, .int .u8 0, .int .u8 0, .int .u8 0, .int .u8 0, .int .u8 0, .int .u8 0, .int .u8 0] rfl rfl 38 _ hq0 infoA8 rfl hone8 ?_; rw [hX2]) | (refine wpList_load_mid rfl 38 _ rfl Q (i.toNat * 8) rfl M _ hrg Try.underlying38 rfl (by rw [hlen']; exact infoA8) ?_) | (refine wpList_store_row rfl 38 _ _ rfl qf M.toArray rfl rfl 38 _ hq1 (by rw [List.size_toArray, hlen']; exact infoA8) (by simp [hlen']) (all_oneCell_toArray HH1.out) ?_; rw [hX3]))
          refine wp_region_held (S := fun x => x.heap[qf]? = some (.cells A 38 (0, 0))) (by kernel_rfl) ?_
          obtain ⟨y1, hy1⟩ : ∃ x : World, { X3 with drawn := X3.drawn + 1 } = x := ⟨_, rfl⟩
          have j1 : Jn w C P D Q c c y1 := by rw [← hy1]; exact HJX.out.draw
          have f1 : y1.heap[qf]? = some (.cells A 38 (0, 0)) := by rw [← hy1]; exact HQX.out
          have HRD : Hid (Calls Try.prog 35 #[.pointer (some ⟨C, 0, none⟩), .int .i64 i] y1 fun e w' => e = .returned (.agg A) ∧ Below y1.heap.size y1 w') := by show Calls _ _ _ _ _; rw [← HAR2.out]; exact Read_any j1.a i
          rw [hy1]
          refine wpAnyH_take (i := 0) (v := (.pointer (some ⟨C, 0, none⟩))) rfl (by kernel_rfl) (by kernel_rfl) (by kernel_rfl) (fun _ _ _ h => h) (.inl ⟨rfl, fun _ hS => rfl⟩) f1 ?_
          simp only [List.getElem_toArray, List.getElem_cons_succ, List.getElem_cons_zero, Act.put, List.setIfInBounds_toArray, List.set_cons_succ, List.set_cons_zero]
          refine wpAnyH_take (i := 1) (v := (.int .i64 i)) rfl (by kernel_rfl) (by kernel_rfl) (by kernel_rfl) (fun _ _ _ h => h) (.inl ⟨rfl, fun _ hS => rfl⟩) f1 ?_
          simp only [List.getElem_toArray, List.getElem_cons_succ, List.getElem_cons_zero, Act.put, List.setIfInBounds_toArray, List.set_cons_succ, List.set_cons_zero]
          refine wpAnyH_take (i := 3) (v := (.agg A)) rfl (by kernel_rfl) (by kernel_rfl) (by kernel_rfl) (fun _ _ _ h => h) (.inl ⟨rfl, fun _ hS => exec_loadN rfl rfl (load_a8 _ qf A hS hAs)⟩) f1 ?_
          simp only [List.getElem_toArray, List.getElem_cons_succ, List.getElem_cons_zero, Act.put, List.setIfInBounds_toArray, List.set_cons_succ, List.set_cons_zero]
          refine wpAnyH_all (rs := [2]) (by kernel_rfl) (by simp) ?_
          intro k hk
          simp only [List.mem_cons, List.mem_nil_iff, or_false] at hk
          subst hk
          refine wpOp_runN rfl rfl (wp_callN 35 #[.pointer (some ⟨C, 0, none⟩), .int .i64 i] (by simp [execOp, go_sem, Act.eval, resolve, invoke, enN_r]) (HRD.out.mono ?_))
          rintro e y2 ⟨rfl, hb2⟩
          have f2 : y2.heap[qf]? = some (.cells A 38 (0, 0)) := (hb2.block qf (Array.getElem?_eq_some_iff.1 f1).1).trans f1
          have HJ2 := hidOf (j1.below hb2)
          refine ⟨f2, ?_⟩
          simp only [List.getElem_toArray, List.getElem_cons_succ, List.getElem_cons_zero, Act.put, List.setIfInBounds_toArray, List.set_cons_succ, List.set_cons_zero]
          refine wpAnyH_take (i := 4) (v := (.bool false)) rfl (by kernel_rfl) (by kernel_rfl) (by kernel_rfl) (fun _ _ _ h => h) (.inl ⟨rfl, fun x hS => exec_neq8 rfl rfl rfl HAR.out HRL.out x⟩) f2 ?_
          simp only [List.getElem_toArray, List.getElem_cons_succ, List.getElem_cons_zero, Act.put, List.setIfInBounds_toArray, List.set_cons_succ, List.set_cons_zero]
          refine wpAnyH_done (by kernel_rfl) ?_ _
          clear f1 f2 j1 hy1 hb2 HRD
          go_wp2
          go_roundw
          case rel => exact ⟨i + 1, by omega, by omega, by go_num, HJ2⟩
          case measure => simp [intOf]; omega
      · have hdi : decide (i ≤ (n : Int)) = false := by simpa using hin
        go_wp2
        go_ret
        exact ⟨rfl, HW.out⟩
end
end Go.Proofs.Ythbcpmakhdogmaa
