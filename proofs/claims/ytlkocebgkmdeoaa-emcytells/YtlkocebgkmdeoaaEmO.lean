/- == of errors and of frames; New; same. -/
import Derived.Test.YtlkocebgkmdeoaaEmL
import Derived.Test.YtlkocebgkmdeoaaEmN
namespace Go.Proofs.Ytlkocebgkmdeoaa
open Go.RowKit
set_option linter.unusedVariables false
set_option maxRecDepth 1000000
set_option linter.unusedSimpArgs false
theorem partU8 (A : Array Value) (k : Nat) (v : Value) (h : A[k]? = some v) (w : World) : (part 5 A k).run Try.prog w = .ok v w := by
  obtain ⟨i0, hi, hz0, hz1, hz2⟩ := info_parts info5
  simp [part, isAgg, run_underlying Try.underlying5, sizeOf, typeInfo, hi, hz1, h, go_sem]
theorem partU16 (A : Array Value) (k : Nat) (v : Value) (h : A[k]? = some v) (w : World) : (part 34 A k).run Try.prog w = .ok v w := by
  simp [part, isAgg, run_underlying Try.underlying34, h, go_sem]
theorem eqArr5 (x0 x1 x2 x3 x4 : Int) (d : Nat) (w : World) : (Op.equalIn (d + 2) 35 (.agg #[.int .u8 x0, .int .u8 x1, .int .u8 x2, .int .u8 x3, .int .u8 x4]) (.agg #[.int .u8 x0, .int .u8 x1, .int .u8 x2, .int .u8 x3, .int .u8 x4])).run Try.prog w = .ok true w := by
  obtain ⟨i0, hi0, hz0, hz1, hz2⟩ := info_parts info5
  have he : ∀ (A : Array Value) k z, A[k]? = some (.int .u8 z) → (part 5 A k).run Try.prog w = .ok (.int .u8 z) w ∧ (Op.equalIn (d + 1) 5 (.int .u8 z) (.int .u8 z)).run Try.prog w = .ok true w := fun A k z hk => by
    refine ⟨partU8 A k _ hk w, ?_⟩
    rw [run_equalIn_int w d 5 .u8 .u8 z z Try.underlying5]
    simp
  generalize hA : (#[.int .u8 x0, .int .u8 x1, .int .u8 x2, .int .u8 x3, .int .u8 x4] : Array Value) = A
  obtain ⟨p0, q0⟩ := he A 0 x0 (by rw [← hA]; rfl)
  obtain ⟨p1, q1⟩ := he A 1 x1 (by rw [← hA]; rfl)
  obtain ⟨p2, q2⟩ := he A 2 x2 (by rw [← hA]; rfl)
  obtain ⟨p3, q3⟩ := he A 3 x3 (by rw [← hA]; rfl)
  obtain ⟨p4, q4⟩ := he A 4 x4 (by rw [← hA]; rfl)
  rw [Op.equalIn]
  have hr : List.range' 0 5 1 = [0, 1, 2, 3, 4] := by decide
  simp [Sem.run_bind, run_underlying Try.underlying35, sizeOf, typeInfo, hi0, hz1, hr, p0, q0, p1, q1, p2, q2, p3, q3, p4, q4]
theorem eqTr (x : Tr) (d : Nat) (w : World) : (Op.equalIn (d + 3) 37 (.agg x.arr) (.agg x.arr)).run Try.prog w = .ok true w := by
  have p0 := partU16 x.arr 0 (.int .u16 x.c) rfl w
  have p1 := partU8 x.arr 1 (.int .u8 x.r) rfl w
  have p2 : (part 35 x.arr 2).run Try.prog w = .ok (.agg #[.int .u8 x.x0, .int .u8 x.x1, .int .u8 x.x2, .int .u8 x.x3, .int .u8 x.x4]) w := by
    have hz := Try.sizeOf35
    simp [part, isAgg, run_underlying Try.underlying35, hz, go_sem, Tr.arr]
  have q0 : (Op.equalIn (d + 2) 34 (.int .u16 x.c) (.int .u16 x.c)).run Try.prog w = .ok true w := by
    rw [run_equalIn_int w (d + 1) 34 .u16 .u16 _ _ Try.underlying34]; simp
  have q1 : (Op.equalIn (d + 2) 5 (.int .u8 x.r) (.int .u8 x.r)).run Try.prog w = .ok true w := by
    rw [run_equalIn_int w (d + 1) 5 .u8 .u8 _ _ Try.underlying5]; simp
  have q2 := eqArr5 x.x0 x.x1 x.x2 x.x3 x.x4 d w
  have hst : Try.prog.stoodInHeld 37 = false := by kernel_rfl
  have hpr : Sem.run Try.prog (Sem.program Sem.pure) w = .ok Try.prog w := rfl
  have a0 : x.arr[0]? = some (.int .u16 x.c) := rfl
  have a1 : x.arr[1]? = some (.int .u8 x.r) := rfl
  have a2 : x.arr.extract 2 7 = #[.int .u8 x.x0, .int .u8 x.x1, .int .u8 x.x2, .int .u8 x.x3, .int .u8 x.x4] := by simp [Tr.arr]
  clear p0 p1 p2
  generalize x.arr = A at *
  rw [Op.equalIn]
  simp [Sem.run_bind, run_underlying Try.underlying37, program, hpr, hst, q0, q1, q2, go_sem, a0, a1, a2]
theorem exec_neqT {a : Act} {o : Oper} {x y : Operand} {t : TypeId} {T : Tr} (ho : o.op = .binOp .neq 37 x y t) (hx : a.eval x = .agg T.arr) (hy : a.eval y = .agg T.arr) (w : World) : (execOp a.eval o).run Try.prog w = .ok (.value (.bool false)) w := by
  have hm : Try.prog.eqGuardType Try.prog.depth 37 = false := by kernel_rfl
  have q0 : (Op.equalIn 9999 34 (.int .u16 T.c) (.int .u16 T.c)).run Try.prog w = .ok true w := by
    rw [run_equalIn_int w 9998 34 .u16 .u16 _ _ Try.underlying34]; simp
  have q1 : (Op.equalIn 9999 5 (.int .u8 T.r) (.int .u8 T.r)).run Try.prog w = .ok true w := by
    rw [run_equalIn_int w 9998 5 .u8 .u8 _ _ Try.underlying5]; simp
  have q2 := eqArr5 T.x0 T.x1 T.x2 T.x3 T.x4 9997 w
  have a0 : T.arr[0]? = some (.int .u16 T.c) := rfl
  have a1 : T.arr[1]? = some (.int .u8 T.r) := rfl
  have a2 : T.arr.extract 2 7 = #[.int .u8 T.x0, .int .u8 T.x1, .int .u8 T.x2, .int .u8 T.x3, .int .u8 T.x4] := by simp [Tr.arr]
  generalize T.arr = A at *
  unfold execOp
  simp only [ho, hx, hy]
  simp [go_sem, run_eqGuard_agg w .neq 37 _ _ A A hm, run_neq_struct, q0, q1, q2, a0, a1, a2]
theorem exec_idxT {a : Act} {o : Oper} {s i : Operand} {b off n c k : Nat} (ho : o.op = .indexAddr 30 s i) (hs : a.eval s = .slice (some ⟨b, off, none⟩) n c) (hi : a.eval i = .int .i64 (k : Int)) (hk : k < n) (w : World) : (execOp a.eval o).run Try.prog w = .ok (.value (.pointer (some ⟨b, off + k * 7, none⟩))) w := by
  have h1 : (0 : Int) ≤ (k : Int) := by omega
  have h2 : (k : Int) < (n : Int) := by omega
  unfold execOp
  simp only [ho, hs, hi]
  obtain ⟨i0, hi0, hz0, hz1, hz2⟩ := info_parts infoT
  simp [go_sem, run_underlying Try.underlying30, sizeOf, typeInfo, hi0, hz1, h1, h2, Addr.add_mid]
theorem ldMid {w : World} {b o : Nat} {a : Tr} (h : w.rangeAt b o a.cs) : (loadVar 37 ⟨b, o, none⟩).run Try.prog w = .ok (.agg a.arr) w :=
  run_loadVar_mid (P := Try.prog) w b o 37 a.cs _ h Try.underlying37 rfl sizeT
theorem new_bad (h : Int) (i : Nat) (hh : (decide (1 ≤ h) && decide (h ≤ 254) && decide (i ≤ 4294967296)) = false) (w : World) : Calls Try.prog 7 #[.int .i64 h, .int .u64 i] w fun e w' => e = .returned (.tuple #[.pointer none, .int .i64 1]) ∧ w' = w := by
  by_cases h1 : h < 1
  · have d1 : decide (h < 1) = true := by simp; omega
    clear h1 hh
    go_enter Try.func7, Try.ntmps7
    go_wp2
    go_ret2
    exact ⟨rfl, rfl⟩
  · have d1 : decide (h < 1) = false := by simp; omega
    by_cases h2 : 254 < h
    · have d2 : decide (254 < h) = true := by simp; omega
      clear h1 h2 hh
      go_enter Try.func7, Try.ntmps7
      go_wp2
      go_ret2
      exact ⟨rfl, rfl⟩
    · have d2 : decide (254 < h) = false := by simp; omega
      have h3 : 4294967296 < i := by
        have e1 : decide (1 ≤ h) = true := by simp; omega
        have e2 : decide (h ≤ 254) = true := by simp; omega
        rw [e1, e2] at hh
        simp at hh
        exact hh
      have d3 : decide ((4294967296 : Int) < (i : Int)) = true := by simp; omega
      clear h1 h2 hh h3
      go_enter Try.func7, Try.ntmps7
      go_wp2
      go_ret2
      exact ⟨rfl, rfl⟩
theorem new_ok (h i : Nat) (h1 : 1 ≤ h) (h2 : h ≤ 254) (h3 : i ≤ 4294967296) (w : World) (P : Nat → Prop) (hP : P w.heap.size) : Calls Try.prog 7 #[.int .i64 h, .int .u64 i] w fun e w' => e = .returned (.tuple #[.pointer (some ⟨w.heap.size, 0, none⟩), .int .i64 0]) ∧ Ptv w.heap.size P ⟨h, i, [], [], [], 0⟩ (.slice none 0 0) (.slice none 0 0) (.slice none 0 0) w' ∧ Below w.heap.size w w' := by
  have d1 : decide ((h : Int) < 1) = false := by simp; omega
  have d2 : decide ((254 : Int) < (h : Int)) = false := by simp; omega
  have d3 : decide ((4294967296 : Int) < (i : Int)) = false := by simp; omega
  have HN : Hid (Ptv w.heap.size P ⟨h, i, [], [], [], 0⟩ (.slice none 0 0) (.slice none 0 0) (.slice none 0 0) (w.alloc (.cells #[.int .i64 h, .int .u64 i, .slice none 0 0, .slice none 0 0, .slice none 0 0, .int .u64 0] 55)) ∧ Below w.heap.size w (w.alloc (.cells #[.int .i64 h, .int .u64 i, .slice none 0 0, .slice none 0 0, .slice none 0 0, .int .u64 0] 55))) :=
    ⟨⟨heap_alloc_new w _, World.ownsRow_nil _ _ _ _, World.ownsRow_nil _ _ _ _, World.ownsRow_nil _ _ _ _, hP, fun k e => by simp [Value.ownBlock] at e, fun k e => by simp [Value.ownBlock] at e, fun k e => by simp [Value.ownBlock] at e, ⟨h1, h2, h3, by simp, by simp, by simp⟩⟩, (Below.refl _ _).alloc (Nat.le_refl _) _⟩
  clear h1 h2 h3
  go_enter Try.func7, Try.ntmps7
  go_wp2
  go_ret2
  exact ⟨rfl, HN.out.1, HN.out.2⟩
set_option maxHeartbeats 1000000 in
theorem same_any (va vb : Value) (l : List Tr) (w : World) (ha : Wide 7 Tr.cs w va l) (hb : Wide 7 Tr.cs w vb l) (hl : l.length ≤ 2305843009213693951) : Calls Try.prog 20 #[va, vb] w fun e w' => e = .returned (.bool true) ∧ ∃ n, w' = w.drewN n := by
  obtain ⟨aa, ca, rfl, _, hca⟩ := ha
  obtain ⟨ab, cb, rfl, _, hcb⟩ := hb
  have HA := hidOf2 hca
  have HB := hidOf2 hcb
  clear hca hcb
  go_enter Try.func20, Try.ntmps20
  go_wp2
  go_loopw [5] (fun s5 x => ∃ k, k ≤ l.length ∧ s5 = .int .i64 (k : Nat) ∧ ∃ n, x = w.drewN n) (fun s5 _ => l.length - (intOf s5).toNat)
  case atStart => exact ⟨0, by omega, rfl, 0, rfl⟩
  case round =>
    obtain ⟨k, hk, rfl, n, rfl⟩ := hrel
    by_cases hkl : k < l.length
    · have hd : decide ((k : Int) < (l.length : Int)) = true := by simp; omega
      obtain ⟨b1, o1, rfl, _, hR1⟩ := HA.out k hkl
      obtain ⟨b2, o2, rfl, _, hR2⟩ := HB.out k hkl
      generalize l[k] = t at *
      have S0 : (w.drewN (n + 1)).rangeAt b1 (o1 + k * 7) t.cs ∧ (w.drewN (n + 1)).rangeAt b2 (o2 + k * 7) t.cs := ⟨hR1, hR2⟩
      go_upto_region 6 with fail
      refine wp_region_held (S := fun y => y.rangeAt b1 (o1 + k * 7) t.cs ∧ y.rangeAt b2 (o2 + k * 7) t.cs) (by kernel_rfl) ?_
      change wpAnyH _ _ _ _ _ _ _ _ (w.drewN (n + 1))
      refine wpAnyH_take (i := 0) (v := (.slice (some ⟨b1, o1, none⟩) l.length ca)) rfl (by kernel_rfl) (by kernel_rfl) (by kernel_rfl) (fun _ _ _ h => h) (.inl ⟨rfl, fun _ hS => rfl⟩) S0 ?_
      simp only [List.getElem_toArray, List.getElem_cons_succ, List.getElem_cons_zero, Act.put, List.setIfInBounds_toArray, List.set_cons_succ, List.set_cons_zero]
      refine wpAnyH_take (i := 1) (v := (.int .i64 (k : Int))) rfl (by kernel_rfl) (by kernel_rfl) (by kernel_rfl) (fun _ _ _ h => h) (.inl ⟨rfl, fun _ hS => rfl⟩) S0 ?_
      simp only [List.getElem_toArray, List.getElem_cons_succ, List.getElem_cons_zero, Act.put, List.setIfInBounds_toArray, List.set_cons_succ, List.set_cons_zero]
      refine wpAnyH_take (i := 2) (v := (.pointer (some ⟨b1, o1 + k * 7, none⟩))) rfl (by kernel_rfl) (by kernel_rfl) (by kernel_rfl) (fun _ _ _ h => h) (.inl ⟨rfl, fun _ hS => exec_idxT rfl rfl rfl hkl _⟩) S0 ?_
      simp only [List.getElem_toArray, List.getElem_cons_succ, List.getElem_cons_zero, Act.put, List.setIfInBounds_toArray, List.set_cons_succ, List.set_cons_zero]
      refine wpAnyH_take (i := 3) (v := (.agg t.arr)) rfl (by kernel_rfl) (by kernel_rfl) (by kernel_rfl) (fun _ _ _ h => h) (.inl ⟨rfl, fun _ hS => exec_load rfl rfl (ldMid hS.1)⟩) S0 ?_
      simp only [List.getElem_toArray, List.getElem_cons_succ, List.getElem_cons_zero, Act.put, List.setIfInBounds_toArray, List.set_cons_succ, List.set_cons_zero]
      refine wpAnyH_take (i := 4) (v := (.slice (some ⟨b2, o2, none⟩) l.length cb)) rfl (by kernel_rfl) (by kernel_rfl) (by kernel_rfl) (fun _ _ _ h => h) (.inl ⟨rfl, fun _ hS => rfl⟩) S0 ?_
      simp only [List.getElem_toArray, List.getElem_cons_succ, List.getElem_cons_zero, Act.put, List.setIfInBounds_toArray, List.set_cons_succ, List.set_cons_zero]
      refine wpAnyH_take (i := 5) (v := (.int .i64 (k : Int))) rfl (by kernel_rfl) (by kernel_rfl) (by kernel_rfl) (fun _ _ _ h => h) (.inl ⟨rfl, fun _ hS => rfl⟩) S0 ?_
      simp only [List.getElem_toArray, List.getElem_cons_succ, List.getElem_cons_zero, Act.put, List.setIfInBounds_toArray, List.set_cons_succ, List.set_cons_zero]
      refine wpAnyH_take (i := 6) (v := (.pointer (some ⟨b2, o2 + k * 7, none⟩))) rfl (by kernel_rfl) (by kernel_rfl) (by kernel_rfl) (fun _ _ _ h => h) (.inl ⟨rfl, fun _ hS => exec_idxT rfl rfl rfl hkl _⟩) S0 ?_
      simp only [List.getElem_toArray, List.getElem_cons_succ, List.getElem_cons_zero, Act.put, List.setIfInBounds_toArray, List.set_cons_succ, List.set_cons_zero]
      refine wpAnyH_take (i := 7) (v := (.agg t.arr)) rfl (by kernel_rfl) (by kernel_rfl) (by kernel_rfl) (fun _ _ _ h => h) (.inl ⟨rfl, fun _ hS => exec_load rfl rfl (ldMid hS.2)⟩) S0 ?_
      simp only [List.getElem_toArray, List.getElem_cons_succ, List.getElem_cons_zero, Act.put, List.setIfInBounds_toArray, List.set_cons_succ, List.set_cons_zero]
      refine wpAnyH_take (i := 8) (v := (.bool false)) rfl (by kernel_rfl) (by kernel_rfl) (by kernel_rfl) (fun _ _ _ h => h) (.inl ⟨rfl, fun _ hS => exec_neqT rfl rfl rfl _⟩) S0 ?_
      simp only [List.getElem_toArray, List.getElem_cons_succ, List.getElem_cons_zero, Act.put, List.setIfInBounds_toArray, List.set_cons_succ, List.set_cons_zero]
      refine wpAnyH_done (by kernel_rfl) ?_ _
      go_wp2
      go_roundw
      case measure => simp [intOf]; omega
      case rel => exact ⟨k + 1, by omega, rfl, n + 1, rfl⟩
    · obtain rfl : k = l.length := by omega
      have hd : decide ((l.length : Int) < (l.length : Int)) = false := by simp
      go_wp2
      go_ret
      exact ⟨rfl, _, rfl⟩
end Go.Proofs.Ytlkocebgkmdeoaa
