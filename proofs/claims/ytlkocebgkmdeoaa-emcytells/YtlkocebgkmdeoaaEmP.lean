/- The small living call of layer 16. -/
import Derived.Test.YtlkocebgkmdeoaaEmO
namespace Go.Proofs.Ytlkocebgkmdeoaa
open Go.RowKit
set_option linter.unusedVariables false
set_option maxRecDepth 1000000
set_option linter.unusedSimpArgs false
theorem opE {w : World} {ops : Array Oper} {rest : List Oper} {o : Oper} {a : Act} {Q : Exit → Act → World → Prop} (v : Value) (hgd : Region.wanted o (yielded ops a.tmps) = true) (hr : (execOp a.eval o).run Try.prog w = .ok (.value v) w)
    (h : wpList Try.prog ops Q rest (a.put o.dst v) w) : wpList Try.prog ops Q (o :: rest) a w := by
  refine BigFrame.wpList_want hgd fun K hK => ?_
  unfold Oper.wp
  simp only [hr]
  exact hK _ _ h
theorem exec_eqlT {a : Act} {o : Oper} {x y : Operand} {t : TypeId} (T : Tr) (ho : o.op = .binOp .eql 37 x y t) (hx : a.eval x = .agg T.arr) (hy : a.eval y = .agg T.arr) (w : World) : (execOp a.eval o).run Try.prog w = .ok (.value (.bool true)) w := by
  have hm : Try.prog.eqGuardType Try.prog.depth 37 = false := by kernel_rfl
  have q0 : (Op.equalIn 9999 34 (.int .u16 T.c) (.int .u16 T.c)).run Try.prog w = .ok true w := by
    rw [run_equalIn_int w 9998 34 .u16 .u16 _ _ Try.underlying34]; simp
  have q1 : (Op.equalIn 9999 5 (.int .u8 T.r) (.int .u8 T.r)).run Try.prog w = .ok true w := by
    rw [run_equalIn_int w 9998 5 .u8 .u8 _ _ Try.underlying5]; simp
  have q2 := eqArr5 T.x0 T.x1 T.x2 T.x3 T.x4 9997 w
  have a0 : T.arr[0]? = some (.int .u16 T.c) := rfl
  have a1 : T.arr[1]? = some (.int .u8 T.r) := rfl
  have a2 : T.arr.extract 2 7 = #[.int .u8 T.x0, .int .u8 T.x1, .int .u8 T.x2, .int .u8 T.x3, .int .u8 T.x4] := by simp [Tr.arr]
  generalize T.arr = A at *
  unfold execOp
  simp only [ho, hx, hy]
  simp [go_sem, run_eqGuard_agg w .eql 37 _ _ A A hm, run_eql_struct, q0, q1, q2, a0, a1, a2]
theorem exec_eqlF {a : Act} {o : Oper} {x y : Operand} {t : TypeId} (A : Array Value) (hA : ∀ k, k < 8 → ∃ z : Int, A[k]? = some (.int .u8 z)) (ho : o.op = .binOp .eql 42 x y t) (hx : a.eval x = .agg A) (hy : a.eval y = .agg A) (w : World) : (execOp a.eval o).run Try.prog w = .ok (.value (.bool true)) w := by
  have hm : Try.prog.eqGuardType Try.prog.depth 42 = false := by kernel_rfl
  obtain ⟨i0, hi0, hz0, hz1, hz2⟩ := info_parts info5
  have he : ∀ k, k < 8 → ∃ v, (part 5 A k).run Try.prog w = .ok v w ∧ (Op.equalIn 9999 5 v v).run Try.prog w = .ok true w := fun k hk => by
    obtain ⟨z, hz⟩ := hA k hk
    refine ⟨_, partU8 A k _ hz w, ?_⟩
    rw [run_equalIn_int w 9998 5 .u8 .u8 z z Try.underlying5]
    simp
  obtain ⟨v0, p0, q0⟩ := he 0 (by omega)
  obtain ⟨v1, p1, q1⟩ := he 1 (by omega)
  obtain ⟨v2, p2, q2⟩ := he 2 (by omega)
  obtain ⟨v3, p3, q3⟩ := he 3 (by omega)
  obtain ⟨v4, p4, q4⟩ := he 4 (by omega)
  obtain ⟨v5, p5, q5⟩ := he 5 (by omega)
  obtain ⟨v6, p6, q6⟩ := he 6 (by omega)
  obtain ⟨v7, p7, q7⟩ := he 7 (by omega)
  have hE : (Op.equalIn 10000 42 (.agg A) (.agg A)).run Try.prog w = .ok true w := by
    rw [Op.equalIn]
    have hr : List.range' 0 8 1 = [0, 1, 2, 3, 4, 5, 6, 7] := by decide
    simp [Sem.run_bind, run_underlying Try.underlying42, sizeOf, typeInfo, hi0, hz1, hr, p0, q0, p1, q1, p2, q2, p3, q3, p4, q4, p5, q5, p6, q6, p7, q7]
  unfold execOp
  simp only [ho, hx, hy]
  simp [go_sem, run_eqGuard_agg w .eql 42 _ _ A A hm, run_eql_struct, hE]
/-- The error of the small living call. -/
def tL : Tr := ⟨12816, 4, 9, 0, 0, 0, 0, by decide, by decide⟩
def tM : Tr := ⟨12816, 5, 9, 0, 0, 0, 0, by decide, by decide⟩
def s0L : Te := ⟨3, 0, [], [], [], 0⟩
set_option maxHeartbeats 2000000 in
theorem lives_any (w : World) : Calls Try.prog 8 #[] w fun e w' => e = .returned (.bool true) ∧ Below w.heap.size w w' := by
  obtain ⟨g, hg⟩ : ∃ g, w.heap.size = g := ⟨_, rfl⟩
  have hN : Calls Try.prog 7 #[.int .i64 3, .int .u64 0] w fun e w' => e = .returned (.tuple #[.pointer (some ⟨g, 0, none⟩), .int .i64 0]) ∧ Ptv g (fun k => g ≤ k) s0L (.slice none 0 0) (.slice none 0 0) (.slice none 0 0) w' ∧ Below g w w' := by
    rw [← hg]
    exact new_ok 3 0 (by decide) (by decide) (by decide) w (fun k => w.heap.size ≤ k) (Nat.le_refl _)
  have hcan : s0L.can tL = true := by decide
  have hr : s0L.raise tL = s0L.rs tL := by unfold Te.raise; rw [hcan]; rfl
  have hw : (s0L.rs tL).waits = [tM] := by rfl
  have hreg : reg (s0L.rs tL).now = 5 := by decide
  have hreg2 : reg (s0L.rs tL).out.now = 5 := by decide
  have HRa : Hid (∀ x, Ptv g (fun k => g ≤ k) s0L (.slice none 0 0) (.slice none 0 0) (.slice none 0 0) x → g ≤ x.heap.size → Calls Try.prog 9 #[.pointer (some ⟨g, 0, none⟩), .agg #[.int .u16 12816, .int .u8 4, .int .u8 9, .int .u8 0, .int .u8 0, .int .u8 0, .int .u8 0]] x fun e w' => e = .returned (.bool true) ∧ Pt g (fun k => g ≤ k) (s0L.rs tL) w' ∧ Kq (fun k => g ≤ k) x w') := fun x hx hgx => by
    have := raise_any hx (fun k hk => Nat.le_trans hgx hk) (by decide) (Nat.zero_le _) tL
    rw [hcan, hr] at this
    exact this
  have HFr : Hid (∀ x, Pt g (fun k => g ≤ k) (s0L.rs tL) x → g ≤ x.heap.size → Calls Try.prog 15 #[.pointer (some ⟨g, 0, none⟩)] x fun e w' => e = .returned (.tuple #[.agg #[.int .u8 16, .int .u8 50, .int .u8 5, .int .u8 9, .int .u8 0, .int .u8 0, .int .u8 0, .int .u8 0], .bool true]) ∧ Pt g (fun k => g ≤ k) (s0L.rs tL).out w' ∧ Kq (fun k => g ≤ k) x w') := fun x hx hgx => by
    obtain ⟨vn, vp, vw, hx⟩ := hx
    obtain ⟨f, r, hfr, hc⟩ := frame_yes hx (fun k hk => Nat.le_trans hgx hk) (by decide)
    rw [hw] at hfr
    injection hfr with e1 e2
    subst e1
    exact hc
  have HRg : Hid (∀ x, Pt g (fun k => g ≤ k) (s0L.rs tL).out x → Calls Try.prog 18 #[.pointer (some ⟨g, 0, none⟩)] x fun e w' => e = .returned (.int .u8 5) ∧ Below x.heap.size x w') := fun x hx => by
    obtain ⟨vn, vp, vw, hx⟩ := hx
    have := reg_any hx (by decide)
    rw [hreg2] at this
    exact this
  have HRd : Hid (∀ x, Calls Try.prog 23 #[.agg #[.int .u8 16, .int .u8 50, .int .u8 5, .int .u8 9, .int .u8 0, .int .u8 0, .int .u8 0, .int .u8 0]] x fun e w' => e = .returned (.agg #[.int .u16 12816, .int .u8 5, .int .u8 9, .int .u8 0, .int .u8 0, .int .u8 0, .int .u8 0]) ∧ Below x.heap.size x w') := fun x => read_any tM x
  clear hcan hr hw hreg hreg2
  rw [hg]
  go_enter Try.func8, Try.ntmps8
  go_upto_region 2 with (go_at_call 7; refine hN.mono ?_; rintro e w1 ⟨rfl, t1, b1⟩)
  have hs1 := b1.size
  go_upto_region 4 with (go_at_call 9; refine (HRa.out w1 t1 (by omega)).mono ?_; rintro e w2 ⟨rfl, t2, k2⟩)
  have b2 := k2.below b1 (by omega) (fun k h => h)
  have hs2 := b2.size
  clear hN HRa t1 k2 b1 hs1
  go_upto_region 5 with (go_at_call 15; refine (HFr.out w2 t2 (by omega)).mono ?_; rintro e w3 ⟨rfl, t3, k3⟩)
  have b3 := k3.below b2 (by omega) (fun k h => h)
  obtain ⟨w4, hw4⟩ : ∃ x, w3.alloc (.cells #[.int .u8 16, .int .u8 50, .int .u8 5, .int .u8 9, .int .u8 0, .int .u8 0, .int .u8 0, .int .u8 0] 42) = x := ⟨_, rfl⟩
  have bb : Below w3.heap.size w3 w4 := by rw [← hw4]; exact (Below.refl _ _).alloc (Nat.le_refl _) _
  obtain ⟨q, hq⟩ : ∃ q, w3.heap.size = q := ⟨_, rfl⟩
  have F4 : Bc 42 q #[.int .u8 16, .int .u8 50, .int .u8 5, .int .u8 9, .int .u8 0, .int .u8 0, .int .u8 0, .int .u8 0] w4 := by rw [← hw4, ← hq]; exact heap_alloc_new w3 _
  have t4 := t3.below bb
  have b4 : Below g w w4 := b3.trans (bb.mono (by have := b3.size; omega))
  have HC4 : Hid (∀ x, Below w4.heap.size w4 x → x.cell? ⟨q, 0, none⟩ = some (.int .u8 16) ∧ x.cell? ⟨q, 1, none⟩ = some (.int .u8 50) ∧ x.cell? ⟨q, 2, none⟩ = some (.int .u8 5) ∧ x.cell? ⟨q, 3, none⟩ = some (.int .u8 9) ∧ x.cell? ⟨q, 4, none⟩ = some (.int .u8 0) ∧ x.cell? ⟨q, 5, none⟩ = some (.int .u8 0) ∧ x.cell? ⟨q, 6, none⟩ = some (.int .u8 0) ∧ x.cell? ⟨q, 7, none⟩ = some (.int .u8 0)) := fun x hx => ⟨(F4.below hx).cell 0, (F4.below hx).cell 1, (F4.below hx).cell 2, (F4.below hx).cell 3, (F4.below hx).cell 4, (F4.below hx).cell 5, (F4.below hx).cell 6, (F4.below hx).cell 7⟩
  obtain ⟨d0, d1, d2, d3, d4, d5, d6, d7⟩ := HC4.out w4 (Below.refl _ _)
  have hRg := HRg.out w4 t4
  change Code.wp Try.prog _ _ _ (w3.alloc (.cells #[.int .u8 16, .int .u8 50, .int .u8 5, .int .u8 9, .int .u8 0, .int .u8 0, .int .u8 0, .int .u8 0] 42))
  rw [hw4]
  clear hw4 bb t3 k3 b3 HFr HRg F4 b2 hs2
  have hs4 := b4.size
  go_wp2_with (first | (refine opE (.bool true) rfl (exec_eqlF #[.int .u8 16, .int .u8 50, .int .u8 5, .int .u8 9, .int .u8 0, .int .u8 0, .int .u8 0, .int .u8 0] (by intro k hk; match k, hk with | 0, _ => exact ⟨_, rfl⟩ | 1, _ => exact ⟨_, rfl⟩ | 2, _ => exact ⟨_, rfl⟩ | 3, _ => exact ⟨_, rfl⟩ | 4, _ => exact ⟨_, rfl⟩ | 5, _ => exact ⟨_, rfl⟩ | 6, _ => exact ⟨_, rfl⟩ | 7, _ => exact ⟨_, rfl⟩) rfl rfl rfl _) ?_) | (go_at_call 18; refine hRg.mono ?_; rintro e w5 ⟨rfl, b5⟩; obtain ⟨e0, e1, e2, e3, e4, e5, e6, e7⟩ := HC4.out w5 b5) | (go_at_call 23; refine (HRd.out _).mono ?_; rintro e w6 ⟨rfl, b6⟩) | (refine opE (.bool true) rfl (exec_eqlT tM rfl rfl rfl _) ?_))
  go_ret
  exact ⟨rfl, (b4.trans (b5.mono (by omega))).trans (b6.mono (by have := b5.size; omega))⟩
end Go.Proofs.Ytlkocebgkmdeoaa
