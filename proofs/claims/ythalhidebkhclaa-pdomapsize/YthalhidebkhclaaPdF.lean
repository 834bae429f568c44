/- The region of pieces that draws its order, inside a round. -/
import Derived.Test.YthalhidebkhclaaPdE
import Derived.Test.YthalhidebkhclaaQb
namespace Go.Proofs.Ythalhidebkhclaa
open Go.RowKit Go.Shelf Go.Proofs.Ty
set_option linter.unusedVariables false
set_option maxRecDepth 1000000
set_option linter.unusedSimpArgs false
/-- The operations of the region. -/
noncomputable def pcOps : Array Oper := match Try.f36.body with
  | some (.seq _ (.seq _ (.block _ (.rangeFunc _ _ _ (.block _ (.seq (.region _ ops _) _)))))) => ops
  | _ => #[]
def sel (l : Bool) (v : Value) : Value := match l with
  | true => v
  | false => undef
theorem step_val {n i : Nat} {P : Program} {ops : Array Oper} {o : Oper} {v : Value} {K : Act → World → Prop} {Q : Exit → Act → World → Prop} {a : Act} {w : World} (ho : ops[i]? = some o) (hw : Region.wanted o (yielded ops a.tmps) = true) (hr : (execOp a.eval o).run P w = .ok (.value v) w) (hk : K (a.put o.dst v) w) : wpOpIn Fence.wide n P ops Q i K a w := by
  unfold wpOpIn
  rw [ho]
  simp only [hw, if_true]
  refine ⟨fun _ _ => trivial, ?_⟩
  show Oper.uponIn _ _ _ _ _ _ _ ((execOp a.eval o).run P w)
  rw [hr]
  exact hk
theorem exec_sub13 {a : Act} {o : Oper} {x y : Operand} {m n : Int} {k : Nat} (ho : o.op = .binOp .sub 3 x y 3) (hx : a.eval x = .int .i64 m) (hy : a.eval y = .int .i64 n) (h : m - n = 8 * (k : Int)) (hk : k ≤ 8) (w : World) : (execOp a.eval o).run Try.prog w = .ok (.value (.int .i64 (m - n))) w := by
  unfold execOp
  simp only [ho, hx, hy]
  have e : IntKind.i64.wrap (m - n) = m - n := by rw [h]; simp [IntKind.wrap, IntKind.bits, IntKind.signed]; omega
  simp [go_sem, run_underlying Try.underlying3, e]
theorem exec_quo13 {a : Act} {o : Oper} {x y : Operand} {m : Int} {k : Nat} (ho : o.op = .binOp .quo 3 x y 3) (hx : a.eval x = .int .i64 m) (hy : a.eval y = .int .i64 8) (h : m = 8 * (k : Int)) (hk : k ≤ 8) (w : World) : (execOp a.eval o).run Try.prog w = .ok (.value (.int .i64 (k : Nat))) w := by
  unfold execOp
  simp only [ho, hx, hy]
  have e1 : (8 * (k : Int)).tdiv 8 = (k : Int) := by rw [Int.mul_comm]; exact Int.mul_tdiv_cancel _ (by decide)
  have e : IntKind.i64.wrap (k : Int) = (k : Int) := by simp [IntKind.wrap, IntKind.bits, IntKind.signed]; omega
  subst h
  simp [go_sem, run_underlying Try.underlying3, e1, e]
theorem exec_slice13 {a : Act} {o : Oper} {x : Operand} {lo hi : Option Operand} {v u : Value} {lo' hi' : Option Value} (ho : o.op = .slice 24 x lo hi none) (hx : a.eval x = v) (hlo : lo.map a.eval = lo') (hhi : hi.map a.eval = hi') (hr : ∀ W, (Instr.sliceAt 24 v lo' hi' none).run Try.prog W = .ok u W) (w : World) : (execOp a.eval o).run Try.prog w = .ok (.value u) w := by
  unfold execOp
  simp only [ho, hx, hlo, hhi, Option.map_none, Sem.run_bind, hr, Result.andThen_ok, Sem.run_pure]
section
variable {n : Nat} {Q : Exit → Act → World → Prop} {X : World} {q0 zz Bb lo hi : Nat} {e : Int} {s : Sl} {t0 t1 t6 t7 t8 t9 vy vb vp : Value}
/-- What stands when these have come up. -/
def pcA (q0 zz Bb lo hi : Nat) (e : Int) (s : Sl) (t0 t1 t6 t7 t8 t9 vy vb vp : Value) (l0 l1 l2 l3 l4 l5 l6 l7 l8 l9 l10 : Bool) : Act := { tmps := #[t0, t1, .pointer (some ⟨Bb, 0, none⟩), .pointer (some ⟨q0, 0, none⟩), .pointer (some ⟨zz, 0, none⟩), .int .i64 e, t6, t7, t8, t9, sel l0 vy, sel l1 (.agg s.arr), sel l2 vb, sel l3 (.int .i64 e), sel l4 (.pointer (some ⟨zz, 2, none⟩)), sel l5 (.int .i64 s.bt), sel l6 (.int .i64 (e - s.bt)), sel l7 (.int .i64 (lo : Nat)), sel l8 (.int .i64 e), sel l9 (.int .i64 (hi : Nat)), sel l10 vp, undef, undef], defers := [] }
set_option maxHeartbeats 2000000 in
/-- All of them but the call come up, in whatever order. -/
theorem pc_any (hy : (loadVar 93 ⟨q0, 0, none⟩).run Try.prog X = .ok vy X) (hs : (loadVar 47 ⟨zz, 0, none⟩).run Try.prog X = .ok (.agg s.arr) X) (hb : (loadVar 24 ⟨Bb, 0, none⟩).run Try.prog X = .ok vb X) (hz : (loadVar 3 ⟨zz, 2, none⟩).run Try.prog X = .ok (.int .i64 s.bt) X)
    (he : e = 8 * (hi : Int)) (hd : e - s.bt = 8 * (lo : Int)) (hi8 : hi ≤ 8) (hlh : lo ≤ hi)
    (hp : ∀ W, (Instr.sliceAt 24 vb (some (.int .i64 (lo : Nat))) (some (.int .i64 (hi : Nat))) none).run Try.prog W = .ok vp W)
    (HL : wpAnyIn Fence.wide n Try.prog .any pcOps Q 2 #[true, true, true, true, true, true, true, true, true, true, true, false, false] (pcA q0 zz Bb lo hi e s t0 t1 t6 t7 t8 t9 vy vb vp true true true true true true true true true true true) X) :
    ∀ (m : Nat) (l0 l1 l2 l3 l4 l5 l6 l7 l8 l9 l10 : Bool), (!l0).toNat + (!l1).toNat + (!l2).toNat + (!l3).toNat + (!l4).toNat + (!l5).toNat + (!l6).toNat + (!l7).toNat + (!l8).toNat + (!l9).toNat + (!l10).toNat = m → (l5 = true → l4 = true) → (l6 = true → l3 = true ∧ l5 = true) → (l7 = true → l6 = true) → (l9 = true → l8 = true) → (l10 = true → l2 = true ∧ l7 = true ∧ l9 = true) →
      wpAnyIn Fence.wide n Try.prog .any pcOps Q (m + 2) #[l0, l1, l2, l3, l4, l5, l6, l7, l8, l9, l10, false, false] (pcA q0 zz Bb lo hi e s t0 t1 t6 t7 t8 t9 vy vb vp l0 l1 l2 l3 l4 l5 l6 l7 l8 l9 l10) X := by
  intro m
  induction m with
  | zero =>
    intro l0 l1 l2 l3 l4 l5 l6 l7 l8 l9 l10 hm h5 h6 h7 h9 h10
    obtain rfl : l0 = true := by cases l0 <;> simp at hm ⊢
    obtain rfl : l1 = true := by cases l1 <;> simp at hm ⊢
    obtain rfl : l2 = true := by cases l2 <;> simp at hm ⊢
    obtain rfl : l3 = true := by cases l3 <;> simp at hm ⊢
    obtain rfl : l4 = true := by cases l4 <;> simp at hm ⊢
    obtain rfl : l5 = true := by cases l5 <;> simp at hm ⊢
    obtain rfl : l6 = true := by cases l6 <;> simp at hm ⊢
    obtain rfl : l7 = true := by cases l7 <;> simp at hm ⊢
    obtain rfl : l8 = true := by cases l8 <;> simp at hm ⊢
    obtain rfl : l9 = true := by cases l9 <;> simp at hm ⊢
    obtain rfl : l10 = true := by cases l10 <;> simp at hm ⊢
    exact HL
  | succ m ih =>
    intro l0 l1 l2 l3 l4 l5 l6 l7 l8 l9 l10 hm h5 h6 h7 h9 h10
    constructor
    · intro h0
      exfalso
      have hno : ∀ j, j ∉ Region.ready .any pcOps #[l0, l1, l2, l3, l4, l5, l6, l7, l8, l9, l10, false, false] := fun j hj => by rw [h0] at hj; cases hj
      obtain rfl : l0 = true := by
        cases l0 with
        | true => rfl
        | false => exact absurd (mem_ready.2 ⟨rfl, pcOps[0]'(by decide), rfl, fun e he _ => by have he2 : e ∈ (#[] : Array Edge) := he; exact by (simp at he2)⟩) (hno 0)
      obtain rfl : l1 = true := by
        cases l1 with
        | true => rfl
        | false => exact absurd (mem_ready.2 ⟨rfl, pcOps[1]'(by decide), rfl, fun e he _ => by have he2 : e ∈ (#[] : Array Edge) := he; exact by (simp at he2)⟩) (hno 1)
      obtain rfl : l2 = true := by
        cases l2 with
        | true => rfl
        | false => exact absurd (mem_ready.2 ⟨rfl, pcOps[2]'(by decide), rfl, fun e he _ => by have he2 : e ∈ (#[] : Array Edge) := he; exact by (simp at he2)⟩) (hno 2)
      obtain rfl : l3 = true := by
        cases l3 with
        | true => rfl
        | false => exact absurd (mem_ready.2 ⟨rfl, pcOps[3]'(by decide), rfl, fun e he _ => by have he2 : e ∈ (#[] : Array Edge) := he; exact by (simp at he2)⟩) (hno 3)
      obtain rfl : l4 = true := by
        cases l4 with
        | true => rfl
        | false => exact absurd (mem_ready.2 ⟨rfl, pcOps[4]'(by decide), rfl, fun e he _ => by have he2 : e ∈ (#[] : Array Edge) := he; exact by (simp at he2)⟩) (hno 4)
      obtain rfl : l5 = true := by
        cases l5 with
        | true => rfl
        | false => exact absurd (mem_ready.2 ⟨rfl, pcOps[5]'(by decide), rfl, fun e he _ => by have he2 : e ∈ (#[{ on := 4, ground := .data }] : Array Edge) := he; exact by (simp at he2; subst he2; rfl)⟩) (hno 5)
      obtain rfl : l6 = true := by
        cases l6 with
        | true => rfl
        | false => exact absurd (mem_ready.2 ⟨rfl, pcOps[6]'(by decide), rfl, fun e he _ => by have he2 : e ∈ (#[{ on := 3, ground := .data }, { on := 5, ground := .data }] : Array Edge) := he; exact by (simp at he2; rcases he2 with rfl | rfl <;> rfl)⟩) (hno 6)
      obtain rfl : l7 = true := by
        cases l7 with
        | true => rfl
        | false => exact absurd (mem_ready.2 ⟨rfl, pcOps[7]'(by decide), rfl, fun e he _ => by have he2 : e ∈ (#[{ on := 6, ground := .data }] : Array Edge) := he; exact by (simp at he2; subst he2; rfl)⟩) (hno 7)
      obtain rfl : l8 = true := by
        cases l8 with
        | true => rfl
        | false => exact absurd (mem_ready.2 ⟨rfl, pcOps[8]'(by decide), rfl, fun e he _ => by have he2 : e ∈ (#[] : Array Edge) := he; exact by (simp at he2)⟩) (hno 8)
      obtain rfl : l9 = true := by
        cases l9 with
        | true => rfl
        | false => exact absurd (mem_ready.2 ⟨rfl, pcOps[9]'(by decide), rfl, fun e he _ => by have he2 : e ∈ (#[{ on := 8, ground := .data }] : Array Edge) := he; exact by (simp at he2; subst he2; rfl)⟩) (hno 9)
      obtain rfl : l10 = true := by
        cases l10 with
        | true => rfl
        | false => exact absurd (mem_ready.2 ⟨rfl, pcOps[10]'(by decide), rfl, fun e he _ => by have he2 : e ∈ (#[{ on := 2, ground := .data }, { on := 7, ground := .data }, { on := 9, ground := .data }] : Array Edge) := he; exact by (simp at he2; rcases he2 with rfl | rfl | rfl <;> rfl)⟩) (hno 10)
      simp at hm
    · intro i hi'
      obtain ⟨hl, o, ho, hdep⟩ := mem_ready.1 hi'
      have hi13 : i < 13 := by
        have := (Array.getElem?_eq_some_iff.1 ho).1
        exact this
      match i, hi13 with
      | 0, _ =>
        obtain rfl : l0 = false := hl
        refine step_val rfl rfl (exec_load rfl rfl hy) ?_
        exact ih true l1 l2 l3 l4 l5 l6 l7 l8 l9 l10 (by simp only [Bool.not_false, Bool.not_true, Bool.toNat_true, Bool.toNat_false] at hm ⊢; omega) (fun h => h5 h) (fun h => ⟨(h6 h).1, (h6 h).2⟩) (fun h => h7 h) (fun h => h9 h) (fun h => ⟨(h10 h).1, (h10 h).2.1, (h10 h).2.2⟩)
      | 1, _ =>
        obtain rfl : l1 = false := hl
        refine step_val rfl rfl (exec_load rfl rfl hs) ?_
        exact ih l0 true l2 l3 l4 l5 l6 l7 l8 l9 l10 (by simp only [Bool.not_false, Bool.not_true, Bool.toNat_true, Bool.toNat_false] at hm ⊢; omega) (fun h => h5 h) (fun h => ⟨(h6 h).1, (h6 h).2⟩) (fun h => h7 h) (fun h => h9 h) (fun h => ⟨(h10 h).1, (h10 h).2.1, (h10 h).2.2⟩)
      | 2, _ =>
        obtain rfl : l2 = false := hl
        refine step_val rfl rfl (exec_load rfl rfl hb) ?_
        exact ih l0 l1 true l3 l4 l5 l6 l7 l8 l9 l10 (by simp only [Bool.not_false, Bool.not_true, Bool.toNat_true, Bool.toNat_false] at hm ⊢; omega) (fun h => h5 h) (fun h => ⟨(h6 h).1, (h6 h).2⟩) (fun h => h7 h) (fun h => h9 h) (fun h => ⟨rfl, (h10 h).2.1, (h10 h).2.2⟩)
      | 3, _ =>
        obtain rfl : l3 = false := hl
        refine step_val rfl rfl (rfl) ?_
        exact ih l0 l1 l2 true l4 l5 l6 l7 l8 l9 l10 (by simp only [Bool.not_false, Bool.not_true, Bool.toNat_true, Bool.toNat_false] at hm ⊢; omega) (fun h => h5 h) (fun h => ⟨rfl, (h6 h).2⟩) (fun h => h7 h) (fun h => h9 h) (fun h => ⟨(h10 h).1, (h10 h).2.1, (h10 h).2.2⟩)
      | 4, _ =>
        obtain rfl : l4 = false := hl
        refine step_val rfl rfl (by rfl) ?_
        exact ih l0 l1 l2 l3 true l5 l6 l7 l8 l9 l10 (by simp only [Bool.not_false, Bool.not_true, Bool.toNat_true, Bool.toNat_false] at hm ⊢; omega) (fun h => rfl) (fun h => ⟨(h6 h).1, (h6 h).2⟩) (fun h => h7 h) (fun h => h9 h) (fun h => ⟨(h10 h).1, (h10 h).2.1, (h10 h).2.2⟩)
      | 5, _ =>
        obtain rfl : l5 = false := hl
        have k4 : l4 = true := by
          obtain rfl := Option.some.inj ho.symm
          exact hdep { on := 4, ground := .data } (show _ ∈ (#[{ on := 4, ground := .data }] : Array Edge) from by simp) rfl
        subst k4
        refine step_val rfl rfl (exec_load rfl rfl hz) ?_
        exact ih l0 l1 l2 l3 true true l6 l7 l8 l9 l10 (by simp only [Bool.not_false, Bool.not_true, Bool.toNat_true, Bool.toNat_false] at hm ⊢; omega) (fun h => rfl) (fun h => ⟨(h6 h).1, rfl⟩) (fun h => h7 h) (fun h => h9 h) (fun h => ⟨(h10 h).1, (h10 h).2.1, (h10 h).2.2⟩)
      | 6, _ =>
        obtain rfl : l6 = false := hl
        have k3 : l3 = true := by
          obtain rfl := Option.some.inj ho.symm
          exact hdep { on := 3, ground := .data } (show _ ∈ (#[{ on := 3, ground := .data }, { on := 5, ground := .data }] : Array Edge) from by simp) rfl
        have k5 : l5 = true := by
          obtain rfl := Option.some.inj ho.symm
          exact hdep { on := 5, ground := .data } (show _ ∈ (#[{ on := 3, ground := .data }, { on := 5, ground := .data }] : Array Edge) from by simp) rfl
        subst k3
        subst k5
        refine step_val rfl rfl (exec_sub13 rfl rfl rfl hd (Nat.le_trans hlh hi8) _) ?_
        exact ih l0 l1 l2 true l4 true true l7 l8 l9 l10 (by simp only [Bool.not_false, Bool.not_true, Bool.toNat_true, Bool.toNat_false] at hm ⊢; omega) (fun h => h5 h) (fun h => ⟨rfl, rfl⟩) (fun h => rfl) (fun h => h9 h) (fun h => ⟨(h10 h).1, (h10 h).2.1, (h10 h).2.2⟩)
      | 7, _ =>
        obtain rfl : l7 = false := hl
        have k6 : l6 = true := by
          obtain rfl := Option.some.inj ho.symm
          exact hdep { on := 6, ground := .data } (show _ ∈ (#[{ on := 6, ground := .data }] : Array Edge) from by simp) rfl
        subst k6
        refine step_val rfl rfl (exec_quo13 rfl rfl rfl hd (Nat.le_trans hlh hi8) _) ?_
        exact ih l0 l1 l2 l3 l4 l5 true true l8 l9 l10 (by simp only [Bool.not_false, Bool.not_true, Bool.toNat_true, Bool.toNat_false] at hm ⊢; omega) (fun h => h5 h) (fun h => ⟨(h6 h).1, (h6 h).2⟩) (fun h => rfl) (fun h => h9 h) (fun h => ⟨(h10 h).1, rfl, (h10 h).2.2⟩)
      | 8, _ =>
        obtain rfl : l8 = false := hl
        refine step_val rfl rfl (rfl) ?_
        exact ih l0 l1 l2 l3 l4 l5 l6 l7 true l9 l10 (by simp only [Bool.not_false, Bool.not_true, Bool.toNat_true, Bool.toNat_false] at hm ⊢; omega) (fun h => h5 h) (fun h => ⟨(h6 h).1, (h6 h).2⟩) (fun h => h7 h) (fun h => rfl) (fun h => ⟨(h10 h).1, (h10 h).2.1, (h10 h).2.2⟩)
      | 9, _ =>
        obtain rfl : l9 = false := hl
        have k8 : l8 = true := by
          obtain rfl := Option.some.inj ho.symm
          exact hdep { on := 8, ground := .data } (show _ ∈ (#[{ on := 8, ground := .data }] : Array Edge) from by simp) rfl
        subst k8
        refine step_val rfl rfl (exec_quo13 rfl rfl rfl he hi8 _) ?_
        exact ih l0 l1 l2 l3 l4 l5 l6 l7 true true l10 (by simp only [Bool.not_false, Bool.not_true, Bool.toNat_true, Bool.toNat_false] at hm ⊢; omega) (fun h => h5 h) (fun h => ⟨(h6 h).1, (h6 h).2⟩) (fun h => h7 h) (fun h => rfl) (fun h => ⟨(h10 h).1, (h10 h).2.1, rfl⟩)
      | 10, _ =>
        obtain rfl : l10 = false := hl
        have k2 : l2 = true := by
          obtain rfl := Option.some.inj ho.symm
          exact hdep { on := 2, ground := .data } (show _ ∈ (#[{ on := 2, ground := .data }, { on := 7, ground := .data }, { on := 9, ground := .data }] : Array Edge) from by simp) rfl
        have k7 : l7 = true := by
          obtain rfl := Option.some.inj ho.symm
          exact hdep { on := 7, ground := .data } (show _ ∈ (#[{ on := 2, ground := .data }, { on := 7, ground := .data }, { on := 9, ground := .data }] : Array Edge) from by simp) rfl
        have k9 : l9 = true := by
          obtain rfl := Option.some.inj ho.symm
          exact hdep { on := 9, ground := .data } (show _ ∈ (#[{ on := 2, ground := .data }, { on := 7, ground := .data }, { on := 9, ground := .data }] : Array Edge) from by simp) rfl
        subst k2
        subst k7
        subst k9
        refine step_val rfl rfl (exec_slice13 (v := vb) (lo' := some (.int .i64 (lo : Nat))) (hi' := some (.int .i64 (hi : Nat))) rfl rfl rfl rfl hp _) ?_
        exact ih l0 l1 true l3 l4 l5 l6 true l8 true true (by simp only [Bool.not_false, Bool.not_true, Bool.toNat_true, Bool.toNat_false] at hm ⊢; omega) (fun h => h5 h) (fun h => ⟨(h6 h).1, (h6 h).2⟩) (fun h => h7 h) (fun h => h9 h) (fun h => ⟨rfl, rfl, rfl⟩)
      | 11, _ =>
        exfalso
        obtain rfl := Option.some.inj ho.symm
        have k0 : l0 = true := hdep { on := 0, ground := .data } (show _ ∈ (#[{ on := 0, ground := .data }, { on := 1, ground := .data }, { on := 10, ground := .data }] : Array Edge) from by simp) rfl
        have k1 : l1 = true := hdep { on := 1, ground := .data } (show _ ∈ (#[{ on := 0, ground := .data }, { on := 1, ground := .data }, { on := 10, ground := .data }] : Array Edge) from by simp) rfl
        have k10 : l10 = true := hdep { on := 10, ground := .data } (show _ ∈ (#[{ on := 0, ground := .data }, { on := 1, ground := .data }, { on := 10, ground := .data }] : Array Edge) from by simp) rfl
        obtain ⟨k2, k7, k9⟩ := h10 k10
        have k6 := h7 k7
        obtain ⟨k3, k5⟩ := h6 k6
        have k4 := h5 k5
        have k8 := h9 k9
        subst k0 k1 k2 k3 k4 k5 k6 k7 k8 k9 k10
        simp at hm
      | 12, _ =>
        exfalso
        obtain rfl := Option.some.inj ho.symm
        have k11 : false = true := hdep { on := 11, ground := .data } (show _ ∈ (#[{ on := 11, ground := .data }] : Array Edge) from by simp) rfl
        cases k11
end
end Go.Proofs.Ythalhidebkhclaa
