/- The yield of pieces. -/
import Derived.Test.YthalhidebkhclaaPdF
namespace Go.Proofs.Ythalhidebkhclaa
open Go.RowKit Go.Shelf Go.Proofs.Ty
set_option linter.unusedVariables false
set_option maxRecDepth 1000000
set_option linter.unusedSimpArgs false
/-- What stands behind the yield. -/
def pcB (q0 zz Bb lo hi : Nat) (e : Int) (s : Sl) (t0 t1 t6 t7 t8 t9 vy vb vp : Value) (t : Bool) : Act := { tmps := #[t0, t1, .pointer (some ⟨Bb, 0, none⟩), .pointer (some ⟨q0, 0, none⟩), .pointer (some ⟨zz, 0, none⟩), .int .i64 e, t6, t7, t8, t9, vy, .agg s.arr, vb, .int .i64 e, .pointer (some ⟨zz, 2, none⟩), .int .i64 s.bt, .int .i64 (e - s.bt), .int .i64 (lo : Nat), .int .i64 e, .int .i64 (hi : Nat), vp, .bool t, .bool (!t)], defers := [] }
theorem step_run {n i : Nat} {P : Program} {ops : Array Oper} {o : Oper} {K : Act → World → Prop} {Q : Exit → Act → World → Prop} {a : Act} {w : World} (ho : ops[i]? = some o) (hw : Region.wanted o (yielded ops a.tmps) = true) (h : o.uponIn Fence.wide n P a K Q ((execOp a.eval o).run P w)) : wpOpIn Fence.wide n P ops Q i K a w := by
  unfold wpOpIn
  rw [ho]
  simp only [hw, if_true]
  exact ⟨fun _ _ => trivial, h⟩
theorem pc_leaf {n l : Nat} {Q : Exit → Act → World → Prop} {X : World} {q0 zz Bb lo hi : Nat} {e : Int} {s : Sl} {t0 t1 t6 t7 t8 t9 vb vp : Value} {R : Ending → World → Prop} (hY : YieldAt Fence.wide 0 Try.prog l #[.agg s.arr, vp] X R)
    (hR : ∀ en W', R en W' → ∃ t, en = .returned (.bool t) ∧ Q .normal (pcB q0 zz Bb lo hi e s t0 t1 t6 t7 t8 t9 (.func (.yield l) #[] #[]) vb vp t) W') :
    wpAnyIn Fence.wide n Try.prog .any pcOps Q 2 #[true, true, true, true, true, true, true, true, true, true, true, false, false] (pcA q0 zz Bb lo hi e s t0 t1 t6 t7 t8 t9 (.func (.yield l) #[] #[]) vb vp true true true true true true true true true true true) X := by
  obtain ⟨fn, tmps, assign, body, hy, hRd⟩ := hY
  refine wpAnyIn_all (rs := [11]) (by kernel_rfl) (by simp) ?_
  intro i hi
  simp only [List.mem_cons, List.mem_nil_iff, or_false] at hi
  subst hi
  have hx : ∀ a : Act, a.eval (.tmp 10) = .func (.yield l) #[] #[] → a.tmps[11]?.getD undef = .agg s.arr → a.tmps[20]?.getD undef = vp → (execOp a.eval (pcOps[11]'(by decide))).run Try.prog X = .ok (.round l fn tmps assign body) X := fun a h1 h2 h3 => by
    show (execOp a.eval { dst := some 21, op := .call { callee := .value (.tmp 10), args := #[.tmp 11, .tmp 20], argTypes := #[47, 24] }, type := 4, pos := _, after := _, guard := none }).run Try.prog X = _
    unfold execOp
    simp only [resolve, h1]
    simp [go_sem]
    rw [h2, h3, hy]
  refine step_run (o := pcOps[11]'(by decide)) rfl rfl ?_
  rw [hx _ rfl rfl rfl]
  refine ⟨fun h => (by cases h), RoundIn.mono (roundIn_any hRd) ?_⟩
  intro en W' hen
  obtain ⟨t, rfl, hq⟩ := hR en W' hen
  refine wpAnyIn_all (rs := [12]) (by kernel_rfl) (by simp) ?_
  intro i hi
  simp only [List.mem_cons, List.mem_nil_iff, or_false] at hi
  subst hi
  refine step_val (v := .bool (!t)) rfl rfl (by rfl) ?_
  exact wpAnyIn_done (by kernel_rfl) hq _
theorem pieces_in (F : Fence) (n : Nat) (hF : F.fn 19) (hro : F.round = none) (ao ab : Option Addr) (N cap nb cb : Nat) (w : World) :
    CallsIn F n Try.prog 19 #[.slice ao N cap, .slice ab nb cb] w fun e w' => e = .returned (.func (.func 36) #[] #[.pointer (some ⟨w.heap.size, 0, none⟩), .pointer (some ⟨w.heap.size + 1, 0, none⟩)]) ∧ w' = (w.alloc (.cells #[.slice ao N cap] 23)).alloc (.cells #[.slice ab nb cb] 24) := by
  refine callsIn_of_wp Try.func19 rfl hF ?_ hro
  simp only [Try.ntmps19, List.size_toArray, List.length_cons, List.length_nil, Nat.reduceAdd, Nat.reduceSub, Array.replicate_succ, Array.replicate_zero, List.push_toArray, List.append_toArray, List.nil_append, List.cons_append]
  gi_wp2
  go_ret
  exact ⟨by simp, rfl⟩
end Go.Proofs.Ythalhidebkhclaa
