/- A region that draws its order and whose calls make memory, but leave what was there: one walk, in the order of the text. -/
import Derived.Test.YthalhidebkhclaaTyRow
import Derived.Deep.Cut
import Derived.Deep.CutRange
namespace Go.Proofs.Ythalhidebkhclaa
open Go.RowKit Go.Proofs.Ty
set_option linter.unusedVariables false
set_option maxRecDepth 1000000

/-- A later world: what was there stands. -/
structure Later (w : World) where
  now : World
  below : Below w.heap.size w now
theorem Later.some (w : World) : Nonempty (Later w) := ⟨⟨w, Below.refl _ _⟩⟩
theorem wp_region_later {P : Program} {id : Nat} {Q : Exit → Act → World → Prop} {a : Act} {w : World} {l : List Oper} (hm : P.follows .mixedOrders = true) (hB : Region.lexB .any l.toArray = true)
    (h : wpQuiet P l.toArray (fun w' => ∃ x : Later w, w' = x.now) (fun a' => ∀ w', (∃ x : Later w, w' = x.now) → Q .normal a' w') l a) : (Code.region id l.toArray true).wp P Q a w :=
  wp_region_quiet (C := fun w' => ∃ x : Later w, w' = x.now) hm hB ⟨⟨{ w with drawn := w.drawn + 1 }, ⟨rfl, rfl, rfl, Nat.le_refl _, fun _ _ => rfl⟩⟩, rfl⟩ (by simpa using h)
theorem later {P : Program} {f : FuncId} {args : Array Value} {w : World} {x : Later w} {v : Value}
    (h : Calls P f args x.now fun e w' => e = .returned v ∧ Below x.now.heap.size x.now w') : Calls P f args x.now fun e w'' => e = .returned v ∧ ∃ y : Later w, w'' = y.now :=
  h.mono fun _ _ ⟨he, hb⟩ => ⟨he, ⟨_, x.below.trans (hb.mono x.below.size)⟩, rfl⟩
theorem laterS {P : Program} {f : FuncId} {args : Array Value} {w : World} {x : Later w} {v : Value}
    (h : Calls P f args x.now fun e w' => e = .returned v ∧ w' = x.now) : Calls P f args x.now fun e w'' => e = .returned v ∧ ∃ y : Later w, w'' = y.now :=
  h.mono fun _ _ ⟨he, hb⟩ => ⟨he, x, hb⟩
theorem Later.va {W : World} {q : Nat} {v : Vl} (h : Va q v W) (x : Later W) : Va q v x.now := (x.below.block q h.lt).trans h
theorem Later.text {W : World} {v : Value} {l : List UInt8} (h : Bytes W v l) (x : Later W) : (convert 24 9 v).run Try.prog x.now = .ok (.string ⟨l.toArray⟩) x.now := (h.below x.below).text
theorem quiet_ldv {W : World} {ops : Array Oper} {rest : List Oper} {o : Oper} {a : Act} {Q : Act → Prop} {q : Nat} {v : Vl} (h : Va q v W) (hgd : Region.wanted o (yielded ops a.tmps) = true) (x : Operand) (ho : o.op = .load 42 x) (hx : a.eval x = .pointer (some ⟨q, 0, none⟩))
    (hh : wpQuiet Try.prog ops (fun w' => ∃ x : Later W, w' = x.now) Q rest (a.put o.dst (.agg v.arr))) : wpQuiet Try.prog ops (fun w' => ∃ x : Later W, w' = x.now) Q (o :: rest) a := by
  unfold wpQuiet
  rw [if_pos hgd]
  refine ⟨.agg v.arr, ?_, hh⟩
  rintro w' ⟨y, rfl⟩
  have hl := (Later.va h y).load
  unfold Oper.quietAt execOp
  simp only [ho, hx, Instr.loadAt, Instr.sureAddr, Sem.run_bind, Sem.run_pure, Result.andThen_ok, hl]
  exact ⟨rfl, rfl⟩
theorem quiet_eqv {W : World} {ops : Array Oper} {rest : List Oper} {o : Oper} {a : Act} {Q : Act → Prop} (v u : Vl) (hgd : Region.wanted o (yielded ops a.tmps) = true) (x y : Operand) (ho : o.op = .binOp .eql 42 x y 42) (hx : a.eval x = .agg v.arr) (hy : a.eval y = .agg u.arr)
    (hh : wpQuiet Try.prog ops (fun w' => ∃ x : Later W, w' = x.now) Q rest (a.put o.dst (.bool (vlB v u)))) : wpQuiet Try.prog ops (fun w' => ∃ x : Later W, w' = x.now) Q (o :: rest) a := by
  unfold wpQuiet
  rw [if_pos hgd]
  refine ⟨.bool (vlB v u), ?_, hh⟩
  rintro w' ⟨z, rfl⟩
  have hl := vlEq v u z.now
  have hg : (eqGuard .eql 42 x y (.agg v.arr) (.agg u.arr)).run Try.prog z.now = .ok () z.now := run_eqGuard_agg z.now .eql 42 x y v.arr u.arr guardV
  unfold Oper.quietAt execOp
  simp only [ho, hx, hy, Sem.run_bind, Sem.run_pure, hg, Result.andThen_ok, hl]
  exact ⟨rfl, rfl⟩
theorem quiet_neqv {W : World} {ops : Array Oper} {rest : List Oper} {o : Oper} {a : Act} {Q : Act → Prop} (v u : Vl) (hgd : Region.wanted o (yielded ops a.tmps) = true) (x y : Operand) (ho : o.op = .binOp .neq 42 x y 42) (hx : a.eval x = .agg v.arr) (hy : a.eval y = .agg u.arr)
    (hh : wpQuiet Try.prog ops (fun w' => ∃ x : Later W, w' = x.now) Q rest (a.put o.dst (.bool (!vlB v u)))) : wpQuiet Try.prog ops (fun w' => ∃ x : Later W, w' = x.now) Q (o :: rest) a := by
  unfold wpQuiet
  rw [if_pos hgd]
  refine ⟨.bool (!vlB v u), ?_, hh⟩
  rintro w' ⟨z, rfl⟩
  have hl := vlNeq v u z.now
  have hg : (eqGuard .neq 42 x y (.agg v.arr) (.agg u.arr)).run Try.prog z.now = .ok () z.now := run_eqGuard_agg z.now .neq 42 x y v.arr u.arr guardV
  unfold Oper.quietAt execOp
  simp only [ho, hx, hy, Sem.run_bind, Sem.run_pure, hg, Result.andThen_ok, hl]
  exact ⟨rfl, rfl⟩
end Go.Proofs.Ythalhidebkhclaa
