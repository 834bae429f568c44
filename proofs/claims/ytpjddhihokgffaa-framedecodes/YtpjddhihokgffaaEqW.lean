/- Frames in regions with tests ahead of operations. -/
import Derived.Test.YtpjddhihokgffaaEq
namespace Go.Proofs.Ytpjddhihokgffaa
open Go.RowKit Go.Proofs.Bits
set_option linter.unusedVariables false
set_option maxRecDepth 1000000

theorem quiet_ldw {W : World} {ops : Array Oper} {rest : List Oper} {o : Oper} {a : Act} {Q : Act → Prop} {q : Nat} {f : Fr} (h : Fa q f W) (hgd : Region.wanted o (yielded ops a.tmps) = true) (x : Operand) (ho : o.op = .load 25 x) (hx : a.eval x = .pointer (some ⟨q, 0, none⟩))
    (hh : wpQuiet Try.prog ops (fun w' => ∃ x : Later W, w' = x.now) Q rest (a.put o.dst (.agg f.arr))) : wpQuiet Try.prog ops (fun w' => ∃ x : Later W, w' = x.now) Q (o :: rest) a := by
  unfold wpQuiet
  rw [if_pos hgd]
  refine ⟨.agg f.arr, ?_, hh⟩
  rintro w' ⟨y, rfl⟩
  have hl := (Later.fa h y).load
  unfold Oper.quietAt execOp
  simp only [ho, hx, Instr.loadAt, Instr.sureAddr, Sem.run_bind, Sem.run_pure, Result.andThen_ok, hl]
  exact ⟨rfl, rfl⟩
theorem quiet_eqw {W : World} {ops : Array Oper} {rest : List Oper} {o : Oper} {a : Act} {Q : Act → Prop} (f g : Fr) (hgd : Region.wanted o (yielded ops a.tmps) = true) (x y : Operand) (ho : o.op = .binOp .eql 25 x y 25) (hx : a.eval x = .agg f.arr) (hy : a.eval y = .agg g.arr)
    (hh : wpQuiet Try.prog ops (fun w' => ∃ x : Later W, w' = x.now) Q rest (a.put o.dst (.bool (frB f g)))) : wpQuiet Try.prog ops (fun w' => ∃ x : Later W, w' = x.now) Q (o :: rest) a := by
  unfold wpQuiet
  rw [if_pos hgd]
  refine ⟨.bool (frB f g), ?_, hh⟩
  rintro w' ⟨z, rfl⟩
  have hl := frEq f g z.now
  have hg : (eqGuard .eql 25 x y (.agg f.arr) (.agg g.arr)).run Try.prog z.now = .ok () z.now := run_eqGuard_agg z.now .eql 25 x y f.arr g.arr guardF
  unfold Oper.quietAt execOp
  simp only [ho, hx, hy, Sem.run_bind, Sem.run_pure, hg, Result.andThen_ok, hl]
  exact ⟨rfl, rfl⟩
theorem quiet_neqw {W : World} {ops : Array Oper} {rest : List Oper} {o : Oper} {a : Act} {Q : Act → Prop} (f g : Fr) (hgd : Region.wanted o (yielded ops a.tmps) = true) (x y : Operand) (ho : o.op = .binOp .neq 25 x y 25) (hx : a.eval x = .agg f.arr) (hy : a.eval y = .agg g.arr)
    (hh : wpQuiet Try.prog ops (fun w' => ∃ x : Later W, w' = x.now) Q rest (a.put o.dst (.bool (!frB f g)))) : wpQuiet Try.prog ops (fun w' => ∃ x : Later W, w' = x.now) Q (o :: rest) a := by
  unfold wpQuiet
  rw [if_pos hgd]
  refine ⟨.bool (!frB f g), ?_, hh⟩
  rintro w' ⟨z, rfl⟩
  have hl := frNeq f g z.now
  have hg : (eqGuard .neq 25 x y (.agg f.arr) (.agg g.arr)).run Try.prog z.now = .ok () z.now := run_eqGuard_agg z.now .neq 25 x y f.arr g.arr guardF
  unfold Oper.quietAt execOp
  simp only [ho, hx, hy, Sem.run_bind, Sem.run_pure, hg, Result.andThen_ok, hl]
  exact ⟨rfl, rfl⟩

end Go.Proofs.Ytpjddhihokgffaa
