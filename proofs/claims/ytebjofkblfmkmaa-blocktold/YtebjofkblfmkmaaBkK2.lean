/- The document's receiver: Feed. -/
import Derived.Test.YtebjofkblfmkmaaBkK1
namespace Go.Proofs.Ytebjofkblfmkmaa
open Go.RowKit Go.Proofs.Ty Go.Proofs.Bits
set_option linter.unusedVariables false
set_option maxRecDepth 1000000
set_option linter.unusedSimpArgs false
theorem dfeedR_results {Q : Nat} {f : F8} {b : Bool} {w : World} (h : Qb Q f w) (tmps : Array Value) (h2 : tmps[4]?.getD undef = .pointer (some ⟨Q, 0, none⟩)) (h3 : tmps[5]?.getD undef = .bool b) :
    (results Try.f16 tmps).run Try.prog w = .ok (.tuple #[.agg f.arr, .bool b]) w := by
  have l0 := h.load
  simp [Go.results, Try.results16, h2, h3, asAddr, l0]
theorem own_low {w : World} {B C e c n : Nat} {v : Value} {xs : List Value} (h : w.ownsRow B e c v n xs) (hC : C ≤ B) : w.ownsRow C e c v n xs := by
  refine ⟨h.1, ?_⟩
  rcases h.2 with h2 | ⟨g, cap, cur, hv, hB, rest⟩
  · exact .inl h2
  · exact .inr ⟨g, cap, cur, hv, Nat.le_trans hC hB, rest⟩
theorem Qb.tail {p : Nat} {f : F8} {w : World} (h : Qb p f w) : Bytes w (.slice (some ⟨p, 1, none⟩) 7 7) (f.l.drop 1) := by
  refine ⟨some ⟨p, 1, none⟩, 7, rfl, (fun h => by cases h), fun k hk => ⟨p, 1, rfl, h.lt, ?_⟩⟩
  rw [Lib.cell_of_heap h]
  have hk7 : k < 7 := hk
  match k, hk7 with
  | 0, _ => rfl
  | 1, _ => rfl
  | 2, _ => rfl
  | 3, _ => rfl
  | 4, _ => rfl
  | 5, _ => rfl
  | 6, _ => rfl
theorem wp_loadG {o : Oper} {a : Act} {w : World} {K : Act → World → Prop} {Q : Exit → Act → World → Prop} {ty : TypeId} {x : Operand} {ad : Addr} {v : Value} (ho : o.op = .load ty x) (hx : a.eval x = .pointer (some ad)) (hr : (loadVar ty ad).run Try.prog w = .ok v w) (h : K (a.put o.dst v) w) : o.wp Try.prog a w K Q := by
  unfold Oper.wp execOp
  simp only [ho, hx, Instr.loadAt, Instr.sureAddr, Sem.run_bind, Sem.run_pure, Result.andThen_ok, hr]
  exact h
theorem exec_quoU {a : Act} {o : Oper} {x y : Operand} {m k : Nat} (ho : o.op = .binOp .quo 5 x y 5) (hx : a.eval x = .int .u8 (m : Int)) (hy : a.eval y = .int .u8 (k : Int)) (h : m < 256) (hk : 0 < k) (hk2 : k < 256) (w : World) : (execOp a.eval o).run Try.prog w = .ok (.value (.int .u8 ((m / k : Nat) : Int))) w := by
  unfold execOp
  simp only [ho, hx, hy]
  have e0 : ¬ (k : Int) = 0 := by omega
  have e3 : m / k < 256 := Nat.lt_of_le_of_lt (Nat.div_le_self _ _) h
  have e4 : ∀ r : Nat, r < 256 → IntKind.u8.wrap (r : Int) = (r : Int) := fun r h => by simp [IntKind.wrap, IntKind.bits, IntKind.signed]; omega
  have e2 := e4 _ e3
  have e : Int.tdiv (m : Int) (k : Int) = ((m / k : Nat) : Int) := rfl
  simp only [go_sem, run_underlying Try.underlying5, e0, e, e2]
  simp [e0, e, e2, go_sem]
theorem exec_remU {a : Act} {o : Oper} {x y : Operand} {m k : Nat} (ho : o.op = .binOp .rem 5 x y 5) (hx : a.eval x = .int .u8 (m : Int)) (hy : a.eval y = .int .u8 (k : Int)) (h : m < 256) (hk : 0 < k) (hk2 : k < 256) (w : World) : (execOp a.eval o).run Try.prog w = .ok (.value (.int .u8 ((m % k : Nat) : Int))) w := by
  unfold execOp
  simp only [ho, hx, hy]
  have e0 : ¬ (k : Int) = 0 := by omega
  have e3 : m % k < 256 := Nat.lt_of_le_of_lt (Nat.mod_le _ _) h
  have e4 : ∀ r : Nat, r < 256 → IntKind.u8.wrap (r : Int) = (r : Int) := fun r h => by simp [IntKind.wrap, IntKind.bits, IntKind.signed]; omega
  have e2 := e4 _ e3
  have e : Int.tmod (m : Int) (k : Int) = ((m % k : Nat) : Int) := rfl
  simp only [go_sem, run_underlying Try.underlying5, e0, e, e2]
  simp [e0, e, e2, go_sem]
theorem exec_lssF {a : Act} {o : Oper} {x y : Operand} {m : Nat} (ho : o.op = .binOp .lss 3 x y 3) (hx : a.eval x = .int .i64 (m : Int)) (hy : a.eval y = .int .i64 0) (w : World) : (execOp a.eval o).run Try.prog w = .ok (.value (.bool false)) w := by
  unfold execOp
  simp only [ho, hx, hy]
  simp [go_sem, run_underlying Try.underlying3]
theorem exec_gtrB {a : Act} {o : Oper} {x y : Operand} {m k : Nat} {b : Bool} (ho : o.op = .binOp .gtr 3 x y 3) (hx : a.eval x = .int .i64 (m : Int)) (hy : a.eval y = .int .i64 (k : Int)) (hb : decide (k < m) = b) (w : World) : (execOp a.eval o).run Try.prog w = .ok (.value (.bool b)) w := by
  unfold execOp
  simp only [ho, hx, hy]
  have e : decide ((k : Int) < (m : Int)) = b := by rw [← hb]; simp
  simp [go_sem, run_underlying Try.underlying3, ← hb]
theorem exec_neqB {a : Act} {o : Oper} {x y : Operand} {m k : Nat} {b : Bool} (ho : o.op = .binOp .neq 3 x y 3) (hx : a.eval x = .int .i64 (m : Int)) (hy : a.eval y = .int .i64 (k : Int)) (hb : ((m : Int) != (k : Int)) = b) (w : World) : (execOp a.eval o).run Try.prog w = .ok (.value (.bool b)) w := by
  unfold execOp
  simp only [ho, hx, hy]
  simp [go_sem, run_underlying Try.underlying3, ← hb]
theorem exec_pickT {a : Act} {o : Oper} {x y z : Operand} (v : Value) (ho : o.op = .pick x y z) (hx : a.eval x = .bool true) (hy : a.eval y = v) (w : World) : (execOp a.eval o).run Try.prog w = .ok (.value v) w := by
  unfold execOp
  simp only [ho, hx, hy]
  simp [go_sem]
theorem exec_pickF {a : Act} {o : Oper} {x y z : Operand} (v : Value) (ho : o.op = .pick x y z) (hx : a.eval x = .bool false) (hz : a.eval z = v) (w : World) : (execOp a.eval o).run Try.prog w = .ok (.value v) w := by
  unfold execOp
  simp only [ho, hx, hz]
  simp [go_sem]
theorem exec_conv16 {a : Act} {o : Oper} {x : Operand} {m : Nat} (ho : o.op = .convert 54 3 x) (hx : a.eval x = .int .u16 (m : Int)) (hm : m < 65536) (w : World) : (execOp a.eval o).run Try.prog w = .ok (.value (.int .i64 (m : Int))) w := by
  unfold execOp
  simp only [ho, hx]
  have e : IntKind.i64.wrap (m : Int) = (m : Int) := by simp [IntKind.wrap, IntKind.bits, IntKind.signed]; omega
  simp [go_sem, run_underlying Try.underlying3, run_underlying Try.underlying54, e]
theorem exec_256mul {a : Act} {o : Oper} {x y : Operand} {m : Nat} (ho : o.op = .binOp .mul 3 x y 3) (hx : a.eval x = .int .i64 256) (hy : a.eval y = .int .i64 (m : Int)) (h : m < 100000) (w : World) : (execOp a.eval o).run Try.prog w = .ok (.value (.int .i64 ((256 * m : Nat) : Int))) w := by
  unfold execOp
  simp only [ho, hx, hy]
  have e : IntKind.i64.wrap (256 * (m : Int)) = ((256 * m : Nat) : Int) := by simp [IntKind.wrap, IntKind.bits, IntKind.signed]; omega
  simp [go_sem, run_underlying Try.underlying3, e]
theorem exec_addN {a : Act} {o : Oper} {x y : Operand} {m n k : Nat} (ho : o.op = .binOp .add 3 x y 3) (hx : a.eval x = .int .i64 (m : Int)) (hy : a.eval y = .int .i64 (n : Int)) (hk : m + n = k) (hm : m < 1000000) (hn : n < 100000000) (w : World) : (execOp a.eval o).run Try.prog w = .ok (.value (.int .i64 (k : Int))) w := by
  unfold execOp
  simp only [ho, hx, hy]
  have e : IntKind.i64.wrap ((m : Int) + (n : Int)) = (k : Int) := by simp [IntKind.wrap, IntKind.bits, IntKind.signed]; omega
  simp [go_sem, run_underlying Try.underlying3, e]
theorem run_cutA (ad : Addr) (L cap n : Nat) (hn : n ≤ cap) (W : World) : (Instr.sliceAt 22 (.slice (some ad) L cap) none (some (.int .i64 (n : Int))) none).run Try.prog W = .ok (.slice (some ad) n cap) W := by
  obtain ⟨i0, hi0, hz0, hz1, hz2⟩ := info_parts info5
  have a0 : (0 : Int) ≤ (n : Int) := by omega
  have a2 : (n : Int) ≤ (cap : Int) := by omega
  by_cases hc : cap = 0
  · subst hc
    have hn0 : n = 0 := by omega
    subst hn0
    simp [Instr.sliceAt, run_underlying Try.underlying22, go_sem, sizeOf, typeInfo, hi0, hz1, Addr.add]
  · simp [Instr.sliceAt, run_underlying Try.underlying22, go_sem, sizeOf, typeInfo, hi0, hz1, Addr.add, a0, a2, hc]
theorem exec_cutA {a : Act} {o : Oper} {x y : Operand} {ad : Addr} {L cap n : Nat} (ho : o.op = .slice 22 x none (some y) none) (hx : a.eval x = .slice (some ad) L cap) (hy : a.eval y = .int .i64 (n : Int)) (hn : n ≤ cap) (w : World) : (execOp a.eval o).run Try.prog w = .ok (.value (.slice (some ad) n cap)) w := by
  have hr := run_cutA ad L cap n hn w
  unfold execOp
  simp only [ho, hx, hy, Option.map_some, Option.map_none, Sem.run_bind, hr, Result.andThen_ok, Sem.run_pure]
theorem enRC : ∀ args x, (callFunc 32 args).run Try.prog x = .ok (.enter 32 args) x := fun _ _ => by rfl
end Go.Proofs.Ytebjofkblfmkmaa
