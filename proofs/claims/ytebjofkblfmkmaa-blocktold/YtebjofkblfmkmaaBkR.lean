/- How regions that draw are walked; bytes cut out and copied. -/
import Derived.Test.YtebjofkblfmkmaaBkB
import Derived.Test.YtebjofkblfmkmaaBkQ
import Derived.OrdersHeld
import Derived.Deep.Cut
import Derived.Deep.CutRange
import Derived.Laws.CopyRow
namespace Go.Proofs.Ytebjofkblfmkmaa
open Go.RowKit Go.Proofs.Ty Go.Proofs.Bits
set_option linter.unusedVariables false
set_option maxRecDepth 1000000
set_option linter.unusedSimpArgs false
theorem wpOp_run {ops : Array Oper} {Q : Exit → Act → World → Prop} {K : Act → World → Prop} {a : Act} {w : World} {i : Nat} {o : Oper} (hi : ops[i]? = some o) (hg : o.guard = none) (h : o.wp Try.prog a w K Q) : wpOp Try.prog ops Q i K a w := by
  unfold Go.wpOp
  simp only [hi]
  rw [if_pos (by simp [Region.wanted, hg])]
  exact .inl h
theorem wp_call_fn {o : Oper} {a : Act} {w : World} {K : Act → World → Prop} {Q : Exit → Act → World → Prop} (g : Nat) (args : Array Value) (hr : (execOp a.eval o).run Try.prog w = .ok (.enter g args) w)
    (h : Calls Try.prog g args w fun
      | .returned v, w'' => K (a.put o.dst v) w''
      | .panicked chain, w'' => Q (.panic chain) a w''
      | .outgrown, _ => LetsOut Q) : o.wp Try.prog a w K Q := by
  unfold Oper.wp
  rw [hr]
  exact h
theorem exec_load {a : Act} {o : Oper} {x : Operand} {ty : TypeId} {ad : Addr} {v : Value} {w : World} (ho : o.op = .load ty x) (hx : a.eval x = .pointer (some ad)) (hr : (loadVar ty ad).run Try.prog w = .ok v w) :
    (execOp a.eval o).run Try.prog w = .ok (.value v) w := by
  unfold execOp
  simp only [ho, hx, Instr.loadAt, Instr.sureAddr, Sem.run_bind, Sem.run_pure, Result.andThen_ok, hr]
theorem load_int (x : World) (D k : Nat) (z : Int) (hc : x.cell? ⟨D, k, none⟩ = some (.int .i64 z)) : (loadVar 3 ⟨D, k, none⟩).run Try.prog x = .ok (.int .i64 z) x := by
  simp [go_sem, run_underlying Try.underlying3, hc]
theorem load_u8 (x : World) (D k : Nat) (z : Int) (hc : x.cell? ⟨D, k, none⟩ = some (.int .u8 z)) : (loadVar 5 ⟨D, k, none⟩).run Try.prog x = .ok (.int .u8 z) x := by
  simp [go_sem, run_underlying Try.underlying5, hc]
theorem load_bytes (x : World) (D k : Nat) (ao : Option Addr) (l c : Nat) (hc : x.cell? ⟨D, k, none⟩ = some (.slice ao l c)) : (loadVar 22 ⟨D, k, none⟩).run Try.prog x = .ok (.slice ao l c) x := by
  simp [go_sem, run_underlying Try.underlying22, hc]
theorem wpOp_runw {ops : Array Oper} {Q : Exit → Act → World → Prop} {K : Act → World → Prop} {a : Act} {w : World} {i : Nat} {o : Oper} (hi : ops[i]? = some o) (hg : Region.wanted o (yielded ops a.tmps) = true) (h : o.wp Try.prog a w K Q) : wpOp Try.prog ops Q i K a w := by
  unfold Go.wpOp
  simp only [hi]
  rw [if_pos hg]
  exact .inl h
theorem exec_idx8 {a : Act} {o : Oper} {s i : Operand} {b k : Nat} (ho : o.op = .indexAddr 30 s i) (hs : a.eval s = .pointer (some ⟨b, 0, none⟩)) (hi : a.eval i = .int .i64 (k : Int)) (hk : k < 8) (w : World) : (execOp a.eval o).run Try.prog w = .ok (.value (.pointer (some ⟨b, k, none⟩))) w := by
  have h1 : (0 : Int) ≤ (k : Int) := by omega
  have h2 : (k : Int) < 8 := by omega
  have hu : (Try.prog.info? 5).map (·.size) = some 1 := by kernel_rfl
  obtain ⟨i0, hi0, hz0⟩ : ∃ i, Try.prog.info? 5 = some i ∧ i.size = 1 := by
    cases hh : Try.prog.info? 5 with
    | none => rw [hh] at hu; cases hu
    | some i => rw [hh] at hu; simp at hu; exact ⟨i, rfl, hu⟩
  unfold execOp
  simp only [ho, hs, hi]
  simp [go_sem, run_underlying Try.underlying30, sizeOf, typeInfo, hi0, hz0, h1, h2, Addr.add_mid]
theorem exec_slice8t {a : Act} {o : Oper} {x y : Operand} {k lo : Nat} (ho : o.op = .slice 30 x (some y) none none) (hx : a.eval x = .pointer (some ⟨k, 0, none⟩)) (hy : a.eval y = .int .i64 (lo : Int)) (h3 : lo < 8) (w : World) : (execOp a.eval o).run Try.prog w = .ok (.value (.slice (some ⟨k, lo, none⟩) (8 - lo) (8 - lo))) w := by
  have hr := sl8t k lo h3 w
  unfold execOp
  simp only [ho, hx, hy, Option.map_some, Option.map_none, Sem.run_bind, hr, Result.andThen_ok, Sem.run_pure]
theorem wp_copy8 {o : Oper} {a : Act} {w w' : World} {K : Act → World → Prop} {Q : Exit → Act → World → Prop} {t t' : TypeId} {v u v' : Value} (hr : (Builtin.copy_ #[t, t'] o.type #[v, u]).run Try.prog w = .ok v' w') (d s : Operand) (ho : o.op = .call { callee := .builtin .copy, args := #[d, s], argTypes := #[t, t'] }) (hd : a.eval d = v) (hs : a.eval s = u) (h : K (a.put o.dst v') w') : o.wp Try.prog a w K Q := by
  unfold Oper.wp execOp
  simp only [ho, resolve, invoke, builtin, Sem.run_bind, Sem.run_pure, Result.andThen_ok, List.map_toArray, List.map_cons, List.map_nil, hd, hs, hr]
  exact h
theorem slBt {w : World} {ops : Array Oper} {rest : List Oper} {Q : Exit → Act → World → Prop} {a : Act} {o : Oper} {v u lo' : Value} (hr : ∀ W, (Instr.sliceAt 22 v (some lo') none none).run Try.prog W = .ok u W) (hgd : Region.wanted o (yielded ops a.tmps) = true) (x lov : Operand) (ho : o.op = .slice 22 x (some lov) none none) (hx : a.eval x = v) (hlo : a.eval lov = lo')
    (hh : wpList Try.prog ops Q rest (a.put o.dst u) w) : wpList Try.prog ops Q (o :: rest) a w := by
  refine BigFrame.wpList_want hgd fun K hK => ?_
  have h2 := hK _ _ hh
  have hr := hr w
  unfold Oper.wp execOp
  simp only [ho, hx, hlo, Option.map_some, Option.map_none, Sem.run_bind, hr, Result.andThen_ok, Sem.run_pure]
  exact h2
theorem wp_cut {α : Type} {c : Code} {a : Act} {w : World} {Q' : Exit → Act → World → Prop} (I : α → World → Prop) (F : Act → α → Act) (h1 : c.wp Try.prog (fun e b y => e = .normal ∧ ∃ u, b = F a u ∧ I u y) a w) (h2 : ∀ u y, I u y → Q' .normal (F a u) y) : c.wp Try.prog Q' a w :=
  Code.wp_mono (fun e b y h => by obtain ⟨rfl, u, rfl, hI⟩ := h; exact h2 u y hI) h1
def ofL (l : List UInt8) : F8 := ⟨l.getD 0 0, l.getD 1 0, l.getD 2 0, l.getD 3 0, l.getD 4 0, l.getD 5 0, l.getD 6 0, l.getD 7 0⟩
theorem len8 {l : List UInt8} (h : l.length = 8) : ∃ a b c d e f g i, l = [a, b, c, d, e, f, g, i] := by
  match l, h with
  | [a, b, c, d, e, f, g, i], _ => exact ⟨a, b, c, d, e, f, g, i, rfl⟩
theorem ofL_arr {l : List UInt8} (h : l.length = 8) : (ofL l).arr = (Lib.byteCells l).toArray := by
  obtain ⟨a, b, c, d, e, f, g, i, rfl⟩ := len8 h
  simp [ofL, F8.arr, F8.c, Lib.byteCells]
theorem F8.arr_l (f : F8) : f.arr = (Lib.byteCells f.l).toArray := by simp [F8.arr, F8.c, F8.l, Lib.byteCells]
theorem F8.l_len (f : F8) : f.l.length = 8 := rfl
def F8.put (f : F8) (o : Nat) (l : List UInt8) : F8 := ofL (f.l.take o ++ l ++ f.l.drop (o + l.length))
theorem put_len (f : F8) (o : Nat) (l : List UInt8) (h : o + l.length ≤ 8) : (f.l.take o ++ l ++ f.l.drop (o + l.length)).length = 8 := by
  simp [F8.l_len]
  omega
theorem copy8 (w : World) (g o : Nat) (f : F8) (hg : Qb g f w) (ho : o < 8) (ao : Option Addr) (n cp : Nat) (l : List UInt8) (hn : l.length = n) (hB : Bytes w (.slice ao n cp) l) :
    ∃ w', (∀ ty, (Builtin.copy_ #[22, 22] ty #[.slice (some ⟨g, o, none⟩) (8 - o) (8 - o), .slice ao n cp]).run Try.prog w = .ok (.int .i64 ((min n (8 - o) : Nat) : Int)) w') ∧ Qb g (f.put o (l.take (8 - o))) w' ∧ Kp [g] w w' := by
  subst hn
  obtain ⟨ao', cap', hv, h0, hc⟩ := hB
  injection hv with e1 _ e3
  subst e1 e3
  have hi1 : (Try.prog.info? 5).map (·.size) = some 1 := by kernel_rfl
  cases ao with
  | none =>
    obtain ⟨rfl, rfl⟩ := h0 rfl
    obtain ⟨i0, hi0, hz0⟩ := u8size
    refine ⟨w, fun ty => ?_, ?_, Kp.refl _ _⟩
    · simp [Builtin.copy_, run_underlying Try.underlying22, Builtin.lenOf, Builtin.firstCells, sizeOf, typeInfo, hi0, hz0, go_sem]
    · have : f.put o (([] : List UInt8).take (8 - o)) = f := by
        simp [F8.put]
        rfl
      rw [this]
      exact hg
  | some ad =>
    have hm : (l.take (8 - o)).length = min l.length (8 - o) := by rw [List.length_take]; omega
    have hcs : (Lib.byteCells (l.take (8 - o))).length = min l.length (8 - o) := by rw [Lib.byteCells_length, hm]
    refine ⟨_, fun ty => ?_, ?_, Kp.setRow1 w g ((f.arr.toList.take o ++ Lib.byteCells (l.take (8 - o)) ++ f.arr.toList.drop (o + (Lib.byteCells (l.take (8 - o))).length)).toArray)⟩
    · have := run_copy_row (P := Try.prog) w 22 22 ty 5 g o (8 - o) (8 - o) ad l.length cp f.arr 30 (Lib.byteCells (l.take (8 - o))) Try.underlying22 hi1 hg (by rw [hcs]; try rfl) (fun j v hv => by
        have hj : j < (l.take (8 - o)).length := by have := (List.getElem?_eq_some_iff.1 hv).1; rwa [Lib.byteCells_length] at this
        have hjl : j < l.length := by rw [hm] at hj; omega
        obtain ⟨b, off, ha, _, hcell⟩ := hc j hjl
        injection ha with ha
        subst ha
        rw [add_off, hcell]
        have hv2 : (Lib.byteCells (l.take (8 - o)))[j]? = some (.int .u8 (l[j].toNat : Int)) := by
          simp [Lib.byteCells, List.getElem?_take, hjl]
          rw [hm] at hj
          omega
        exact (hv2.symm.trans hv)) (by rw [hcs, f.size]; omega) (fun v hv => byteCells_one _ v hv)
      rw [this, hcs]
      rfl
    · have hl8 := put_len f o (l.take (8 - o)) (by rw [hm]; omega)
      have e : (F8.put f o (l.take (8 - o))).arr = (f.arr.toList.take o ++ Lib.byteCells (l.take (8 - o)) ++ f.arr.toList.drop (o + (Lib.byteCells (l.take (8 - o))).length)).toArray := by
        unfold F8.put
        rw [ofL_arr hl8, f.arr_l]
        simp [Lib.byteCells, List.map_take, List.map_drop]
      rw [← e]
      exact hg.row _
theorem wpList_copy8 (w : World) {ops : Array Oper} {rest : List Oper} {o : Oper} {a : Act} {Q : Exit → Act → World → Prop} (hgd : o.guard = none) (d s : Operand) (t t' : TypeId)
    (ho : o.op = .call { callee := .builtin .copy, args := #[d, s], argTypes := #[t, t'] }) (v u : Value) (hd : a.eval d = v) (hs : a.eval s = u) {v' : Value} {w' : World}
    (hr : (Builtin.copy_ #[t, t'] o.type #[v, u]).run Try.prog w = .ok v' w') (h : wpList Try.prog ops Q rest (a.put o.dst v') w') : wpList Try.prog ops Q (o :: rest) a w :=
  wpList_plain hgd fun K hK => by
    have h2 := hK _ _ h
    unfold Oper.wp execOp
    simp only [ho, resolve, invoke, builtin, Sem.run_bind, Sem.run_pure, Result.andThen_ok, List.map_toArray, List.map_cons, List.map_nil, hd, hs, hr]
    exact h2
theorem Qb.bytes {k : Nat} {q : F8} {w : World} (h : Qb k q w) (lo n : Nat) (h2 : lo + n ≤ 8) (h3 : lo < 8) : Bytes w (.slice (some ⟨k, lo, none⟩) n (8 - lo)) ((q.l.drop lo).take n) := by
  have hl : ((q.l.drop lo).take n).length = n := by rw [List.length_take, List.length_drop]; show min n (8 - lo) = n; omega
  refine ⟨some ⟨k, lo, none⟩, 8 - lo, by rw [hl], fun h => (by cases h), fun j hj => ⟨k, lo, rfl, h.lt, ?_⟩⟩
  rw [hl] at hj
  rw [Lib.cell_of_heap h]
  rw [List.getElem_take, List.getElem_drop]
  have : ∀ m (hm : m < 8), q.arr[m]? = some (.int .u8 ((q.l[m]'(by exact hm)).toNat : Int)) := by
    intro m hm
    obtain rfl | rfl | rfl | rfl | rfl | rfl | rfl | rfl : m = 0 ∨ m = 1 ∨ m = 2 ∨ m = 3 ∨ m = 4 ∨ m = 5 ∨ m = 6 ∨ m = 7 := by omega
    all_goals rfl
  exact this (lo + j) (by omega)
theorem part8F (A : Array Value) (k : Nat) (v : Value) (h : A[k]? = some v) (w : World) : (part 5 A k).run Try.prog w = .ok v w := by
  obtain ⟨i0, hi0, hz0⟩ := u8size
  simp [part, isAgg, run_underlying Try.underlying5, sizeOf, typeInfo, hi0, hz0, h, go_sem]
theorem eq8F (f : F8) (d : Nat) (w : World) : (Op.equalIn (d + 2) 30 (.agg f.arr) (.agg f.arr)).run Try.prog w = .ok true w := by
  obtain ⟨i0, hi0, hz0⟩ := u8size
  have hg : ∀ k, k < 8 → ∃ z : Int, f.arr[k]? = some (.int .u8 z) := fun k hk => by
    obtain rfl | rfl | rfl | rfl | rfl | rfl | rfl | rfl : k = 0 ∨ k = 1 ∨ k = 2 ∨ k = 3 ∨ k = 4 ∨ k = 5 ∨ k = 6 ∨ k = 7 := by omega
    all_goals exact ⟨_, rfl⟩
  have he : ∀ k, k < 8 → ∃ v, (part 5 f.arr k).run Try.prog w = .ok v w ∧ (Op.equalIn (d + 1) 5 v v).run Try.prog w = .ok true w := fun k hk => by
    obtain ⟨z, hz⟩ := hg k hk
    refine ⟨_, part8F _ k _ hz w, ?_⟩
    rw [run_equalIn_int w d 5 .u8 .u8 z z Try.underlying5]
    simp
  obtain ⟨v0, p0, q0⟩ := he 0 (by omega)
  obtain ⟨v1, p1, q1⟩ := he 1 (by omega)
  obtain ⟨v2, p2, q2⟩ := he 2 (by omega)
  obtain ⟨v3, p3, q3⟩ := he 3 (by omega)
  obtain ⟨v4, p4, q4⟩ := he 4 (by omega)
  obtain ⟨v5, p5, q5⟩ := he 5 (by omega)
  obtain ⟨v6, p6, q6⟩ := he 6 (by omega)
  obtain ⟨v7, p7, q7⟩ := he 7 (by omega)
  generalize f.arr = A at *
  rw [Op.equalIn]
  have hr : List.range' 0 8 1 = [0, 1, 2, 3, 4, 5, 6, 7] := by decide
  simp [Sem.run_bind, run_underlying Try.underlying30, sizeOf, typeInfo, hi0, hz0, hr, p0, q0, p1, q1, p2, q2, p3, q3, p4, q4, p5, q5, p6, q6, p7, q7]
theorem sl8 (k lo hi : Nat) (h1 : lo ≤ hi) (h2 : hi ≤ 8) (h3 : lo < 8) (W : World) : (Instr.sliceAt 30 (.pointer (some ⟨k, 0, none⟩)) (some (.int .i64 (lo : Int))) (some (.int .i64 (hi : Int))) none).run Try.prog W = .ok (.slice (some ⟨k, lo, none⟩) (hi - lo) (8 - lo)) W := by
  obtain ⟨i0, hi0, hz0⟩ := u8size
  have e1 : (0 : Int) ≤ (lo : Int) := by omega
  have e2 : (lo : Int) ≤ (hi : Int) := by omega
  have e3 : (hi : Int) ≤ 8 := by omega
  have e4 : ¬ (8 : Int) < (hi : Int) := by omega
  have e5 : ¬ (hi : Int) < (lo : Int) := by omega
  have e6 : ¬ (lo : Int) < 0 := by omega
  have e7 : ¬ (hi : Int) < 0 := by omega
  unfold Instr.sliceAt
  simp [go_sem, run_underlying Try.underlying30, sizeOf, typeInfo, hi0, hz0, e1, e2, e3, e4, e5, e6, e7, Addr.add_mid]
  rw [if_pos h1, if_neg (by omega)]
theorem exec_slice8 {a : Act} {o : Oper} {x y z : Operand} {k lo hi : Nat} (ho : o.op = .slice 30 x (some y) (some z) none) (hx : a.eval x = .pointer (some ⟨k, 0, none⟩)) (hy : a.eval y = .int .i64 (lo : Int)) (hz : a.eval z = .int .i64 (hi : Int)) (h1 : lo ≤ hi) (h2 : hi ≤ 8) (h3 : lo < 8) (w : World) : (execOp a.eval o).run Try.prog w = .ok (.value (.slice (some ⟨k, lo, none⟩) (hi - lo) (8 - lo))) w := by
  have hr := sl8 k lo hi h1 h2 h3 w
  unfold execOp
  simp only [ho, hx, hy, hz, Option.map_some, Option.map_none, Sem.run_bind, hr, Result.andThen_ok, Sem.run_pure]
theorem exec_slice8n {a : Act} {o : Oper} {x y z : Operand} {k lo hi n c : Nat} (ho : o.op = .slice 30 x (some y) (some z) none) (hx : a.eval x = .pointer (some ⟨k, 0, none⟩)) (hy : a.eval y = .int .i64 (lo : Int)) (hz : a.eval z = .int .i64 (hi : Int)) (h1 : lo ≤ hi) (h2 : hi ≤ 8) (h3 : lo < 8) (hn : hi - lo = n) (hc : 8 - lo = c) (w : World) : (execOp a.eval o).run Try.prog w = .ok (.value (.slice (some ⟨k, lo, none⟩) n c)) w := by
  subst hn hc
  exact exec_slice8 ho hx hy hz h1 h2 h3 w
end Go.Proofs.Ytebjofkblfmkmaa
