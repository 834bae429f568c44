/- Steps of the statements on dictionaries. -/
import Derived.Test.YthalhidebkhclaaOMa
import Derived.Test.YthalhidebkhclaaTyL
namespace Go.Proofs.Ythalhidebkhclaa
open Go.RowKit Go.Proofs.Ty Go.Sort Go.Lib
set_option linter.unusedVariables false
set_option maxRecDepth 1000000
set_option linter.unusedSimpArgs false
theorem info_size {t : TypeId} {n : Nat} (h : (Try.prog.info? t).map (·.size) = some n) : ∃ i0, Try.prog.info? t = some i0 ∧ i0.size = n := by
  cases hh : Try.prog.info? t with
  | none => rw [hh] at h; cases h
  | some i0 => rw [hh] at h; exact ⟨i0, rfl, by simpa using h⟩
theorem exec_idxE {a : Act} {o : Oper} {s i : Operand} {b off n c k : Nat} (ho : o.op = .indexAddr 22 s i) (hs : a.eval s = .slice (some ⟨b, off, none⟩) n c) (hi : a.eval i = .int .i64 (k : Int)) (hk : k < n) (w : World) : (execOp a.eval o).run Try.prog w = .ok (.value (.pointer (some ⟨b, off + k * 14, none⟩))) w := by
  have h1 : (0 : Int) ≤ (k : Int) := by omega
  have h2 : (k : Int) < (n : Int) := by omega
  unfold execOp
  simp only [ho, hs, hi]
  obtain ⟨i0, hi0, hz0⟩ := info_size infoE
  simp [go_sem, run_underlying Try.underlying22, sizeOf, typeInfo, hi0, hz0, h1, h2, Addr.add_mid]
theorem load_bytes (x : World) (D k : Nat) (ao : Option Addr) (l c : Nat) (hc : x.cell? ⟨D, k, none⟩ = some (.slice ao l c)) : (loadVar 24 ⟨D, k, none⟩).run Try.prog x = .ok (.slice ao l c) x := by
  simp [go_sem, run_underlying Try.underlying24, hc]
theorem wp_allocV {o : Oper} {a : Act} {w : World} {K : Act → World → Prop} {Q : Exit → Act → World → Prop} (ho : o.op = .alloc 42) (h : K (a.put o.dst (.pointer (some ⟨w.heap.size, 0, none⟩))) (w.alloc (.cells Vl.nul.arr 42))) : o.wp Try.prog a w K Q := by
  obtain ⟨i0, hi0, hz0⟩ : ∃ i0, Try.prog.info? 42 = some i0 ∧ i0.zero = some (.agg Vl.nul.arr) := by
    have : (Try.prog.info? 42).map (·.zero) = some (some (.agg Vl.nul.arr)) := by kernel_rfl
    cases hh : Try.prog.info? 42 with
    | none => rw [hh] at this; cases this
    | some i0 => rw [hh] at this; exact ⟨i0, rfl, by simpa using this⟩
  unfold Oper.wp execOp
  simp [ho, go_sem, Instr.alloc, zeroValue, typeInfo, hi0, hz0, Value.cells]
  exact h
section
variable {w : World} {ops : Array Oper} {rest : List Oper} {o : Oper} {a : Act} {Q : Exit → Act → World → Prop}
theorem bs0E (hgd : Region.wanted o (yielded ops a.tmps) = true) (ho : o.op = .buildSlice 22 0 #[]) (hh : wpList Try.prog ops Q rest (a.put o.dst (.slice (some ⟨w.heap.size, 0, none⟩) 0 0)) (w.alloc (.cells #[] 59))) : wpList Try.prog ops Q (o :: rest) a w :=
  BigFrame.wpList_want hgd fun _ hK => wp_bs0g Try.underlying22 infoEz ho (hK _ _ hh)
theorem apE (hgd : Region.wanted o (yielded ops a.tmps) = true) (s x : Operand) (ho : o.op = .call { callee := .builtin .append, args := #[s, x], argTypes := #[22, 22] })
    (base : Nat) (v : Value) (xs : List En) (hs : a.eval s = v) (hown : w.ownsRow base 59 14 v xs.length (flatW DE xs))
    (vx : Value) (l : List En) (hx : a.eval x = vx) (hB : Wide 14 enC w vx l) (h63 : xs.length + l.length ≤ 1172812402927) (hbase : base ≤ w.heap.size)
    (h : ∀ v' w', w'.ownsRow base 59 14 v' (xs ++ l).length (flatW DE (xs ++ l)) → w.grownBy w' v.ownBlock → wpList Try.prog ops Q rest (a.put o.dst v') w') : wpList Try.prog ops Q (o :: rest) a w :=
  BigFrame.wpList_want hgd fun _ hK => wp_append_wide DE s x 22 59 _ 120 Try.underlying22 infoEz rfl ho base v xs hs hown vx l hx hB (by unfold maxLen; omega) (by omega) hbase fun v' w' h1 h2 => hK _ _ (h v' w' h1 h2)
end
theorem own0E (w : World) : (w.alloc (.cells #[] 59)).ownsRow w.heap.size 59 14 (.slice (some ⟨w.heap.size, 0, none⟩) 0 0) ([] : List En).length (flatW DE []) := own_empty_e w 59 14
end Go.Proofs.Ythalhidebkhclaa
