/- Contracts: the law's own copy of slots. -/
import Derived.Test.YthalhidebkhclaaPdO
import Derived.Test.YthalhidebkhclaaOlb
namespace Go.Proofs.Ythalhidebkhclaa
open Go.RowKit Go.Shelf Go.Proofs.Ty
set_option linter.unusedVariables false
set_option maxRecDepth 1000000
set_option linter.unusedSimpArgs false
theorem infoSz3 : (Try.prog.info? 47).map (fun i => (i.zero, i.size, i.bytes)) = some (some (.agg #[.int .u16 0, .int .u8 0, .int .i64 0]), 3, 16) := by kernel_rfl
section
variable {w : World} {ops : Array Oper} {rest : List Oper} {o : Oper} {a : Act} {Q : Exit → Act → World → Prop}
theorem bs0S (hgd : Region.wanted o (yielded ops a.tmps) = true) (ho : o.op = .buildSlice 23 0 #[]) (hh : wpList Try.prog ops Q rest (a.put o.dst (.slice (some ⟨w.heap.size, 0, none⟩) 0 0)) (w.alloc (.cells #[] 47))) : wpList Try.prog ops Q (o :: rest) a w :=
  BigFrame.wpList_want hgd fun _ hK => wp_bs0g Try.underlying23 infoSz3 ho (hK _ _ hh)
theorem apS (hgd : Region.wanted o (yielded ops a.tmps) = true) (s x : Operand) (ho : o.op = .call { callee := .builtin .append, args := #[s, x], argTypes := #[23, 23] })
    (base : Nat) (v : Value) (xs : List Sl) (hs : a.eval s = v) (hown : w.ownsRow base 47 3 v xs.length (flatW DS xs))
    (vx : Value) (l : List Sl) (hx : a.eval x = vx) (hB : Wide 3 slC w vx l) (h63 : xs.length + l.length ≤ 8796093022207) (hbase : base ≤ w.heap.size)
    (h : ∀ v' w', w'.ownsRow base 47 3 v' (xs ++ l).length (flatW DS (xs ++ l)) → w.grownBy w' v.ownBlock → wpList Try.prog ops Q rest (a.put o.dst v') w') : wpList Try.prog ops Q (o :: rest) a w :=
  BigFrame.wpList_want hgd fun _ hK => wp_append_wide DS s x 23 47 _ 16 Try.underlying23 infoSz3 rfl ho base v xs hs hown vx l hx hB (by unfold maxLen; omega) (by omega) hbase fun v' w' h1 h2 => hK _ _ (h v' w' h1 h2)
end
theorem own0S (w : World) : (w.alloc (.cells #[] 47)).ownsRow w.heap.size 47 3 (.slice (some ⟨w.heap.size, 0, none⟩) 0 0) ([] : List Sl).length (flatW DS []) := own_empty_e w 47 3
set_option maxHeartbeats 4000000 in
theorem own13_any {w : World} (v : Value) (L : List Sl) (hWd : Wide 3 slC w v L) (hL : L.length ≤ 8796093022000) :
    Calls Try.prog 9 #[v] w fun e w' => ∃ x, e = .returned x ∧ Wide 3 slC w' x L ∧ Below w.heap.size w w' ∧ (∀ b, x.ownBlock = some b → w.heap.size ≤ b) := by
  obtain ⟨ao, cap, hv⟩ := hWd.shape
  have b1 : Below w.heap.size w (w.alloc (.cells #[] 47)) := (Below.refl _ w).alloc (Nat.le_refl _) _
  have HW := hidOf (hWd.same b1.size (fun b _ hl => b1.block b hl))
  have HB1 := hidOf b1
  subst hv
  clear hWd b1
  go_enter Try.func9, Try.ntmps9
  go_wp2_with (first | (refine bs0S rfl rfl ?_) | (refine apS rfl _ _ rfl w.heap.size _ [] rfl (own0S w) _ L rfl HW.out (by simp; omega) HB1.out.size ?_; intro v' w' h1 h2; have HO := hidOf (And.intro h1 h2); clear h1 h2))
  obtain ⟨h1, h2⟩ := HO.out
  rw [List.nil_append] at h1
  have bY := HB1.out.grown h2 HB1.out.size (own_lt (own0S w))
  go_ret
  exact ⟨v', rfl, wide_of_own DS h1, bY, fun b hb => own_base h1 hb⟩
end Go.Proofs.Ythalhidebkhclaa
