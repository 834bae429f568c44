/- The document's Add. -/
import Derived.Test.YtjkkclojidhgdaaX5
namespace Go.Proofs.Ytjkkclojidhgdaa
open Go.RowKit Go.Maps Go.WideMaps
set_option linter.unusedVariables false
set_option maxRecDepth 1000000
set_option linter.unusedSimpArgs false
theorem own_alloc {w : World} {B : Nat} {e : TypeId} {c m : Nat} {v : Value} {xs : List Value} (h : w.ownsRow B e c v m xs) (o : Obj) : (w.alloc o).ownsRow B e c v m xs := row_apart h (fun q cur _ hq => (one_alloc w o).block q (Array.getElem?_eq_some_iff.1 hq).1)
theorem heap_old {w : World} {q : Nat} {x : Obj} (h : w.heap[q]? = some x) (o : Obj) : (w.alloc o).heap[q]? = some x := ((one_alloc w o).block q (Array.getElem?_eq_some_iff.1 h).1).trans h
theorem fill_dt (m : Dt) : Instr.fill (fun i => some (i * 4, 4)) ((Array.range (1 * 4)).map ((Value.agg (dtC Dt.nul).toArray).cells[· % (Value.agg (dtC Dt.nul).toArray).cells.size]!)) [(0, .agg (dtC m).toArray)] = some (dtC m).toArray := by
  have hsz : (Value.agg (dtC m).toArray).cells.size = 4 := by simp [Value.cells, dtC]
  have := Go.Great.fill_whole (by decide : 0 < 4) [Value.agg (dtC m).toArray] ((Array.range (1 * 4)).map ((Value.agg (dtC Dt.nul).toArray).cells[· % (Value.agg (dtC Dt.nul).toArray).cells.size]!)) (by intro v hv; simp at hv; subst hv; exact hsz) (by simp)
  simpa [Value.cells] using this
theorem news_dt {x : World} {q : Nat} {m : Dt} {fr : Nat × Nat} (h : x.heap[q]? = some (.cells (dtC m).toArray 59 fr)) : ∀ j u, (dtC m)[j]? = some u → x.cell? ((⟨q, 0, none⟩ : Addr).add j) = some u := fun j u hj => by
  rw [Addr.add_mid, Nat.zero_add, Lib.cell_of_heap h]
  simpa using hj
theorem build_dt (a b c : Nat) (z : Int) (x : World) : (Instr.build 59 #[(0, .int .i64 a), (1, .int .u64 b), (2, .int .u64 c), (3, .int .i64 z)]).run Try.prog x = .ok (.agg #[.int .i64 a, .int .u64 b, .int .u64 c, .int .i64 z]) x := by kernel_rfl
theorem exec_buildT {a : Act} {o : Oper} {x y t s : Operand} {p q r : Nat} {z : Int} (ho : o.op = .build 59 #[(0, x), (1, y), (2, t), (3, s)]) (hx : a.eval x = .int .i64 p) (hy : a.eval y = .int .u64 q) (ht : a.eval t = .int .u64 r) (hs : a.eval s = .int .i64 z) (w : World) :
    (execOp a.eval o).run Try.prog w = .ok (.value (.agg (dtC ⟨p, q, r, z⟩).toArray)) w := by
  unfold execOp
  simp only [ho, List.map_toArray, List.map_cons, List.map_nil, hx, hy, ht, hs, Sem.run_bind, build_dt]
  rfl
section
variable {E : Nat} {l : List Dt} {now last : Nat} {v : Value} {w : World}
set_option maxHeartbeats 8000000 in
theorem XAdd_go (h : Xw E l now last v w) (first per0 per : Nat) (again : Bool) (what : Int) (f1 : 1 ≤ first ∧ first ≤ 4294967296) (f2 : again = true → 1 ≤ per0 ∧ per0 ≤ 4294967296) (hp : per = if again then per0 else 0) (hl : l.length < 1024) (hg : last < 4611686018427387904) :
    Calls Try.prog 20 #[.pointer (some ⟨E, 0, none⟩), .int .u64 first, .int .u64 per0, .bool again, .int .i64 what] w fun e w' => e = .returned (.tuple #[.int .i64 ((last + 1 : Nat) : Int), .int .i64 0]) ∧ ∃ v', Xw E (l ++ [⟨last + 1, first, per, what⟩]) now (last + 1) v' w' ∧ w.grownBy w' (some E) := by
  obtain ⟨c0, c1, c2⟩ := h.c
  obtain ⟨ao, cap, rfl⟩ := h.row.wide.shape
  have fz := h.frozen 2
  have hadd : (last : Int) + 1 = ((last + 1 : Nat) : Int) := by omega
  obtain ⟨last1, hl1⟩ : ∃ x, last + 1 = x := ⟨_, rfl⟩
  rw [hl1] at hadd ⊢
  have hl1b : last1 < 9223372036854775808 := by omega
  have hge : decide ((1024 : Int) ≤ (l.length : Int)) = false := by simp; omega
  obtain ⟨i0, hi0, hz0, hz1, hz2⟩ := info_parts infoT
  have X4 := h.set (k := 2) (u := .int .i64 (last1 : Int)) (l' := l) (now' := now) (last' := last1) (v' := .slice ao l.length cap) rfl h.row h.len
  have HX4 : Hid (Xw E l now last1 (.slice ao l.length cap) (w.setCell ⟨E, 2, none⟩ (.int .i64 (last1 : Int)))) := X4.1
  have HG4 : Hid (w.grownBy (w.setCell ⟨E, 2, none⟩ (.int .i64 (last1 : Int))) (some E)) := X4.2
  have hW1 := within_any first w
  rw [decide_eq_true f1] at hW1
  clear h X4 hl1 hg
  have tail : True := trivial
  cases again with
  | true =>
    have f2' := f2 rfl
    have hW2 := within_any per0 w
    rw [decide_eq_true f2'] at hW2
    have hp' : per = per0 := by rw [hp]; rfl
    subst hp'
    clear hp f2
    go_enter Try.func20, Try.ntmps20
    go_wp2_with fail
    refine hW1.mono ?_
    rintro e z1 ⟨rfl, ez1⟩
    rw [ez1]
    clear ez1
    go_wp2_with fail
    refine hW2.mono ?_
    rintro e z2 ⟨rfl, ez2⟩
    rw [ez2]
    clear ez2
    clear hW1 hW2
    go_wp2_with fail
    refine wp_region_held (S := fun x => x.cell? ⟨E, 2, none⟩ = some (.int .i64 (last1 : Int))) (by kernel_rfl) ?_
    obtain ⟨w4, hw4⟩ : ∃ x : World, w.setCell ⟨E, 2, none⟩ (.int .i64 (last1 : Int)) = x := ⟨_, rfl⟩
    rw [hw4] at HX4 HG4 ⊢
    obtain ⟨w5, hw5⟩ : ∃ x : World, { w4 with drawn := w4.drawn + 1 } = x := ⟨_, rfl⟩
    rw [hw5]
    have HB5 : Hid (Below w4.heap.size w4 w5) := by rw [← hw5]; exact ⟨rfl, rfl, rfl, Nat.le_refl _, fun _ _ => rfl⟩
    have r0 := Below.refl w5.heap.size w5
    have HX : Hid (∀ x, Below w5.heap.size w5 x → Xw E l now last1 (.slice ao l.length cap) x) := fun x hx => (HX4.out.below HB5.out).below hx
    have SS : Hid (∀ x, Below w5.heap.size w5 x → x.cell? ⟨E, 0, none⟩ = some (.slice ao l.length cap) ∧ x.cell? ⟨E, 2, none⟩ = some (.int .i64 (last1 : Int))) := fun x hx => ⟨(HX.out x hx).c.1, (HX.out x hx).c.2.2⟩
    clear hw5 hw4 HX4 fz c0 c1 c2
    refine wpAnyH_take (i := 0) (v := (.pointer (some ⟨E, 0, none⟩))) rfl (by kernel_rfl) (by kernel_rfl) (by kernel_rfl) (fun _ _ _ h => h) (.inl ⟨rfl, fun _ hS => rfl⟩) (SS.out _ r0).2 ?_
    simp only [List.getElem_toArray, List.getElem_cons_succ, List.getElem_cons_zero, Act.put, List.setIfInBounds_toArray, List.set_cons_succ, List.set_cons_zero]
    refine wpAnyH_take (i := 2) (v := (.pointer (some ⟨E, 0, none⟩))) rfl (by kernel_rfl) (by kernel_rfl) (by kernel_rfl) (fun _ _ _ h => h) (.inl ⟨rfl, fun _ hS => rfl⟩) (SS.out _ r0).2 ?_
    simp only [List.getElem_toArray, List.getElem_cons_succ, List.getElem_cons_zero, Act.put, List.setIfInBounds_toArray, List.set_cons_succ, List.set_cons_zero]
    refine wpAnyH_take (i := 3) (v := (.pointer (some ⟨E, 0, none⟩))) rfl (by kernel_rfl) (by kernel_rfl) (by kernel_rfl) (fun _ _ _ h => h) (.inl ⟨rfl, fun _ hS => by simp [execOp, go_sem, Act.eval]⟩) (SS.out _ r0).2 ?_
    simp only [List.getElem_toArray, List.getElem_cons_succ, List.getElem_cons_zero, Act.put, List.setIfInBounds_toArray, List.set_cons_succ, List.set_cons_zero]
    refine wpAnyH_take (i := 4) (v := (.pointer (some ⟨E, 0, none⟩))) rfl (by kernel_rfl) (by kernel_rfl) (by kernel_rfl) (fun _ _ _ h => h) (.inl ⟨rfl, fun _ hS => by simp [execOp, go_sem, Act.eval]⟩) (SS.out _ r0).2 ?_
    simp only [List.getElem_toArray, List.getElem_cons_succ, List.getElem_cons_zero, Act.put, List.setIfInBounds_toArray, List.set_cons_succ, List.set_cons_zero]
    refine wpAnyH_take (i := 7) (v := (.pointer (some ⟨E, 0, none⟩))) rfl (by kernel_rfl) (by kernel_rfl) (by kernel_rfl) (fun _ _ _ h => h) (.inl ⟨rfl, fun _ hS => rfl⟩) (SS.out _ r0).2 ?_
    simp only [List.getElem_toArray, List.getElem_cons_succ, List.getElem_cons_zero, Act.put, List.setIfInBounds_toArray, List.set_cons_succ, List.set_cons_zero]
    refine wpAnyH_take (i := 8) (v := (.pointer (some ⟨E, 0, none⟩))) rfl (by kernel_rfl) (by kernel_rfl) (by kernel_rfl) (fun _ _ _ h => h) (.inl ⟨rfl, fun _ hS => by simp [execOp, go_sem, Act.eval]⟩) (SS.out _ r0).2 ?_
    simp only [List.getElem_toArray, List.getElem_cons_succ, List.getElem_cons_zero, Act.put, List.setIfInBounds_toArray, List.set_cons_succ, List.set_cons_zero]
    refine wpAnyH_take (i := 9) (v := (.pointer (some ⟨E, 2, none⟩))) rfl (by kernel_rfl) (by kernel_rfl) (by kernel_rfl) (fun _ _ _ h => h) (.inl ⟨rfl, fun _ hS => by simp [execOp, go_sem, Act.eval]⟩) (SS.out _ r0).2 ?_
    simp only [List.getElem_toArray, List.getElem_cons_succ, List.getElem_cons_zero, Act.put, List.setIfInBounds_toArray, List.set_cons_succ, List.set_cons_zero]
    refine wpAnyH_take (i := 10) (v := (.int .i64 last1)) rfl (by kernel_rfl) (by kernel_rfl) (by kernel_rfl) (fun _ _ _ h => h) (.inl ⟨rfl, fun _ hS => exec_load rfl rfl (load_int _ E 2 _ hS)⟩) (SS.out _ r0).2 ?_
    simp only [List.getElem_toArray, List.getElem_cons_succ, List.getElem_cons_zero, Act.put, List.setIfInBounds_toArray, List.set_cons_succ, List.set_cons_zero]
    refine wpAnyH_take (i := 11) (v := (.int .u64 first)) rfl (by kernel_rfl) (by kernel_rfl) (by kernel_rfl) (fun _ _ _ h => h) (.inl ⟨rfl, fun _ hS => rfl⟩) (SS.out _ r0).2 ?_
    simp only [List.getElem_toArray, List.getElem_cons_succ, List.getElem_cons_zero, Act.put, List.setIfInBounds_toArray, List.set_cons_succ, List.set_cons_zero]
    refine wpAnyH_take (i := 12) (v := (.int .u64 per)) rfl (by kernel_rfl) (by kernel_rfl) (by kernel_rfl) (fun _ _ _ h => h) (.inl ⟨rfl, fun _ hS => rfl⟩) (SS.out _ r0).2 ?_
    simp only [List.getElem_toArray, List.getElem_cons_succ, List.getElem_cons_zero, Act.put, List.setIfInBounds_toArray, List.set_cons_succ, List.set_cons_zero]
    refine wpAnyH_take (i := 13) (v := (.int .i64 what)) rfl (by kernel_rfl) (by kernel_rfl) (by kernel_rfl) (fun _ _ _ h => h) (.inl ⟨rfl, fun _ hS => rfl⟩) (SS.out _ r0).2 ?_
    simp only [List.getElem_toArray, List.getElem_cons_succ, List.getElem_cons_zero, Act.put, List.setIfInBounds_toArray, List.set_cons_succ, List.set_cons_zero]
    refine wpAnyH_take (i := 14) (v := (.agg (dtC ⟨last1, first, per, what⟩).toArray)) rfl (by kernel_rfl) (by kernel_rfl) (by kernel_rfl) (fun _ _ _ h => h) (.inl ⟨rfl, fun _ hS => exec_buildT rfl rfl rfl rfl rfl _⟩) (SS.out _ r0).2 ?_
    simp only [List.getElem_toArray, List.getElem_cons_succ, List.getElem_cons_zero, Act.put, List.setIfInBounds_toArray, List.set_cons_succ, List.set_cons_zero]
    refine wpAnyH_all (rs := [1, 5, 15]) (by kernel_rfl) (by simp) ?_
    intro k hk
    simp only [List.mem_cons, List.mem_nil_iff, or_false] at hk
    rcases hk with rfl | rfl | rfl
    · refine wpOp_run rfl rfl (wp_bs0g Try.underlying29 infoT rfl ?_)
      have b10 := r0.alloc r0.size (.cells #[] 59)
      have P10 : (w5.alloc (.cells #[] 59)).ownsRow w5.heap.size 59 4 (.slice (some ⟨w5.heap.size, 0, none⟩) 0 0) 0 [] := own_lower (own_empty_e w5 59 4) r0.size
      refine ⟨(SS.out _ b10).2, ?_⟩
      simp only [List.getElem_toArray, List.getElem_cons_succ, List.getElem_cons_zero, Act.put, List.setIfInBounds_toArray, List.set_cons_succ, List.set_cons_zero]
      refine wpAnyH_all (rs := [5, 15]) (by kernel_rfl) (by simp) ?_
      intro k hk
      simp only [List.mem_cons, List.mem_nil_iff, or_false] at hk
      rcases hk with rfl | rfl
      · refine wpOp_run rfl rfl (wp_load_cell 29 _ rfl E 0 rfl (.slice ao l.length cap) (load_tms _ E 0 _ _ _ (SS.out _ b10).1) ?_)
        refine ⟨(SS.out _ b10).2, ?_⟩
        simp only [List.getElem_toArray, List.getElem_cons_succ, List.getElem_cons_zero, Act.put, List.setIfInBounds_toArray, List.set_cons_succ, List.set_cons_zero]
        refine wpAnyH_all (rs := [6, 15]) (by kernel_rfl) (by simp) ?_
        intro k hk
        simp only [List.mem_cons, List.mem_nil_iff, or_false] at hk
        rcases hk with rfl | rfl
        · refine wpOp_run rfl rfl (wp_append_wide DT _ _ 29 59 _ _ Try.underlying29 infoT rfl rfl w5.heap.size (.slice (some ⟨w5.heap.size, 0, none⟩) 0 0) [] rfl P10 _ l rfl (HX.out _ b10).row.wide (by unfold maxLen; simp; omega) (by simp; omega) b10.size ?_)
          intro v11 w11 P11 G11
          rw [List.nil_append] at P11
          have b11 : Below w5.heap.size w5 w11 := ⟨G11.os.trans b10.os, G11.tape.trans b10.tape, G11.output.trans b10.output, Nat.le_trans b10.size G11.size, fun k hk => (G11.block k (Nat.lt_of_lt_of_le hk b10.size) (fun e => by have := own_base P10 e.symm; omega)).trans (b10.block k hk)⟩
          refine ⟨(SS.out _ b11).2, ?_⟩
          simp only [List.getElem_toArray, List.getElem_cons_succ, List.getElem_cons_zero, Act.put, List.setIfInBounds_toArray, List.set_cons_succ, List.set_cons_zero]
          refine wpAnyH_all (rs := [15]) (by kernel_rfl) (by simp) ?_
          intro k hk
          simp only [List.mem_cons, List.mem_nil_iff, or_false] at hk
          subst hk
          refine wpOp_run rfl rfl (wp_buildSlice 29 59 1 _ rfl (dtC ⟨last1, first, per, what⟩).toArray i0 _ Try.underlying29 hi0 hz0 (by rw [hz1]; omega) (by rw [hz1]; omega) (by rw [hz1]; simp only [List.map_toArray, List.map_cons, List.map_nil]; exact fill_dt _) ?_)
          have b12 := b11.alloc b11.size (.cells (dtC ⟨last1, first, per, what⟩).toArray 59)
          have Q12 := heap_alloc_new w11 (.cells (dtC ⟨last1, first, per, what⟩).toArray 59)
          have P12 := own_alloc P11 (.cells (dtC ⟨last1, first, per, what⟩).toArray 59)
          refine ⟨(SS.out _ b12).2, ?_⟩
          simp only [List.getElem_toArray, List.getElem_cons_succ, List.getElem_cons_zero, Act.put, List.setIfInBounds_toArray, List.set_cons_succ, List.set_cons_zero]
          refine wpAnyH_all (rs := [16]) (by kernel_rfl) (by simp) ?_
          intro k hk
          simp only [List.mem_cons, List.mem_nil_iff, or_false] at hk
          subst hk
          refine wpOp_run rfl rfl (wp_append_own _ _ _ 29 rfl w5.heap.size 59 i0 _ 4 32 Try.underlying29 hi0 hz0 hz1 hz2 rfl (by omega) _ l.length (flatW DT l) rfl P12 ⟨w11.heap.size, 0, none⟩ 1 1 (dtC ⟨last1, first, per, what⟩) rfl rfl (news_dt Q12) (DT.one _) (by unfold maxLen; omega) (by omega) b12.size ?_)
          intro va wA oA gA _
          have BA : Below w5.heap.size w5 wA := ⟨gA.os.trans b12.os, gA.tape.trans b12.tape, gA.output.trans b12.output, Nat.le_trans b12.size gA.size, fun k hk => (gA.block k (Nat.lt_of_lt_of_le hk b12.size) (fun e => by have := own_base P12 e.symm; omega)).trans (b12.block k hk)⟩
          have QA : wA.ownsRow w5.heap.size 59 4 va (l ++ [(⟨last1, first, per, what⟩ : Dt)]).length (flatW DT (l ++ [(⟨last1, first, per, what⟩ : Dt)])) := by
            rw [List.length_append, flatW_append]; simpa [flatW, DT] using oA
          have XA := HX.out _ BA
          obtain ⟨aA, cA, hvA⟩ := own_shape5 QA
          subst hvA
          refine ⟨(SS.out _ BA).2, ?_⟩
          simp only [List.getElem_toArray, List.getElem_cons_succ, List.getElem_cons_zero, Act.put, List.setIfInBounds_toArray, List.set_cons_succ, List.set_cons_zero]
          refine wpAnyH_take (i := 17) (v := (.pointer (some ⟨E, 0, none⟩))) rfl (by kernel_rfl) (by kernel_rfl) (by kernel_rfl) (fun _ _ _ h => h) (.inl ⟨rfl, fun _ hS => by simp [execOp, go_sem, Act.eval]⟩) (SS.out _ BA).2 ?_
          simp only [List.getElem_toArray, List.getElem_cons_succ, List.getElem_cons_zero, Act.put, List.setIfInBounds_toArray, List.set_cons_succ, List.set_cons_zero]
          refine wpAnyH_take (i := 18) (v := (.pointer (some ⟨E, 0, none⟩))) rfl (by kernel_rfl) (by kernel_rfl) (by kernel_rfl) (fun _ _ _ h => h) (.inl ⟨rfl, fun _ hS => by simp [execOp, go_sem, Act.eval]⟩) (SS.out _ BA).2 ?_
          simp only [List.getElem_toArray, List.getElem_cons_succ, List.getElem_cons_zero, Act.put, List.setIfInBounds_toArray, List.set_cons_succ, List.set_cons_zero]
          refine wpAnyH_all (rs := [19]) (by kernel_rfl) (by simp) ?_
          intro k hk
          simp only [List.mem_cons, List.mem_nil_iff, or_false] at hk
          subst hk
          refine wpOp_run rfl rfl (wp_store_cell 29 _ _ rfl E 0 rfl _ rfl (store_tms wA E 0 _ aA _ cA XA.c.1 (XA.frozen 0)) ?_)
          have XS := XA.set (k := 0) (u := (.slice aA (l ++ [(⟨last1, first, per, what⟩ : Dt)]).length cA)) (l' := l ++ [(⟨last1, first, per, what⟩ : Dt)]) (now' := now) (last' := last1) (v' := (.slice aA (l ++ [(⟨last1, first, per, what⟩ : Dt)]).length cA)) rfl (RT.own DT QA) (by simp; omega)
          have sx := XS.1.c.2.2
          refine ⟨sx, ?_⟩
          simp only [List.getElem_toArray, List.getElem_cons_succ, List.getElem_cons_zero, Act.put, List.setIfInBounds_toArray, List.set_cons_succ, List.set_cons_zero]
          refine wpAnyH_done (by kernel_rfl) ?_ _
          have HE : Hid (∃ v', Xw E (l ++ [(⟨last1, first, per, what⟩ : Dt)]) now last1 v' (wA.setCell ⟨E, 0, none⟩ (.slice aA (l ++ [(⟨last1, first, per, what⟩ : Dt)]).length cA)) ∧ w.grownBy (wA.setCell ⟨E, 0, none⟩ (.slice aA (l ++ [(⟨last1, first, per, what⟩ : Dt)]).length cA)) (some E)) := ⟨_, XS.1, grown_trans (grown_trans HG4.out (gb_any (HB5.out.trans (BA.mono HB5.out.size)) _)) XS.2⟩
          have d2 := XS.1.c.2.2
          generalize wA.setCell ⟨E, 0, none⟩ (.slice aA (l ++ [(⟨last1, first, per, what⟩ : Dt)]).length cA) = wz at *
          clear XS sx XA QA oA gA HX SS
          go_wp2
          go_ret2
          exact ⟨rfl, HE.out⟩
        · refine wpOp_run rfl rfl (wp_buildSlice 29 59 1 _ rfl (dtC ⟨last1, first, per, what⟩).toArray i0 _ Try.underlying29 hi0 hz0 (by rw [hz1]; omega) (by rw [hz1]; omega) (by rw [hz1]; simp only [List.map_toArray, List.map_cons, List.map_nil]; exact fill_dt _) ?_)
          have b11 := b10.alloc b10.size (.cells (dtC ⟨last1, first, per, what⟩).toArray 59)
          have Q11 := heap_alloc_new (w5.alloc (.cells #[] 59)) (.cells (dtC ⟨last1, first, per, what⟩).toArray 59)
          have P11 := own_alloc P10 (.cells (dtC ⟨last1, first, per, what⟩).toArray 59)
          refine ⟨(SS.out _ b11).2, ?_⟩
          simp only [List.getElem_toArray, List.getElem_cons_succ, List.getElem_cons_zero, Act.put, List.setIfInBounds_toArray, List.set_cons_succ, List.set_cons_zero]
          refine wpAnyH_all (rs := [6]) (by kernel_rfl) (by simp) ?_
          intro k hk
          simp only [List.mem_cons, List.mem_nil_iff, or_false] at hk
          subst hk
          refine wpOp_run rfl rfl (wp_append_wide DT _ _ 29 59 _ _ Try.underlying29 infoT rfl rfl w5.heap.size (.slice (some ⟨w5.heap.size, 0, none⟩) 0 0) [] rfl P11 _ l rfl (HX.out _ b11).row.wide (by unfold maxLen; simp; omega) (by simp; omega) b11.size ?_)
          intro v12 w12 P12 G12
          rw [List.nil_append] at P12
          have b12 : Below w5.heap.size w5 w12 := ⟨G12.os.trans b11.os, G12.tape.trans b11.tape, G12.output.trans b11.output, Nat.le_trans b11.size G12.size, fun k hk => (G12.block k (Nat.lt_of_lt_of_le hk b11.size) (fun e => by have := own_base P11 e.symm; omega)).trans (b11.block k hk)⟩
          have Q12 := (G12.block (w5.alloc (.cells #[] 59)).heap.size (Array.getElem?_eq_some_iff.1 Q11).1 (fun e => by injection e with e; simp only [size_alloc] at e; first | omega | (have e' : (w5.alloc (.cells #[] 59)).heap.size = w5.heap.size := e; simp only [size_alloc] at e'; omega))).trans Q11
          refine ⟨(SS.out _ b12).2, ?_⟩
          simp only [List.getElem_toArray, List.getElem_cons_succ, List.getElem_cons_zero, Act.put, List.setIfInBounds_toArray, List.set_cons_succ, List.set_cons_zero]
          refine wpAnyH_all (rs := [16]) (by kernel_rfl) (by simp) ?_
          intro k hk
          simp only [List.mem_cons, List.mem_nil_iff, or_false] at hk
          subst hk
          refine wpOp_run rfl rfl (wp_append_own _ _ _ 29 rfl w5.heap.size 59 i0 _ 4 32 Try.underlying29 hi0 hz0 hz1 hz2 rfl (by omega) _ l.length (flatW DT l) rfl P12 ⟨(w5.alloc (.cells #[] 59)).heap.size, 0, none⟩ 1 1 (dtC ⟨last1, first, per, what⟩) rfl rfl (news_dt Q12) (DT.one _) (by unfold maxLen; omega) (by omega) b12.size ?_)
          intro va wA oA gA _
          have BA : Below w5.heap.size w5 wA := ⟨gA.os.trans b12.os, gA.tape.trans b12.tape, gA.output.trans b12.output, Nat.le_trans b12.size gA.size, fun k hk => (gA.block k (Nat.lt_of_lt_of_le hk b12.size) (fun e => by have := own_base P12 e.symm; omega)).trans (b12.block k hk)⟩
          have QA : wA.ownsRow w5.heap.size 59 4 va (l ++ [(⟨last1, first, per, what⟩ : Dt)]).length (flatW DT (l ++ [(⟨last1, first, per, what⟩ : Dt)])) := by
            rw [List.length_append, flatW_append]; simpa [flatW, DT] using oA
          have XA := HX.out _ BA
          obtain ⟨aA, cA, hvA⟩ := own_shape5 QA
          subst hvA
          refine ⟨(SS.out _ BA).2, ?_⟩
          simp only [List.getElem_toArray, List.getElem_cons_succ, List.getElem_cons_zero, Act.put, List.setIfInBounds_toArray, List.set_cons_succ, List.set_cons_zero]
          refine wpAnyH_take (i := 17) (v := (.pointer (some ⟨E, 0, none⟩))) rfl (by kernel_rfl) (by kernel_rfl) (by kernel_rfl) (fun _ _ _ h => h) (.inl ⟨rfl, fun _ hS => by simp [execOp, go_sem, Act.eval]⟩) (SS.out _ BA).2 ?_
          simp only [List.getElem_toArray, List.getElem_cons_succ, List.getElem_cons_zero, Act.put, List.setIfInBounds_toArray, List.set_cons_succ, List.set_cons_zero]
          refine wpAnyH_take (i := 18) (v := (.pointer (some ⟨E, 0, none⟩))) rfl (by kernel_rfl) (by kernel_rfl) (by kernel_rfl) (fun _ _ _ h => h) (.inl ⟨rfl, fun _ hS => by simp [execOp, go_sem, Act.eval]⟩) (SS.out _ BA).2 ?_
          simp only [List.getElem_toArray, List.getElem_cons_succ, List.getElem_cons_zero, Act.put, List.setIfInBounds_toArray, List.set_cons_succ, List.set_cons_zero]
          refine wpAnyH_all (rs := [19]) (by kernel_rfl) (by simp) ?_
          intro k hk
          simp only [List.mem_cons, List.mem_nil_iff, or_false] at hk
          subst hk
          refine wpOp_run rfl rfl (wp_store_cell 29 _ _ rfl E 0 rfl _ rfl (store_tms wA E 0 _ aA _ cA XA.c.1 (XA.frozen 0)) ?_)
          have XS := XA.set (k := 0) (u := (.slice aA (l ++ [(⟨last1, first, per, what⟩ : Dt)]).length cA)) (l' := l ++ [(⟨last1, first, per, what⟩ : Dt)]) (now' := now) (last' := last1) (v' := (.slice aA (l ++ [(⟨last1, first, per, what⟩ : Dt)]).length cA)) rfl (RT.own DT QA) (by simp; omega)
          have sx := XS.1.c.2.2
          refine ⟨sx, ?_⟩
          simp only [List.getElem_toArray, List.getElem_cons_succ, List.getElem_cons_zero, Act.put, List.setIfInBounds_toArray, List.set_cons_succ, List.set_cons_zero]
          refine wpAnyH_done (by kernel_rfl) ?_ _
          have HE : Hid (∃ v', Xw E (l ++ [(⟨last1, first, per, what⟩ : Dt)]) now last1 v' (wA.setCell ⟨E, 0, none⟩ (.slice aA (l ++ [(⟨last1, first, per, what⟩ : Dt)]).length cA)) ∧ w.grownBy (wA.setCell ⟨E, 0, none⟩ (.slice aA (l ++ [(⟨last1, first, per, what⟩ : Dt)]).length cA)) (some E)) := ⟨_, XS.1, grown_trans (grown_trans HG4.out (gb_any (HB5.out.trans (BA.mono HB5.out.size)) _)) XS.2⟩
          have d2 := XS.1.c.2.2
          generalize wA.setCell ⟨E, 0, none⟩ (.slice aA (l ++ [(⟨last1, first, per, what⟩ : Dt)]).length cA) = wz at *
          clear XS sx XA QA oA gA HX SS
          go_wp2
          go_ret2
          exact ⟨rfl, HE.out⟩
      · refine wpOp_run rfl rfl (wp_buildSlice 29 59 1 _ rfl (dtC ⟨last1, first, per, what⟩).toArray i0 _ Try.underlying29 hi0 hz0 (by rw [hz1]; omega) (by rw [hz1]; omega) (by rw [hz1]; simp only [List.map_toArray, List.map_cons, List.map_nil]; exact fill_dt _) ?_)
        have b11 := b10.alloc b10.size (.cells (dtC ⟨last1, first, per, what⟩).toArray 59)
        have Q11 := heap_alloc_new (w5.alloc (.cells #[] 59)) (.cells (dtC ⟨last1, first, per, what⟩).toArray 59)
        have P11 := own_alloc P10 (.cells (dtC ⟨last1, first, per, what⟩).toArray 59)
        refine ⟨(SS.out _ b11).2, ?_⟩
        simp only [List.getElem_toArray, List.getElem_cons_succ, List.getElem_cons_zero, Act.put, List.setIfInBounds_toArray, List.set_cons_succ, List.set_cons_zero]
        refine wpAnyH_all (rs := [5]) (by kernel_rfl) (by simp) ?_
        intro k hk
        simp only [List.mem_cons, List.mem_nil_iff, or_false] at hk
        subst hk
        refine wpOp_run rfl rfl (wp_load_cell 29 _ rfl E 0 rfl (.slice ao l.length cap) (load_tms _ E 0 _ _ _ (SS.out _ b11).1) ?_)
        refine ⟨(SS.out _ b11).2, ?_⟩
        simp only [List.getElem_toArray, List.getElem_cons_succ, List.getElem_cons_zero, Act.put, List.setIfInBounds_toArray, List.set_cons_succ, List.set_cons_zero]
        refine wpAnyH_all (rs := [6]) (by kernel_rfl) (by simp) ?_
        intro k hk
        simp only [List.mem_cons, List.mem_nil_iff, or_false] at hk
        subst hk
        refine wpOp_run rfl rfl (wp_append_wide DT _ _ 29 59 _ _ Try.underlying29 infoT rfl rfl w5.heap.size (.slice (some ⟨w5.heap.size, 0, none⟩) 0 0) [] rfl P11 _ l rfl (HX.out _ b11).row.wide (by unfold maxLen; simp; omega) (by simp; omega) b11.size ?_)
        intro v12 w12 P12 G12
        rw [List.nil_append] at P12
        have b12 : Below w5.heap.size w5 w12 := ⟨G12.os.trans b11.os, G12.tape.trans b11.tape, G12.output.trans b11.output, Nat.le_trans b11.size G12.size, fun k hk => (G12.block k (Nat.lt_of_lt_of_le hk b11.size) (fun e => by have := own_base P11 e.symm; omega)).trans (b11.block k hk)⟩
        have Q12 := (G12.block (w5.alloc (.cells #[] 59)).heap.size (Array.getElem?_eq_some_iff.1 Q11).1 (fun e => by injection e with e; simp only [size_alloc] at e; first | omega | (have e' : (w5.alloc (.cells #[] 59)).heap.size = w5.heap.size := e; simp only [size_alloc] at e'; omega))).trans Q11
        refine ⟨(SS.out _ b12).2, ?_⟩
        simp only [List.getElem_toArray, List.getElem_cons_succ, List.getElem_cons_zero, Act.put, List.setIfInBounds_toArray, List.set_cons_succ, List.set_cons_zero]
        refine wpAnyH_all (rs := [16]) (by kernel_rfl) (by simp) ?_
        intro k hk
        simp only [List.mem_cons, List.mem_nil_iff, or_false] at hk
        subst hk
        refine wpOp_run rfl rfl (wp_append_own _ _ _ 29 rfl w5.heap.size 59 i0 _ 4 32 Try.underlying29 hi0 hz0 hz1 hz2 rfl (by omega) _ l.length (flatW DT l) rfl P12 ⟨(w5.alloc (.cells #[] 59)).heap.size, 0, none⟩ 1 1 (dtC ⟨last1, first, per, what⟩) rfl rfl (news_dt Q12) (DT.one _) (by unfold maxLen; omega) (by omega) b12.size ?_)
        intro va wA oA gA _
        have BA : Below w5.heap.size w5 wA := ⟨gA.os.trans b12.os, gA.tape.trans b12.tape, gA.output.trans b12.output, Nat.le_trans b12.size gA.size, fun k hk => (gA.block k (Nat.lt_of_lt_of_le hk b12.size) (fun e => by have := own_base P12 e.symm; omega)).trans (b12.block k hk)⟩
        have QA : wA.ownsRow w5.heap.size 59 4 va (l ++ [(⟨last1, first, per, what⟩ : Dt)]).length (flatW DT (l ++ [(⟨last1, first, per, what⟩ : Dt)])) := by
          rw [List.length_append, flatW_append]; simpa [flatW, DT] using oA
        have XA := HX.out _ BA
        obtain ⟨aA, cA, hvA⟩ := own_shape5 QA
        subst hvA
        refine ⟨(SS.out _ BA).2, ?_⟩
        simp only [List.getElem_toArray, List.getElem_cons_succ, List.getElem_cons_zero, Act.put, List.setIfInBounds_toArray, List.set_cons_succ, List.set_cons_zero]
        refine wpAnyH_take (i := 17) (v := (.pointer (some ⟨E, 0, none⟩))) rfl (by kernel_rfl) (by kernel_rfl) (by kernel_rfl) (fun _ _ _ h => h) (.inl ⟨rfl, fun _ hS => by simp [execOp, go_sem, Act.eval]⟩) (SS.out _ BA).2 ?_
        simp only [List.getElem_toArray, List.getElem_cons_succ, List.getElem_cons_zero, Act.put, List.setIfInBounds_toArray, List.set_cons_succ, List.set_cons_zero]
        refine wpAnyH_take (i := 18) (v := (.pointer (some ⟨E, 0, none⟩))) rfl (by kernel_rfl) (by kernel_rfl) (by kernel_rfl) (fun _ _ _ h => h) (.inl ⟨rfl, fun _ hS => by simp [execOp, go_sem, Act.eval]⟩) (SS.out _ BA).2 ?_
        simp only [List.getElem_toArray, List.getElem_cons_succ, List.getElem_cons_zero, Act.put, List.setIfInBounds_toArray, List.set_cons_succ, List.set_cons_zero]
        refine wpAnyH_all (rs := [19]) (by kernel_rfl) (by simp) ?_
        intro k hk
        simp only [List.mem_cons, List.mem_nil_iff, or_false] at hk
        subst hk
        refine wpOp_run rfl rfl (wp_store_cell 29 _ _ rfl E 0 rfl _ rfl (store_tms wA E 0 _ aA _ cA XA.c.1 (XA.frozen 0)) ?_)
        have XS := XA.set (k := 0) (u := (.slice aA (l ++ [(⟨last1, first, per, what⟩ : Dt)]).length cA)) (l' := l ++ [(⟨last1, first, per, what⟩ : Dt)]) (now' := now) (last' := last1) (v' := (.slice aA (l ++ [(⟨last1, first, per, what⟩ : Dt)]).length cA)) rfl (RT.own DT QA) (by simp; omega)
        have sx := XS.1.c.2.2
        refine ⟨sx, ?_⟩
        simp only [List.getElem_toArray, List.getElem_cons_succ, List.getElem_cons_zero, Act.put, List.setIfInBounds_toArray, List.set_cons_succ, List.set_cons_zero]
        refine wpAnyH_done (by kernel_rfl) ?_ _
        have HE : Hid (∃ v', Xw E (l ++ [(⟨last1, first, per, what⟩ : Dt)]) now last1 v' (wA.setCell ⟨E, 0, none⟩ (.slice aA (l ++ [(⟨last1, first, per, what⟩ : Dt)]).length cA)) ∧ w.grownBy (wA.setCell ⟨E, 0, none⟩ (.slice aA (l ++ [(⟨last1, first, per, what⟩ : Dt)]).length cA)) (some E)) := ⟨_, XS.1, grown_trans (grown_trans HG4.out (gb_any (HB5.out.trans (BA.mono HB5.out.size)) _)) XS.2⟩
        have d2 := XS.1.c.2.2
        generalize wA.setCell ⟨E, 0, none⟩ (.slice aA (l ++ [(⟨last1, first, per, what⟩ : Dt)]).length cA) = wz at *
        clear XS sx XA QA oA gA HX SS
        go_wp2
        go_ret2
        exact ⟨rfl, HE.out⟩
    · refine wpOp_run rfl rfl (wp_load_cell 29 _ rfl E 0 rfl (.slice ao l.length cap) (load_tms _ E 0 _ _ _ (SS.out _ r0).1) ?_)
      refine ⟨(SS.out _ r0).2, ?_⟩
      simp only [List.getElem_toArray, List.getElem_cons_succ, List.getElem_cons_zero, Act.put, List.setIfInBounds_toArray, List.set_cons_succ, List.set_cons_zero]
      refine wpAnyH_all (rs := [1, 15]) (by kernel_rfl) (by simp) ?_
      intro k hk
      simp only [List.mem_cons, List.mem_nil_iff, or_false] at hk
      rcases hk with rfl | rfl
      · refine wpOp_run rfl rfl (wp_bs0g Try.underlying29 infoT rfl ?_)
        have b10 := r0.alloc r0.size (.cells #[] 59)
        have P10 : (w5.alloc (.cells #[] 59)).ownsRow w5.heap.size 59 4 (.slice (some ⟨w5.heap.size, 0, none⟩) 0 0) 0 [] := own_lower (own_empty_e w5 59 4) r0.size
        refine ⟨(SS.out _ b10).2, ?_⟩
        simp only [List.getElem_toArray, List.getElem_cons_succ, List.getElem_cons_zero, Act.put, List.setIfInBounds_toArray, List.set_cons_succ, List.set_cons_zero]
        refine wpAnyH_all (rs := [6, 15]) (by kernel_rfl) (by simp) ?_
        intro k hk
        simp only [List.mem_cons, List.mem_nil_iff, or_false] at hk
        rcases hk with rfl | rfl
        · refine wpOp_run rfl rfl (wp_append_wide DT _ _ 29 59 _ _ Try.underlying29 infoT rfl rfl w5.heap.size (.slice (some ⟨w5.heap.size, 0, none⟩) 0 0) [] rfl P10 _ l rfl (HX.out _ b10).row.wide (by unfold maxLen; simp; omega) (by simp; omega) b10.size ?_)
          intro v11 w11 P11 G11
          rw [List.nil_append] at P11
          have b11 : Below w5.heap.size w5 w11 := ⟨G11.os.trans b10.os, G11.tape.trans b10.tape, G11.output.trans b10.output, Nat.le_trans b10.size G11.size, fun k hk => (G11.block k (Nat.lt_of_lt_of_le hk b10.size) (fun e => by have := own_base P10 e.symm; omega)).trans (b10.block k hk)⟩
          refine ⟨(SS.out _ b11).2, ?_⟩
          simp only [List.getElem_toArray, List.getElem_cons_succ, List.getElem_cons_zero, Act.put, List.setIfInBounds_toArray, List.set_cons_succ, List.set_cons_zero]
          refine wpAnyH_all (rs := [15]) (by kernel_rfl) (by simp) ?_
          intro k hk
          simp only [List.mem_cons, List.mem_nil_iff, or_false] at hk
          subst hk
          refine wpOp_run rfl rfl (wp_buildSlice 29 59 1 _ rfl (dtC ⟨last1, first, per, what⟩).toArray i0 _ Try.underlying29 hi0 hz0 (by rw [hz1]; omega) (by rw [hz1]; omega) (by rw [hz1]; simp only [List.map_toArray, List.map_cons, List.map_nil]; exact fill_dt _) ?_)
          have b12 := b11.alloc b11.size (.cells (dtC ⟨last1, first, per, what⟩).toArray 59)
          have Q12 := heap_alloc_new w11 (.cells (dtC ⟨last1, first, per, what⟩).toArray 59)
          have P12 := own_alloc P11 (.cells (dtC ⟨last1, first, per, what⟩).toArray 59)
          refine ⟨(SS.out _ b12).2, ?_⟩
          simp only [List.getElem_toArray, List.getElem_cons_succ, List.getElem_cons_zero, Act.put, List.setIfInBounds_toArray, List.set_cons_succ, List.set_cons_zero]
          refine wpAnyH_all (rs := [16]) (by kernel_rfl) (by simp) ?_
          intro k hk
          simp only [List.mem_cons, List.mem_nil_iff, or_false] at hk
          subst hk
          refine wpOp_run rfl rfl (wp_append_own _ _ _ 29 rfl w5.heap.size 59 i0 _ 4 32 Try.underlying29 hi0 hz0 hz1 hz2 rfl (by omega) _ l.length (flatW DT l) rfl P12 ⟨w11.heap.size, 0, none⟩ 1 1 (dtC ⟨last1, first, per, what⟩) rfl rfl (news_dt Q12) (DT.one _) (by unfold maxLen; omega) (by omega) b12.size ?_)
          intro va wA oA gA _
          have BA : Below w5.heap.size w5 wA := ⟨gA.os.trans b12.os, gA.tape.trans b12.tape, gA.output.trans b12.output, Nat.le_trans b12.size gA.size, fun k hk => (gA.block k (Nat.lt_of_lt_of_le hk b12.size) (fun e => by have := own_base P12 e.symm; omega)).trans (b12.block k hk)⟩
          have QA : wA.ownsRow w5.heap.size 59 4 va (l ++ [(⟨last1, first, per, what⟩ : Dt)]).length (flatW DT (l ++ [(⟨last1, first, per, what⟩ : Dt)])) := by
            rw [List.length_append, flatW_append]; simpa [flatW, DT] using oA
          have XA := HX.out _ BA
          obtain ⟨aA, cA, hvA⟩ := own_shape5 QA
          subst hvA
          refine ⟨(SS.out _ BA).2, ?_⟩
          simp only [List.getElem_toArray, List.getElem_cons_succ, List.getElem_cons_zero, Act.put, List.setIfInBounds_toArray, List.set_cons_succ, List.set_cons_zero]
          refine wpAnyH_take (i := 17) (v := (.pointer (some ⟨E, 0, none⟩))) rfl (by kernel_rfl) (by kernel_rfl) (by kernel_rfl) (fun _ _ _ h => h) (.inl ⟨rfl, fun _ hS => by simp [execOp, go_sem, Act.eval]⟩) (SS.out _ BA).2 ?_
          simp only [List.getElem_toArray, List.getElem_cons_succ, List.getElem_cons_zero, Act.put, List.setIfInBounds_toArray, List.set_cons_succ, List.set_cons_zero]
          refine wpAnyH_take (i := 18) (v := (.pointer (some ⟨E, 0, none⟩))) rfl (by kernel_rfl) (by kernel_rfl) (by kernel_rfl) (fun _ _ _ h => h) (.inl ⟨rfl, fun _ hS => by simp [execOp, go_sem, Act.eval]⟩) (SS.out _ BA).2 ?_
          simp only [List.getElem_toArray, List.getElem_cons_succ, List.getElem_cons_zero, Act.put, List.setIfInBounds_toArray, List.set_cons_succ, List.set_cons_zero]
          refine wpAnyH_all (rs := [19]) (by kernel_rfl) (by simp) ?_
          intro k hk
          simp only [List.mem_cons, List.mem_nil_iff, or_false] at hk
          subst hk
          refine wpOp_run rfl rfl (wp_store_cell 29 _ _ rfl E 0 rfl _ rfl (store_tms wA E 0 _ aA _ cA XA.c.1 (XA.frozen 0)) ?_)
          have XS := XA.set (k := 0) (u := (.slice aA (l ++ [(⟨last1, first, per, what⟩ : Dt)]).length cA)) (l' := l ++ [(⟨last1, first, per, what⟩ : Dt)]) (now' := now) (last' := last1) (v' := (.slice aA (l ++ [(⟨last1, first, per, what⟩ : Dt)]).length cA)) rfl (RT.own DT QA) (by simp; omega)
          have sx := XS.1.c.2.2
          refine ⟨sx, ?_⟩
          simp only [List.getElem_toArray, List.getElem_cons_succ, List.getElem_cons_zero, Act.put, List.setIfInBounds_toArray, List.set_cons_succ, List.set_cons_zero]
          refine wpAnyH_done (by kernel_rfl) ?_ _
          have HE : Hid (∃ v', Xw E (l ++ [(⟨last1, first, per, what⟩ : Dt)]) now last1 v' (wA.setCell ⟨E, 0, none⟩ (.slice aA (l ++ [(⟨last1, first, per, what⟩ : Dt)]).length cA)) ∧ w.grownBy (wA.setCell ⟨E, 0, none⟩ (.slice aA (l ++ [(⟨last1, first, per, what⟩ : Dt)]).length cA)) (some E)) := ⟨_, XS.1, grown_trans (grown_trans HG4.out (gb_any (HB5.out.trans (BA.mono HB5.out.size)) _)) XS.2⟩
          have d2 := XS.1.c.2.2
          generalize wA.setCell ⟨E, 0, none⟩ (.slice aA (l ++ [(⟨last1, first, per, what⟩ : Dt)]).length cA) = wz at *
          clear XS sx XA QA oA gA HX SS
          go_wp2
          go_ret2
          exact ⟨rfl, HE.out⟩
        · refine wpOp_run rfl rfl (wp_buildSlice 29 59 1 _ rfl (dtC ⟨last1, first, per, what⟩).toArray i0 _ Try.underlying29 hi0 hz0 (by rw [hz1]; omega) (by rw [hz1]; omega) (by rw [hz1]; simp only [List.map_toArray, List.map_cons, List.map_nil]; exact fill_dt _) ?_)
          have b11 := b10.alloc b10.size (.cells (dtC ⟨last1, first, per, what⟩).toArray 59)
          have Q11 := heap_alloc_new (w5.alloc (.cells #[] 59)) (.cells (dtC ⟨last1, first, per, what⟩).toArray 59)
          have P11 := own_alloc P10 (.cells (dtC ⟨last1, first, per, what⟩).toArray 59)
          refine ⟨(SS.out _ b11).2, ?_⟩
          simp only [List.getElem_toArray, List.getElem_cons_succ, List.getElem_cons_zero, Act.put, List.setIfInBounds_toArray, List.set_cons_succ, List.set_cons_zero]
          refine wpAnyH_all (rs := [6]) (by kernel_rfl) (by simp) ?_
          intro k hk
          simp only [List.mem_cons, List.mem_nil_iff, or_false] at hk
          subst hk
          refine wpOp_run rfl rfl (wp_append_wide DT _ _ 29 59 _ _ Try.underlying29 infoT rfl rfl w5.heap.size (.slice (some ⟨w5.heap.size, 0, none⟩) 0 0) [] rfl P11 _ l rfl (HX.out _ b11).row.wide (by unfold maxLen; simp; omega) (by simp; omega) b11.size ?_)
          intro v12 w12 P12 G12
          rw [List.nil_append] at P12
          have b12 : Below w5.heap.size w5 w12 := ⟨G12.os.trans b11.os, G12.tape.trans b11.tape, G12.output.trans b11.output, Nat.le_trans b11.size G12.size, fun k hk => (G12.block k (Nat.lt_of_lt_of_le hk b11.size) (fun e => by have := own_base P11 e.symm; omega)).trans (b11.block k hk)⟩
          have Q12 := (G12.block (w5.alloc (.cells #[] 59)).heap.size (Array.getElem?_eq_some_iff.1 Q11).1 (fun e => by injection e with e; simp only [size_alloc] at e; first | omega | (have e' : (w5.alloc (.cells #[] 59)).heap.size = w5.heap.size := e; simp only [size_alloc] at e'; omega))).trans Q11
          refine ⟨(SS.out _ b12).2, ?_⟩
          simp only [List.getElem_toArray, List.getElem_cons_succ, List.getElem_cons_zero, Act.put, List.setIfInBounds_toArray, List.set_cons_succ, List.set_cons_zero]
          refine wpAnyH_all (rs := [16]) (by kernel_rfl) (by simp) ?_
          intro k hk
          simp only [List.mem_cons, List.mem_nil_iff, or_false] at hk
          subst hk
          refine wpOp_run rfl rfl (wp_append_own _ _ _ 29 rfl w5.heap.size 59 i0 _ 4 32 Try.underlying29 hi0 hz0 hz1 hz2 rfl (by omega) _ l.length (flatW DT l) rfl P12 ⟨(w5.alloc (.cells #[] 59)).heap.size, 0, none⟩ 1 1 (dtC ⟨last1, first, per, what⟩) rfl rfl (news_dt Q12) (DT.one _) (by unfold maxLen; omega) (by omega) b12.size ?_)
          intro va wA oA gA _
          have BA : Below w5.heap.size w5 wA := ⟨gA.os.trans b12.os, gA.tape.trans b12.tape, gA.output.trans b12.output, Nat.le_trans b12.size gA.size, fun k hk => (gA.block k (Nat.lt_of_lt_of_le hk b12.size) (fun e => by have := own_base P12 e.symm; omega)).trans (b12.block k hk)⟩
          have QA : wA.ownsRow w5.heap.size 59 4 va (l ++ [(⟨last1, first, per, what⟩ : Dt)]).length (flatW DT (l ++ [(⟨last1, first, per, what⟩ : Dt)])) := by
            rw [List.length_append, flatW_append]; simpa [flatW, DT] using oA
          have XA := HX.out _ BA
          obtain ⟨aA, cA, hvA⟩ := own_shape5 QA
          subst hvA
          refine ⟨(SS.out _ BA).2, ?_⟩
          simp only [List.getElem_toArray, List.getElem_cons_succ, List.getElem_cons_zero, Act.put, List.setIfInBounds_toArray, List.set_cons_succ, List.set_cons_zero]
          refine wpAnyH_take (i := 17) (v := (.pointer (some ⟨E, 0, none⟩))) rfl (by kernel_rfl) (by kernel_rfl) (by kernel_rfl) (fun _ _ _ h => h) (.inl ⟨rfl, fun _ hS => by simp [execOp, go_sem, Act.eval]⟩) (SS.out _ BA).2 ?_
          simp only [List.getElem_toArray, List.getElem_cons_succ, List.getElem_cons_zero, Act.put, List.setIfInBounds_toArray, List.set_cons_succ, List.set_cons_zero]
          refine wpAnyH_take (i := 18) (v := (.pointer (some ⟨E, 0, none⟩))) rfl (by kernel_rfl) (by kernel_rfl) (by kernel_rfl) (fun _ _ _ h => h) (.inl ⟨rfl, fun _ hS => by simp [execOp, go_sem, Act.eval]⟩) (SS.out _ BA).2 ?_
          simp only [List.getElem_toArray, List.getElem_cons_succ, List.getElem_cons_zero, Act.put, List.setIfInBounds_toArray, List.set_cons_succ, List.set_cons_zero]
          refine wpAnyH_all (rs := [19]) (by kernel_rfl) (by simp) ?_
          intro k hk
          simp only [List.mem_cons, List.mem_nil_iff, or_false] at hk
          subst hk
          refine wpOp_run rfl rfl (wp_store_cell 29 _ _ rfl E 0 rfl _ rfl (store_tms wA E 0 _ aA _ cA XA.c.1 (XA.frozen 0)) ?_)
          have XS := XA.set (k := 0) (u := (.slice aA (l ++ [(⟨last1, first, per, what⟩ : Dt)]).length cA)) (l' := l ++ [(⟨last1, first, per, what⟩ : Dt)]) (now' := now) (last' := last1) (v' := (.slice aA (l ++ [(⟨last1, first, per, what⟩ : Dt)]).length cA)) rfl (RT.own DT QA) (by simp; omega)
          have sx := XS.1.c.2.2
          refine ⟨sx, ?_⟩
          simp only [List.getElem_toArray, List.getElem_cons_succ, List.getElem_cons_zero, Act.put, List.setIfInBounds_toArray, List.set_cons_succ, List.set_cons_zero]
          refine wpAnyH_done (by kernel_rfl) ?_ _
          have HE : Hid (∃ v', Xw E (l ++ [(⟨last1, first, per, what⟩ : Dt)]) now last1 v' (wA.setCell ⟨E, 0, none⟩ (.slice aA (l ++ [(⟨last1, first, per, what⟩ : Dt)]).length cA)) ∧ w.grownBy (wA.setCell ⟨E, 0, none⟩ (.slice aA (l ++ [(⟨last1, first, per, what⟩ : Dt)]).length cA)) (some E)) := ⟨_, XS.1, grown_trans (grown_trans HG4.out (gb_any (HB5.out.trans (BA.mono HB5.out.size)) _)) XS.2⟩
          have d2 := XS.1.c.2.2
          generalize wA.setCell ⟨E, 0, none⟩ (.slice aA (l ++ [(⟨last1, first, per, what⟩ : Dt)]).length cA) = wz at *
          clear XS sx XA QA oA gA HX SS
          go_wp2
          go_ret2
          exact ⟨rfl, HE.out⟩
      · refine wpOp_run rfl rfl (wp_buildSlice 29 59 1 _ rfl (dtC ⟨last1, first, per, what⟩).toArray i0 _ Try.underlying29 hi0 hz0 (by rw [hz1]; omega) (by rw [hz1]; omega) (by rw [hz1]; simp only [List.map_toArray, List.map_cons, List.map_nil]; exact fill_dt _) ?_)
        have b10 := r0.alloc r0.size (.cells (dtC ⟨last1, first, per, what⟩).toArray 59)
        have Q10 := heap_alloc_new w5 (.cells (dtC ⟨last1, first, per, what⟩).toArray 59)
        refine ⟨(SS.out _ b10).2, ?_⟩
        simp only [List.getElem_toArray, List.getElem_cons_succ, List.getElem_cons_zero, Act.put, List.setIfInBounds_toArray, List.set_cons_succ, List.set_cons_zero]
        refine wpAnyH_all (rs := [1]) (by kernel_rfl) (by simp) ?_
        intro k hk
        simp only [List.mem_cons, List.mem_nil_iff, or_false] at hk
        subst hk
        refine wpOp_run rfl rfl (wp_bs0g Try.underlying29 infoT rfl ?_)
        have b11 := b10.alloc b10.size (.cells #[] 59)
        have P11 : ((w5.alloc (.cells (dtC ⟨last1, first, per, what⟩).toArray 59)).alloc (.cells #[] 59)).ownsRow w5.heap.size 59 4 (.slice (some ⟨(w5.alloc (.cells (dtC ⟨last1, first, per, what⟩).toArray 59)).heap.size, 0, none⟩) 0 0) 0 [] := own_lower (own_empty_e (w5.alloc (.cells (dtC ⟨last1, first, per, what⟩).toArray 59)) 59 4) b10.size
        have Q11 := heap_old Q10 (.cells #[] 59)
        refine ⟨(SS.out _ b11).2, ?_⟩
        simp only [List.getElem_toArray, List.getElem_cons_succ, List.getElem_cons_zero, Act.put, List.setIfInBounds_toArray, List.set_cons_succ, List.set_cons_zero]
        refine wpAnyH_all (rs := [6]) (by kernel_rfl) (by simp) ?_
        intro k hk
        simp only [List.mem_cons, List.mem_nil_iff, or_false] at hk
        subst hk
        refine wpOp_run rfl rfl (wp_append_wide DT _ _ 29 59 _ _ Try.underlying29 infoT rfl rfl w5.heap.size (.slice (some ⟨(w5.alloc (.cells (dtC ⟨last1, first, per, what⟩).toArray 59)).heap.size, 0, none⟩) 0 0) [] rfl P11 _ l rfl (HX.out _ b11).row.wide (by unfold maxLen; simp; omega) (by simp; omega) b11.size ?_)
        intro v12 w12 P12 G12
        rw [List.nil_append] at P12
        have b12 : Below w5.heap.size w5 w12 := ⟨G12.os.trans b11.os, G12.tape.trans b11.tape, G12.output.trans b11.output, Nat.le_trans b11.size G12.size, fun k hk => (G12.block k (Nat.lt_of_lt_of_le hk b11.size) (fun e => by have := own_base P11 e.symm; omega)).trans (b11.block k hk)⟩
        have Q12 := (G12.block w5.heap.size (Array.getElem?_eq_some_iff.1 Q11).1 (fun e => by injection e with e; simp only [size_alloc] at e; first | omega | (have e' : w5.heap.size = (w5.alloc (.cells (dtC ⟨last1, first, per, what⟩).toArray 59)).heap.size := e; simp only [size_alloc] at e'; omega))).trans Q11
        refine ⟨(SS.out _ b12).2, ?_⟩
        simp only [List.getElem_toArray, List.getElem_cons_succ, List.getElem_cons_zero, Act.put, List.setIfInBounds_toArray, List.set_cons_succ, List.set_cons_zero]
        refine wpAnyH_all (rs := [16]) (by kernel_rfl) (by simp) ?_
        intro k hk
        simp only [List.mem_cons, List.mem_nil_iff, or_false] at hk
        subst hk
        refine wpOp_run rfl rfl (wp_append_own _ _ _ 29 rfl w5.heap.size 59 i0 _ 4 32 Try.underlying29 hi0 hz0 hz1 hz2 rfl (by omega) _ l.length (flatW DT l) rfl P12 ⟨w5.heap.size, 0, none⟩ 1 1 (dtC ⟨last1, first, per, what⟩) rfl rfl (news_dt Q12) (DT.one _) (by unfold maxLen; omega) (by omega) b12.size ?_)
        intro va wA oA gA _
        have BA : Below w5.heap.size w5 wA := ⟨gA.os.trans b12.os, gA.tape.trans b12.tape, gA.output.trans b12.output, Nat.le_trans b12.size gA.size, fun k hk => (gA.block k (Nat.lt_of_lt_of_le hk b12.size) (fun e => by have := own_base P12 e.symm; omega)).trans (b12.block k hk)⟩
        have QA : wA.ownsRow w5.heap.size 59 4 va (l ++ [(⟨last1, first, per, what⟩ : Dt)]).length (flatW DT (l ++ [(⟨last1, first, per, what⟩ : Dt)])) := by
          rw [List.length_append, flatW_append]; simpa [flatW, DT] using oA
        have XA := HX.out _ BA
        obtain ⟨aA, cA, hvA⟩ := own_shape5 QA
        subst hvA
        refine ⟨(SS.out _ BA).2, ?_⟩
        simp only [List.getElem_toArray, List.getElem_cons_succ, List.getElem_cons_zero, Act.put, List.setIfInBounds_toArray, List.set_cons_succ, List.set_cons_zero]
        refine wpAnyH_take (i := 17) (v := (.pointer (some ⟨E, 0, none⟩))) rfl (by kernel_rfl) (by kernel_rfl) (by kernel_rfl) (fun _ _ _ h => h) (.inl ⟨rfl, fun _ hS => by simp [execOp, go_sem, Act.eval]⟩) (SS.out _ BA).2 ?_
        simp only [List.getElem_toArray, List.getElem_cons_succ, List.getElem_cons_zero, Act.put, List.setIfInBounds_toArray, List.set_cons_succ, List.set_cons_zero]
        refine wpAnyH_take (i := 18) (v := (.pointer (some ⟨E, 0, none⟩))) rfl (by kernel_rfl) (by kernel_rfl) (by kernel_rfl) (fun _ _ _ h => h) (.inl ⟨rfl, fun _ hS => by simp [execOp, go_sem, Act.eval]⟩) (SS.out _ BA).2 ?_
        simp only [List.getElem_toArray, List.getElem_cons_succ, List.getElem_cons_zero, Act.put, List.setIfInBounds_toArray, List.set_cons_succ, List.set_cons_zero]
        refine wpAnyH_all (rs := [19]) (by kernel_rfl) (by simp) ?_
        intro k hk
        simp only [List.mem_cons, List.mem_nil_iff, or_false] at hk
        subst hk
        refine wpOp_run rfl rfl (wp_store_cell 29 _ _ rfl E 0 rfl _ rfl (store_tms wA E 0 _ aA _ cA XA.c.1 (XA.frozen 0)) ?_)
        have XS := XA.set (k := 0) (u := (.slice aA (l ++ [(⟨last1, first, per, what⟩ : Dt)]).length cA)) (l' := l ++ [(⟨last1, first, per, what⟩ : Dt)]) (now' := now) (last' := last1) (v' := (.slice aA (l ++ [(⟨last1, first, per, what⟩ : Dt)]).length cA)) rfl (RT.own DT QA) (by simp; omega)
        have sx := XS.1.c.2.2
        refine ⟨sx, ?_⟩
        simp only [List.getElem_toArray, List.getElem_cons_succ, List.getElem_cons_zero, Act.put, List.setIfInBounds_toArray, List.set_cons_succ, List.set_cons_zero]
        refine wpAnyH_done (by kernel_rfl) ?_ _
        have HE : Hid (∃ v', Xw E (l ++ [(⟨last1, first, per, what⟩ : Dt)]) now last1 v' (wA.setCell ⟨E, 0, none⟩ (.slice aA (l ++ [(⟨last1, first, per, what⟩ : Dt)]).length cA)) ∧ w.grownBy (wA.setCell ⟨E, 0, none⟩ (.slice aA (l ++ [(⟨last1, first, per, what⟩ : Dt)]).length cA)) (some E)) := ⟨_, XS.1, grown_trans (grown_trans HG4.out (gb_any (HB5.out.trans (BA.mono HB5.out.size)) _)) XS.2⟩
        have d2 := XS.1.c.2.2
        generalize wA.setCell ⟨E, 0, none⟩ (.slice aA (l ++ [(⟨last1, first, per, what⟩ : Dt)]).length cA) = wz at *
        clear XS sx XA QA oA gA HX SS
        go_wp2
        go_ret2
        exact ⟨rfl, HE.out⟩
    · refine wpOp_run rfl rfl (wp_buildSlice 29 59 1 _ rfl (dtC ⟨last1, first, per, what⟩).toArray i0 _ Try.underlying29 hi0 hz0 (by rw [hz1]; omega) (by rw [hz1]; omega) (by rw [hz1]; simp only [List.map_toArray, List.map_cons, List.map_nil]; exact fill_dt _) ?_)
      have b10 := r0.alloc r0.size (.cells (dtC ⟨last1, first, per, what⟩).toArray 59)
      have Q10 := heap_alloc_new w5 (.cells (dtC ⟨last1, first, per, what⟩).toArray 59)
      refine ⟨(SS.out _ b10).2, ?_⟩
      simp only [List.getElem_toArray, List.getElem_cons_succ, List.getElem_cons_zero, Act.put, List.setIfInBounds_toArray, List.set_cons_succ, List.set_cons_zero]
      refine wpAnyH_all (rs := [1, 5]) (by kernel_rfl) (by simp) ?_
      intro k hk
      simp only [List.mem_cons, List.mem_nil_iff, or_false] at hk
      rcases hk with rfl | rfl
      · refine wpOp_run rfl rfl (wp_bs0g Try.underlying29 infoT rfl ?_)
        have b11 := b10.alloc b10.size (.cells #[] 59)
        have P11 : ((w5.alloc (.cells (dtC ⟨last1, first, per, what⟩).toArray 59)).alloc (.cells #[] 59)).ownsRow w5.heap.size 59 4 (.slice (some ⟨(w5.alloc (.cells (dtC ⟨last1, first, per, what⟩).toArray 59)).heap.size, 0, none⟩) 0 0) 0 [] := own_lower (own_empty_e (w5.alloc (.cells (dtC ⟨last1, first, per, what⟩).toArray 59)) 59 4) b10.size
        have Q11 := heap_old Q10 (.cells #[] 59)
        refine ⟨(SS.out _ b11).2, ?_⟩
        simp only [List.getElem_toArray, List.getElem_cons_succ, List.getElem_cons_zero, Act.put, List.setIfInBounds_toArray, List.set_cons_succ, List.set_cons_zero]
        refine wpAnyH_all (rs := [5]) (by kernel_rfl) (by simp) ?_
        intro k hk
        simp only [List.mem_cons, List.mem_nil_iff, or_false] at hk
        subst hk
        refine wpOp_run rfl rfl (wp_load_cell 29 _ rfl E 0 rfl (.slice ao l.length cap) (load_tms _ E 0 _ _ _ (SS.out _ b11).1) ?_)
        refine ⟨(SS.out _ b11).2, ?_⟩
        simp only [List.getElem_toArray, List.getElem_cons_succ, List.getElem_cons_zero, Act.put, List.setIfInBounds_toArray, List.set_cons_succ, List.set_cons_zero]
        refine wpAnyH_all (rs := [6]) (by kernel_rfl) (by simp) ?_
        intro k hk
        simp only [List.mem_cons, List.mem_nil_iff, or_false] at hk
        subst hk
        refine wpOp_run rfl rfl (wp_append_wide DT _ _ 29 59 _ _ Try.underlying29 infoT rfl rfl w5.heap.size (.slice (some ⟨(w5.alloc (.cells (dtC ⟨last1, first, per, what⟩).toArray 59)).heap.size, 0, none⟩) 0 0) [] rfl P11 _ l rfl (HX.out _ b11).row.wide (by unfold maxLen; simp; omega) (by simp; omega) b11.size ?_)
        intro v12 w12 P12 G12
        rw [List.nil_append] at P12
        have b12 : Below w5.heap.size w5 w12 := ⟨G12.os.trans b11.os, G12.tape.trans b11.tape, G12.output.trans b11.output, Nat.le_trans b11.size G12.size, fun k hk => (G12.block k (Nat.lt_of_lt_of_le hk b11.size) (fun e => by have := own_base P11 e.symm; omega)).trans (b11.block k hk)⟩
        have Q12 := (G12.block w5.heap.size (Array.getElem?_eq_some_iff.1 Q11).1 (fun e => by injection e with e; simp only [size_alloc] at e; first | omega | (have e' : w5.heap.size = (w5.alloc (.cells (dtC ⟨last1, first, per, what⟩).toArray 59)).heap.size := e; simp only [size_alloc] at e'; omega))).trans Q11
        refine ⟨(SS.out _ b12).2, ?_⟩
        simp only [List.getElem_toArray, List.getElem_cons_succ, List.getElem_cons_zero, Act.put, List.setIfInBounds_toArray, List.set_cons_succ, List.set_cons_zero]
        refine wpAnyH_all (rs := [16]) (by kernel_rfl) (by simp) ?_
        intro k hk
        simp only [List.mem_cons, List.mem_nil_iff, or_false] at hk
        subst hk
        refine wpOp_run rfl rfl (wp_append_own _ _ _ 29 rfl w5.heap.size 59 i0 _ 4 32 Try.underlying29 hi0 hz0 hz1 hz2 rfl (by omega) _ l.length (flatW DT l) rfl P12 ⟨w5.heap.size, 0, none⟩ 1 1 (dtC ⟨last1, first, per, what⟩) rfl rfl (news_dt Q12) (DT.one _) (by unfold maxLen; omega) (by omega) b12.size ?_)
        intro va wA oA gA _
        have BA : Below w5.heap.size w5 wA := ⟨gA.os.trans b12.os, gA.tape.trans b12.tape, gA.output.trans b12.output, Nat.le_trans b12.size gA.size, fun k hk => (gA.block k (Nat.lt_of_lt_of_le hk b12.size) (fun e => by have := own_base P12 e.symm; omega)).trans (b12.block k hk)⟩
        have QA : wA.ownsRow w5.heap.size 59 4 va (l ++ [(⟨last1, first, per, what⟩ : Dt)]).length (flatW DT (l ++ [(⟨last1, first, per, what⟩ : Dt)])) := by
          rw [List.length_append, flatW_append]; simpa [flatW, DT] using oA
        have XA := HX.out _ BA
        obtain ⟨aA, cA, hvA⟩ := own_shape5 QA
        subst hvA
        refine ⟨(SS.out _ BA).2, ?_⟩
        simp only [List.getElem_toArray, List.getElem_cons_succ, List.getElem_cons_zero, Act.put, List.setIfInBounds_toArray, List.set_cons_succ, List.set_cons_zero]
        refine wpAnyH_take (i := 17) (v := (.pointer (some ⟨E, 0, none⟩))) rfl (by kernel_rfl) (by kernel_rfl) (by kernel_rfl) (fun _ _ _ h => h) (.inl ⟨rfl, fun _ hS => by simp [execOp, go_sem, Act.eval]⟩) (SS.out _ BA).2 ?_
        simp only [List.getElem_toArray, List.getElem_cons_succ, List.getElem_cons_zero, Act.put, List.setIfInBounds_toArray, List.set_cons_succ, List.set_cons_zero]
        refine wpAnyH_take (i := 18) (v := (.pointer (some ⟨E, 0, none⟩))) rfl (by kernel_rfl) (by kernel_rfl) (by kernel_rfl) (fun _ _ _ h => h) (.inl ⟨rfl, fun _ hS => by simp [execOp, go_sem, Act.eval]⟩) (SS.out _ BA).2 ?_
        simp only [List.getElem_toArray, List.getElem_cons_succ, List.getElem_cons_zero, Act.put, List.setIfInBounds_toArray, List.set_cons_succ, List.set_cons_zero]
        refine wpAnyH_all (rs := [19]) (by kernel_rfl) (by simp) ?_
        intro k hk
        simp only [List.mem_cons, List.mem_nil_iff, or_false] at hk
        subst hk
        refine wpOp_run rfl rfl (wp_store_cell 29 _ _ rfl E 0 rfl _ rfl (store_tms wA E 0 _ aA _ cA XA.c.1 (XA.frozen 0)) ?_)
        have XS := XA.set (k := 0) (u := (.slice aA (l ++ [(⟨last1, first, per, what⟩ : Dt)]).length cA)) (l' := l ++ [(⟨last1, first, per, what⟩ : Dt)]) (now' := now) (last' := last1) (v' := (.slice aA (l ++ [(⟨last1, first, per, what⟩ : Dt)]).length cA)) rfl (RT.own DT QA) (by simp; omega)
        have sx := XS.1.c.2.2
        refine ⟨sx, ?_⟩
        simp only [List.getElem_toArray, List.getElem_cons_succ, List.getElem_cons_zero, Act.put, List.setIfInBounds_toArray, List.set_cons_succ, List.set_cons_zero]
        refine wpAnyH_done (by kernel_rfl) ?_ _
        have HE : Hid (∃ v', Xw E (l ++ [(⟨last1, first, per, what⟩ : Dt)]) now last1 v' (wA.setCell ⟨E, 0, none⟩ (.slice aA (l ++ [(⟨last1, first, per, what⟩ : Dt)]).length cA)) ∧ w.grownBy (wA.setCell ⟨E, 0, none⟩ (.slice aA (l ++ [(⟨last1, first, per, what⟩ : Dt)]).length cA)) (some E)) := ⟨_, XS.1, grown_trans (grown_trans HG4.out (gb_any (HB5.out.trans (BA.mono HB5.out.size)) _)) XS.2⟩
        have d2 := XS.1.c.2.2
        generalize wA.setCell ⟨E, 0, none⟩ (.slice aA (l ++ [(⟨last1, first, per, what⟩ : Dt)]).length cA) = wz at *
        clear XS sx XA QA oA gA HX SS
        go_wp2
        go_ret2
        exact ⟨rfl, HE.out⟩
      · refine wpOp_run rfl rfl (wp_load_cell 29 _ rfl E 0 rfl (.slice ao l.length cap) (load_tms _ E 0 _ _ _ (SS.out _ b10).1) ?_)
        refine ⟨(SS.out _ b10).2, ?_⟩
        simp only [List.getElem_toArray, List.getElem_cons_succ, List.getElem_cons_zero, Act.put, List.setIfInBounds_toArray, List.set_cons_succ, List.set_cons_zero]
        refine wpAnyH_all (rs := [1]) (by kernel_rfl) (by simp) ?_
        intro k hk
        simp only [List.mem_cons, List.mem_nil_iff, or_false] at hk
        subst hk
        refine wpOp_run rfl rfl (wp_bs0g Try.underlying29 infoT rfl ?_)
        have b11 := b10.alloc b10.size (.cells #[] 59)
        have P11 : ((w5.alloc (.cells (dtC ⟨last1, first, per, what⟩).toArray 59)).alloc (.cells #[] 59)).ownsRow w5.heap.size 59 4 (.slice (some ⟨(w5.alloc (.cells (dtC ⟨last1, first, per, what⟩).toArray 59)).heap.size, 0, none⟩) 0 0) 0 [] := own_lower (own_empty_e (w5.alloc (.cells (dtC ⟨last1, first, per, what⟩).toArray 59)) 59 4) b10.size
        have Q11 := heap_old Q10 (.cells #[] 59)
        refine ⟨(SS.out _ b11).2, ?_⟩
        simp only [List.getElem_toArray, List.getElem_cons_succ, List.getElem_cons_zero, Act.put, List.setIfInBounds_toArray, List.set_cons_succ, List.set_cons_zero]
        refine wpAnyH_all (rs := [6]) (by kernel_rfl) (by simp) ?_
        intro k hk
        simp only [List.mem_cons, List.mem_nil_iff, or_false] at hk
        subst hk
        refine wpOp_run rfl rfl (wp_append_wide DT _ _ 29 59 _ _ Try.underlying29 infoT rfl rfl w5.heap.size (.slice (some ⟨(w5.alloc (.cells (dtC ⟨last1, first, per, what⟩).toArray 59)).heap.size, 0, none⟩) 0 0) [] rfl P11 _ l rfl (HX.out _ b11).row.wide (by unfold maxLen; simp; omega) (by simp; omega) b11.size ?_)
        intro v12 w12 P12 G12
        rw [List.nil_append] at P12
        have b12 : Below w5.heap.size w5 w12 := ⟨G12.os.trans b11.os, G12.tape.trans b11.tape, G12.output.trans b11.output, Nat.le_trans b11.size G12.size, fun k hk => (G12.block k (Nat.lt_of_lt_of_le hk b11.size) (fun e => by have := own_base P11 e.symm; omega)).trans (b11.block k hk)⟩
        have Q12 := (G12.block w5.heap.size (Array.getElem?_eq_some_iff.1 Q11).1 (fun e => by injection e with e; simp only [size_alloc] at e; first | omega | (have e' : w5.heap.size = (w5.alloc (.cells (dtC ⟨last1, first, per, what⟩).toArray 59)).heap.size := e; simp only [size_alloc] at e'; omega))).trans Q11
        refine ⟨(SS.out _ b12).2, ?_⟩
        simp only [List.getElem_toArray, List.getElem_cons_succ, List.getElem_cons_zero, Act.put, List.setIfInBounds_toArray, List.set_cons_succ, List.set_cons_zero]
        refine wpAnyH_all (rs := [16]) (by kernel_rfl) (by simp) ?_
        intro k hk
        simp only [List.mem_cons, List.mem_nil_iff, or_false] at hk
        subst hk
        refine wpOp_run rfl rfl (wp_append_own _ _ _ 29 rfl w5.heap.size 59 i0 _ 4 32 Try.underlying29 hi0 hz0 hz1 hz2 rfl (by omega) _ l.length (flatW DT l) rfl P12 ⟨w5.heap.size, 0, none⟩ 1 1 (dtC ⟨last1, first, per, what⟩) rfl rfl (news_dt Q12) (DT.one _) (by unfold maxLen; omega) (by omega) b12.size ?_)
        intro va wA oA gA _
        have BA : Below w5.heap.size w5 wA := ⟨gA.os.trans b12.os, gA.tape.trans b12.tape, gA.output.trans b12.output, Nat.le_trans b12.size gA.size, fun k hk => (gA.block k (Nat.lt_of_lt_of_le hk b12.size) (fun e => by have := own_base P12 e.symm; omega)).trans (b12.block k hk)⟩
        have QA : wA.ownsRow w5.heap.size 59 4 va (l ++ [(⟨last1, first, per, what⟩ : Dt)]).length (flatW DT (l ++ [(⟨last1, first, per, what⟩ : Dt)])) := by
          rw [List.length_append, flatW_append]; simpa [flatW, DT] using oA
        have XA := HX.out _ BA
        obtain ⟨aA, cA, hvA⟩ := own_shape5 QA
        subst hvA
        refine ⟨(SS.out _ BA).2, ?_⟩
        simp only [List.getElem_toArray, List.getElem_cons_succ, List.getElem_cons_zero, Act.put, List.setIfInBounds_toArray, List.set_cons_succ, List.set_cons_zero]
        refine wpAnyH_take (i := 17) (v := (.pointer (some ⟨E, 0, none⟩))) rfl (by kernel_rfl) (by kernel_rfl) (by kernel_rfl) (fun _ _ _ h => h) (.inl ⟨rfl, fun _ hS => by simp [execOp, go_sem, Act.eval]⟩) (SS.out _ BA).2 ?_
        simp only [List.getElem_toArray, List.getElem_cons_succ, List.getElem_cons_zero, Act.put, List.setIfInBounds_toArray, List.set_cons_succ, List.set_cons_zero]
        refine wpAnyH_take (i := 18) (v := (.pointer (some ⟨E, 0, none⟩))) rfl (by kernel_rfl) (by kernel_rfl) (by kernel_rfl) (fun _ _ _ h => h) (.inl ⟨rfl, fun _ hS => by simp [execOp, go_sem, Act.eval]⟩) (SS.out _ BA).2 ?_
        simp only [List.getElem_toArray, List.getElem_cons_succ, List.getElem_cons_zero, Act.put, List.setIfInBounds_toArray, List.set_cons_succ, List.set_cons_zero]
        refine wpAnyH_all (rs := [19]) (by kernel_rfl) (by simp) ?_
        intro k hk
        simp only [List.mem_cons, List.mem_nil_iff, or_false] at hk
        subst hk
        refine wpOp_run rfl rfl (wp_store_cell 29 _ _ rfl E 0 rfl _ rfl (store_tms wA E 0 _ aA _ cA XA.c.1 (XA.frozen 0)) ?_)
        have XS := XA.set (k := 0) (u := (.slice aA (l ++ [(⟨last1, first, per, what⟩ : Dt)]).length cA)) (l' := l ++ [(⟨last1, first, per, what⟩ : Dt)]) (now' := now) (last' := last1) (v' := (.slice aA (l ++ [(⟨last1, first, per, what⟩ : Dt)]).length cA)) rfl (RT.own DT QA) (by simp; omega)
        have sx := XS.1.c.2.2
        refine ⟨sx, ?_⟩
        simp only [List.getElem_toArray, List.getElem_cons_succ, List.getElem_cons_zero, Act.put, List.setIfInBounds_toArray, List.set_cons_succ, List.set_cons_zero]
        refine wpAnyH_done (by kernel_rfl) ?_ _
        have HE : Hid (∃ v', Xw E (l ++ [(⟨last1, first, per, what⟩ : Dt)]) now last1 v' (wA.setCell ⟨E, 0, none⟩ (.slice aA (l ++ [(⟨last1, first, per, what⟩ : Dt)]).length cA)) ∧ w.grownBy (wA.setCell ⟨E, 0, none⟩ (.slice aA (l ++ [(⟨last1, first, per, what⟩ : Dt)]).length cA)) (some E)) := ⟨_, XS.1, grown_trans (grown_trans HG4.out (gb_any (HB5.out.trans (BA.mono HB5.out.size)) _)) XS.2⟩
        have d2 := XS.1.c.2.2
        generalize wA.setCell ⟨E, 0, none⟩ (.slice aA (l ++ [(⟨last1, first, per, what⟩ : Dt)]).length cA) = wz at *
        clear XS sx XA QA oA gA HX SS
        go_wp2
        go_ret2
        exact ⟨rfl, HE.out⟩
  | false =>
    have hp' : per = 0 := by rw [hp]; rfl
    subst hp'
    clear hp f2
    go_enter Try.func20, Try.ntmps20
    go_wp2_with fail
    refine hW1.mono ?_
    rintro e z1 ⟨rfl, ez1⟩
    rw [ez1]
    clear ez1
    clear hW1
    go_wp2_with fail
    refine wp_region_held (S := fun x => x.cell? ⟨E, 2, none⟩ = some (.int .i64 (last1 : Int))) (by kernel_rfl) ?_
    obtain ⟨w4, hw4⟩ : ∃ x : World, w.setCell ⟨E, 2, none⟩ (.int .i64 (last1 : Int)) = x := ⟨_, rfl⟩
    rw [hw4] at HX4 HG4 ⊢
    obtain ⟨w5, hw5⟩ : ∃ x : World, { w4 with drawn := w4.drawn + 1 } = x := ⟨_, rfl⟩
    rw [hw5]
    have HB5 : Hid (Below w4.heap.size w4 w5) := by rw [← hw5]; exact ⟨rfl, rfl, rfl, Nat.le_refl _, fun _ _ => rfl⟩
    have r0 := Below.refl w5.heap.size w5
    have HX : Hid (∀ x, Below w5.heap.size w5 x → Xw E l now last1 (.slice ao l.length cap) x) := fun x hx => (HX4.out.below HB5.out).below hx
    have SS : Hid (∀ x, Below w5.heap.size w5 x → x.cell? ⟨E, 0, none⟩ = some (.slice ao l.length cap) ∧ x.cell? ⟨E, 2, none⟩ = some (.int .i64 (last1 : Int))) := fun x hx => ⟨(HX.out x hx).c.1, (HX.out x hx).c.2.2⟩
    clear hw5 hw4 HX4 fz c0 c1 c2
    refine wpAnyH_take (i := 0) (v := (.pointer (some ⟨E, 0, none⟩))) rfl (by kernel_rfl) (by kernel_rfl) (by kernel_rfl) (fun _ _ _ h => h) (.inl ⟨rfl, fun _ hS => rfl⟩) (SS.out _ r0).2 ?_
    simp only [List.getElem_toArray, List.getElem_cons_succ, List.getElem_cons_zero, Act.put, List.setIfInBounds_toArray, List.set_cons_succ, List.set_cons_zero]
    refine wpAnyH_take (i := 2) (v := (.pointer (some ⟨E, 0, none⟩))) rfl (by kernel_rfl) (by kernel_rfl) (by kernel_rfl) (fun _ _ _ h => h) (.inl ⟨rfl, fun _ hS => rfl⟩) (SS.out _ r0).2 ?_
    simp only [List.getElem_toArray, List.getElem_cons_succ, List.getElem_cons_zero, Act.put, List.setIfInBounds_toArray, List.set_cons_succ, List.set_cons_zero]
    refine wpAnyH_take (i := 3) (v := (.pointer (some ⟨E, 0, none⟩))) rfl (by kernel_rfl) (by kernel_rfl) (by kernel_rfl) (fun _ _ _ h => h) (.inl ⟨rfl, fun _ hS => by simp [execOp, go_sem, Act.eval]⟩) (SS.out _ r0).2 ?_
    simp only [List.getElem_toArray, List.getElem_cons_succ, List.getElem_cons_zero, Act.put, List.setIfInBounds_toArray, List.set_cons_succ, List.set_cons_zero]
    refine wpAnyH_take (i := 4) (v := (.pointer (some ⟨E, 0, none⟩))) rfl (by kernel_rfl) (by kernel_rfl) (by kernel_rfl) (fun _ _ _ h => h) (.inl ⟨rfl, fun _ hS => by simp [execOp, go_sem, Act.eval]⟩) (SS.out _ r0).2 ?_
    simp only [List.getElem_toArray, List.getElem_cons_succ, List.getElem_cons_zero, Act.put, List.setIfInBounds_toArray, List.set_cons_succ, List.set_cons_zero]
    refine wpAnyH_take (i := 7) (v := (.pointer (some ⟨E, 0, none⟩))) rfl (by kernel_rfl) (by kernel_rfl) (by kernel_rfl) (fun _ _ _ h => h) (.inl ⟨rfl, fun _ hS => rfl⟩) (SS.out _ r0).2 ?_
    simp only [List.getElem_toArray, List.getElem_cons_succ, List.getElem_cons_zero, Act.put, List.setIfInBounds_toArray, List.set_cons_succ, List.set_cons_zero]
    refine wpAnyH_take (i := 8) (v := (.pointer (some ⟨E, 0, none⟩))) rfl (by kernel_rfl) (by kernel_rfl) (by kernel_rfl) (fun _ _ _ h => h) (.inl ⟨rfl, fun _ hS => by simp [execOp, go_sem, Act.eval]⟩) (SS.out _ r0).2 ?_
    simp only [List.getElem_toArray, List.getElem_cons_succ, List.getElem_cons_zero, Act.put, List.setIfInBounds_toArray, List.set_cons_succ, List.set_cons_zero]
    refine wpAnyH_take (i := 9) (v := (.pointer (some ⟨E, 2, none⟩))) rfl (by kernel_rfl) (by kernel_rfl) (by kernel_rfl) (fun _ _ _ h => h) (.inl ⟨rfl, fun _ hS => by simp [execOp, go_sem, Act.eval]⟩) (SS.out _ r0).2 ?_
    simp only [List.getElem_toArray, List.getElem_cons_succ, List.getElem_cons_zero, Act.put, List.setIfInBounds_toArray, List.set_cons_succ, List.set_cons_zero]
    refine wpAnyH_take (i := 10) (v := (.int .i64 last1)) rfl (by kernel_rfl) (by kernel_rfl) (by kernel_rfl) (fun _ _ _ h => h) (.inl ⟨rfl, fun _ hS => exec_load rfl rfl (load_int _ E 2 _ hS)⟩) (SS.out _ r0).2 ?_
    simp only [List.getElem_toArray, List.getElem_cons_succ, List.getElem_cons_zero, Act.put, List.setIfInBounds_toArray, List.set_cons_succ, List.set_cons_zero]
    refine wpAnyH_take (i := 11) (v := (.int .u64 first)) rfl (by kernel_rfl) (by kernel_rfl) (by kernel_rfl) (fun _ _ _ h => h) (.inl ⟨rfl, fun _ hS => rfl⟩) (SS.out _ r0).2 ?_
    simp only [List.getElem_toArray, List.getElem_cons_succ, List.getElem_cons_zero, Act.put, List.setIfInBounds_toArray, List.set_cons_succ, List.set_cons_zero]
    refine wpAnyH_take (i := 12) (v := (.int .u64 0)) rfl (by kernel_rfl) (by kernel_rfl) (by kernel_rfl) (fun _ _ _ h => h) (.inl ⟨rfl, fun _ hS => rfl⟩) (SS.out _ r0).2 ?_
    simp only [List.getElem_toArray, List.getElem_cons_succ, List.getElem_cons_zero, Act.put, List.setIfInBounds_toArray, List.set_cons_succ, List.set_cons_zero]
    refine wpAnyH_take (i := 13) (v := (.int .i64 what)) rfl (by kernel_rfl) (by kernel_rfl) (by kernel_rfl) (fun _ _ _ h => h) (.inl ⟨rfl, fun _ hS => rfl⟩) (SS.out _ r0).2 ?_
    simp only [List.getElem_toArray, List.getElem_cons_succ, List.getElem_cons_zero, Act.put, List.setIfInBounds_toArray, List.set_cons_succ, List.set_cons_zero]
    refine wpAnyH_take (i := 14) (v := (.agg (dtC ⟨last1, first, 0, what⟩).toArray)) rfl (by kernel_rfl) (by kernel_rfl) (by kernel_rfl) (fun _ _ _ h => h) (.inl ⟨rfl, fun _ hS => exec_buildT rfl rfl rfl rfl rfl _⟩) (SS.out _ r0).2 ?_
    simp only [List.getElem_toArray, List.getElem_cons_succ, List.getElem_cons_zero, Act.put, List.setIfInBounds_toArray, List.set_cons_succ, List.set_cons_zero]
    refine wpAnyH_all (rs := [1, 5, 15]) (by kernel_rfl) (by simp) ?_
    intro k hk
    simp only [List.mem_cons, List.mem_nil_iff, or_false] at hk
    rcases hk with rfl | rfl | rfl
    · refine wpOp_run rfl rfl (wp_bs0g Try.underlying29 infoT rfl ?_)
      have b10 := r0.alloc r0.size (.cells #[] 59)
      have P10 : (w5.alloc (.cells #[] 59)).ownsRow w5.heap.size 59 4 (.slice (some ⟨w5.heap.size, 0, none⟩) 0 0) 0 [] := own_lower (own_empty_e w5 59 4) r0.size
      refine ⟨(SS.out _ b10).2, ?_⟩
      simp only [List.getElem_toArray, List.getElem_cons_succ, List.getElem_cons_zero, Act.put, List.setIfInBounds_toArray, List.set_cons_succ, List.set_cons_zero]
      refine wpAnyH_all (rs := [5, 15]) (by kernel_rfl) (by simp) ?_
      intro k hk
      simp only [List.mem_cons, List.mem_nil_iff, or_false] at hk
      rcases hk with rfl | rfl
      · refine wpOp_run rfl rfl (wp_load_cell 29 _ rfl E 0 rfl (.slice ao l.length cap) (load_tms _ E 0 _ _ _ (SS.out _ b10).1) ?_)
        refine ⟨(SS.out _ b10).2, ?_⟩
        simp only [List.getElem_toArray, List.getElem_cons_succ, List.getElem_cons_zero, Act.put, List.setIfInBounds_toArray, List.set_cons_succ, List.set_cons_zero]
        refine wpAnyH_all (rs := [6, 15]) (by kernel_rfl) (by simp) ?_
        intro k hk
        simp only [List.mem_cons, List.mem_nil_iff, or_false] at hk
        rcases hk with rfl | rfl
        · refine wpOp_run rfl rfl (wp_append_wide DT _ _ 29 59 _ _ Try.underlying29 infoT rfl rfl w5.heap.size (.slice (some ⟨w5.heap.size, 0, none⟩) 0 0) [] rfl P10 _ l rfl (HX.out _ b10).row.wide (by unfold maxLen; simp; omega) (by simp; omega) b10.size ?_)
          intro v11 w11 P11 G11
          rw [List.nil_append] at P11
          have b11 : Below w5.heap.size w5 w11 := ⟨G11.os.trans b10.os, G11.tape.trans b10.tape, G11.output.trans b10.output, Nat.le_trans b10.size G11.size, fun k hk => (G11.block k (Nat.lt_of_lt_of_le hk b10.size) (fun e => by have := own_base P10 e.symm; omega)).trans (b10.block k hk)⟩
          refine ⟨(SS.out _ b11).2, ?_⟩
          simp only [List.getElem_toArray, List.getElem_cons_succ, List.getElem_cons_zero, Act.put, List.setIfInBounds_toArray, List.set_cons_succ, List.set_cons_zero]
          refine wpAnyH_all (rs := [15]) (by kernel_rfl) (by simp) ?_
          intro k hk
          simp only [List.mem_cons, List.mem_nil_iff, or_false] at hk
          subst hk
          refine wpOp_run rfl rfl (wp_buildSlice 29 59 1 _ rfl (dtC ⟨last1, first, 0, what⟩).toArray i0 _ Try.underlying29 hi0 hz0 (by rw [hz1]; omega) (by rw [hz1]; omega) (by rw [hz1]; simp only [List.map_toArray, List.map_cons, List.map_nil]; exact fill_dt _) ?_)
          have b12 := b11.alloc b11.size (.cells (dtC ⟨last1, first, 0, what⟩).toArray 59)
          have Q12 := heap_alloc_new w11 (.cells (dtC ⟨last1, first, 0, what⟩).toArray 59)
          have P12 := own_alloc P11 (.cells (dtC ⟨last1, first, 0, what⟩).toArray 59)
          refine ⟨(SS.out _ b12).2, ?_⟩
          simp only [List.getElem_toArray, List.getElem_cons_succ, List.getElem_cons_zero, Act.put, List.setIfInBounds_toArray, List.set_cons_succ, List.set_cons_zero]
          refine wpAnyH_all (rs := [16]) (by kernel_rfl) (by simp) ?_
          intro k hk
          simp only [List.mem_cons, List.mem_nil_iff, or_false] at hk
          subst hk
          refine wpOp_run rfl rfl (wp_append_own _ _ _ 29 rfl w5.heap.size 59 i0 _ 4 32 Try.underlying29 hi0 hz0 hz1 hz2 rfl (by omega) _ l.length (flatW DT l) rfl P12 ⟨w11.heap.size, 0, none⟩ 1 1 (dtC ⟨last1, first, 0, what⟩) rfl rfl (news_dt Q12) (DT.one _) (by unfold maxLen; omega) (by omega) b12.size ?_)
          intro va wA oA gA _
          have BA : Below w5.heap.size w5 wA := ⟨gA.os.trans b12.os, gA.tape.trans b12.tape, gA.output.trans b12.output, Nat.le_trans b12.size gA.size, fun k hk => (gA.block k (Nat.lt_of_lt_of_le hk b12.size) (fun e => by have := own_base P12 e.symm; omega)).trans (b12.block k hk)⟩
          have QA : wA.ownsRow w5.heap.size 59 4 va (l ++ [(⟨last1, first, 0, what⟩ : Dt)]).length (flatW DT (l ++ [(⟨last1, first, 0, what⟩ : Dt)])) := by
            rw [List.length_append, flatW_append]; simpa [flatW, DT] using oA
          have XA := HX.out _ BA
          obtain ⟨aA, cA, hvA⟩ := own_shape5 QA
          subst hvA
          refine ⟨(SS.out _ BA).2, ?_⟩
          simp only [List.getElem_toArray, List.getElem_cons_succ, List.getElem_cons_zero, Act.put, List.setIfInBounds_toArray, List.set_cons_succ, List.set_cons_zero]
          refine wpAnyH_take (i := 17) (v := (.pointer (some ⟨E, 0, none⟩))) rfl (by kernel_rfl) (by kernel_rfl) (by kernel_rfl) (fun _ _ _ h => h) (.inl ⟨rfl, fun _ hS => by simp [execOp, go_sem, Act.eval]⟩) (SS.out _ BA).2 ?_
          simp only [List.getElem_toArray, List.getElem_cons_succ, List.getElem_cons_zero, Act.put, List.setIfInBounds_toArray, List.set_cons_succ, List.set_cons_zero]
          refine wpAnyH_take (i := 18) (v := (.pointer (some ⟨E, 0, none⟩))) rfl (by kernel_rfl) (by kernel_rfl) (by kernel_rfl) (fun _ _ _ h => h) (.inl ⟨rfl, fun _ hS => by simp [execOp, go_sem, Act.eval]⟩) (SS.out _ BA).2 ?_
          simp only [List.getElem_toArray, List.getElem_cons_succ, List.getElem_cons_zero, Act.put, List.setIfInBounds_toArray, List.set_cons_succ, List.set_cons_zero]
          refine wpAnyH_all (rs := [19]) (by kernel_rfl) (by simp) ?_
          intro k hk
          simp only [List.mem_cons, List.mem_nil_iff, or_false] at hk
          subst hk
          refine wpOp_run rfl rfl (wp_store_cell 29 _ _ rfl E 0 rfl _ rfl (store_tms wA E 0 _ aA _ cA XA.c.1 (XA.frozen 0)) ?_)
          have XS := XA.set (k := 0) (u := (.slice aA (l ++ [(⟨last1, first, 0, what⟩ : Dt)]).length cA)) (l' := l ++ [(⟨last1, first, 0, what⟩ : Dt)]) (now' := now) (last' := last1) (v' := (.slice aA (l ++ [(⟨last1, first, 0, what⟩ : Dt)]).length cA)) rfl (RT.own DT QA) (by simp; omega)
          have sx := XS.1.c.2.2
          refine ⟨sx, ?_⟩
          simp only [List.getElem_toArray, List.getElem_cons_succ, List.getElem_cons_zero, Act.put, List.setIfInBounds_toArray, List.set_cons_succ, List.set_cons_zero]
          refine wpAnyH_done (by kernel_rfl) ?_ _
          have HE : Hid (∃ v', Xw E (l ++ [(⟨last1, first, 0, what⟩ : Dt)]) now last1 v' (wA.setCell ⟨E, 0, none⟩ (.slice aA (l ++ [(⟨last1, first, 0, what⟩ : Dt)]).length cA)) ∧ w.grownBy (wA.setCell ⟨E, 0, none⟩ (.slice aA (l ++ [(⟨last1, first, 0, what⟩ : Dt)]).length cA)) (some E)) := ⟨_, XS.1, grown_trans (grown_trans HG4.out (gb_any (HB5.out.trans (BA.mono HB5.out.size)) _)) XS.2⟩
          have d2 := XS.1.c.2.2
          generalize wA.setCell ⟨E, 0, none⟩ (.slice aA (l ++ [(⟨last1, first, 0, what⟩ : Dt)]).length cA) = wz at *
          clear XS sx XA QA oA gA HX SS
          go_wp2
          go_ret2
          exact ⟨rfl, HE.out⟩
        · refine wpOp_run rfl rfl (wp_buildSlice 29 59 1 _ rfl (dtC ⟨last1, first, 0, what⟩).toArray i0 _ Try.underlying29 hi0 hz0 (by rw [hz1]; omega) (by rw [hz1]; omega) (by rw [hz1]; simp only [List.map_toArray, List.map_cons, List.map_nil]; exact fill_dt _) ?_)
          have b11 := b10.alloc b10.size (.cells (dtC ⟨last1, first, 0, what⟩).toArray 59)
          have Q11 := heap_alloc_new (w5.alloc (.cells #[] 59)) (.cells (dtC ⟨last1, first, 0, what⟩).toArray 59)
          have P11 := own_alloc P10 (.cells (dtC ⟨last1, first, 0, what⟩).toArray 59)
          refine ⟨(SS.out _ b11).2, ?_⟩
          simp only [List.getElem_toArray, List.getElem_cons_succ, List.getElem_cons_zero, Act.put, List.setIfInBounds_toArray, List.set_cons_succ, List.set_cons_zero]
          refine wpAnyH_all (rs := [6]) (by kernel_rfl) (by simp) ?_
          intro k hk
          simp only [List.mem_cons, List.mem_nil_iff, or_false] at hk
          subst hk
          refine wpOp_run rfl rfl (wp_append_wide DT _ _ 29 59 _ _ Try.underlying29 infoT rfl rfl w5.heap.size (.slice (some ⟨w5.heap.size, 0, none⟩) 0 0) [] rfl P11 _ l rfl (HX.out _ b11).row.wide (by unfold maxLen; simp; omega) (by simp; omega) b11.size ?_)
          intro v12 w12 P12 G12
          rw [List.nil_append] at P12
          have b12 : Below w5.heap.size w5 w12 := ⟨G12.os.trans b11.os, G12.tape.trans b11.tape, G12.output.trans b11.output, Nat.le_trans b11.size G12.size, fun k hk => (G12.block k (Nat.lt_of_lt_of_le hk b11.size) (fun e => by have := own_base P11 e.symm; omega)).trans (b11.block k hk)⟩
          have Q12 := (G12.block (w5.alloc (.cells #[] 59)).heap.size (Array.getElem?_eq_some_iff.1 Q11).1 (fun e => by injection e with e; simp only [size_alloc] at e; first | omega | (have e' : (w5.alloc (.cells #[] 59)).heap.size = w5.heap.size := e; simp only [size_alloc] at e'; omega))).trans Q11
          refine ⟨(SS.out _ b12).2, ?_⟩
          simp only [List.getElem_toArray, List.getElem_cons_succ, List.getElem_cons_zero, Act.put, List.setIfInBounds_toArray, List.set_cons_succ, List.set_cons_zero]
          refine wpAnyH_all (rs := [16]) (by kernel_rfl) (by simp) ?_
          intro k hk
          simp only [List.mem_cons, List.mem_nil_iff, or_false] at hk
          subst hk
          refine wpOp_run rfl rfl (wp_append_own _ _ _ 29 rfl w5.heap.size 59 i0 _ 4 32 Try.underlying29 hi0 hz0 hz1 hz2 rfl (by omega) _ l.length (flatW DT l) rfl P12 ⟨(w5.alloc (.cells #[] 59)).heap.size, 0, none⟩ 1 1 (dtC ⟨last1, first, 0, what⟩) rfl rfl (news_dt Q12) (DT.one _) (by unfold maxLen; omega) (by omega) b12.size ?_)
          intro va wA oA gA _
          have BA : Below w5.heap.size w5 wA := ⟨gA.os.trans b12.os, gA.tape.trans b12.tape, gA.output.trans b12.output, Nat.le_trans b12.size gA.size, fun k hk => (gA.block k (Nat.lt_of_lt_of_le hk b12.size) (fun e => by have := own_base P12 e.symm; omega)).trans (b12.block k hk)⟩
          have QA : wA.ownsRow w5.heap.size 59 4 va (l ++ [(⟨last1, first, 0, what⟩ : Dt)]).length (flatW DT (l ++ [(⟨last1, first, 0, what⟩ : Dt)])) := by
            rw [List.length_append, flatW_append]; simpa [flatW, DT] using oA
          have XA := HX.out _ BA
          obtain ⟨aA, cA, hvA⟩ := own_shape5 QA
          subst hvA
          refine ⟨(SS.out _ BA).2, ?_⟩
          simp only [List.getElem_toArray, List.getElem_cons_succ, List.getElem_cons_zero, Act.put, List.setIfInBounds_toArray, List.set_cons_succ, List.set_cons_zero]
          refine wpAnyH_take (i := 17) (v := (.pointer (some ⟨E, 0, none⟩))) rfl (by kernel_rfl) (by kernel_rfl) (by kernel_rfl) (fun _ _ _ h => h) (.inl ⟨rfl, fun _ hS => by simp [execOp, go_sem, Act.eval]⟩) (SS.out _ BA).2 ?_
          simp only [List.getElem_toArray, List.getElem_cons_succ, List.getElem_cons_zero, Act.put, List.setIfInBounds_toArray, List.set_cons_succ, List.set_cons_zero]
          refine wpAnyH_take (i := 18) (v := (.pointer (some ⟨E, 0, none⟩))) rfl (by kernel_rfl) (by kernel_rfl) (by kernel_rfl) (fun _ _ _ h => h) (.inl ⟨rfl, fun _ hS => by simp [execOp, go_sem, Act.eval]⟩) (SS.out _ BA).2 ?_
          simp only [List.getElem_toArray, List.getElem_cons_succ, List.getElem_cons_zero, Act.put, List.setIfInBounds_toArray, List.set_cons_succ, List.set_cons_zero]
          refine wpAnyH_all (rs := [19]) (by kernel_rfl) (by simp) ?_
          intro k hk
          simp only [List.mem_cons, List.mem_nil_iff, or_false] at hk
          subst hk
          refine wpOp_run rfl rfl (wp_store_cell 29 _ _ rfl E 0 rfl _ rfl (store_tms wA E 0 _ aA _ cA XA.c.1 (XA.frozen 0)) ?_)
          have XS := XA.set (k := 0) (u := (.slice aA (l ++ [(⟨last1, first, 0, what⟩ : Dt)]).length cA)) (l' := l ++ [(⟨last1, first, 0, what⟩ : Dt)]) (now' := now) (last' := last1) (v' := (.slice aA (l ++ [(⟨last1, first, 0, what⟩ : Dt)]).length cA)) rfl (RT.own DT QA) (by simp; omega)
          have sx := XS.1.c.2.2
          refine ⟨sx, ?_⟩
          simp only [List.getElem_toArray, List.getElem_cons_succ, List.getElem_cons_zero, Act.put, List.setIfInBounds_toArray, List.set_cons_succ, List.set_cons_zero]
          refine wpAnyH_done (by kernel_rfl) ?_ _
          have HE : Hid (∃ v', Xw E (l ++ [(⟨last1, first, 0, what⟩ : Dt)]) now last1 v' (wA.setCell ⟨E, 0, none⟩ (.slice aA (l ++ [(⟨last1, first, 0, what⟩ : Dt)]).length cA)) ∧ w.grownBy (wA.setCell ⟨E, 0, none⟩ (.slice aA (l ++ [(⟨last1, first, 0, what⟩ : Dt)]).length cA)) (some E)) := ⟨_, XS.1, grown_trans (grown_trans HG4.out (gb_any (HB5.out.trans (BA.mono HB5.out.size)) _)) XS.2⟩
          have d2 := XS.1.c.2.2
          generalize wA.setCell ⟨E, 0, none⟩ (.slice aA (l ++ [(⟨last1, first, 0, what⟩ : Dt)]).length cA) = wz at *
          clear XS sx XA QA oA gA HX SS
          go_wp2
          go_ret2
          exact ⟨rfl, HE.out⟩
      · refine wpOp_run rfl rfl (wp_buildSlice 29 59 1 _ rfl (dtC ⟨last1, first, 0, what⟩).toArray i0 _ Try.underlying29 hi0 hz0 (by rw [hz1]; omega) (by rw [hz1]; omega) (by rw [hz1]; simp only [List.map_toArray, List.map_cons, List.map_nil]; exact fill_dt _) ?_)
        have b11 := b10.alloc b10.size (.cells (dtC ⟨last1, first, 0, what⟩).toArray 59)
        have Q11 := heap_alloc_new (w5.alloc (.cells #[] 59)) (.cells (dtC ⟨last1, first, 0, what⟩).toArray 59)
        have P11 := own_alloc P10 (.cells (dtC ⟨last1, first, 0, what⟩).toArray 59)
        refine ⟨(SS.out _ b11).2, ?_⟩
        simp only [List.getElem_toArray, List.getElem_cons_succ, List.getElem_cons_zero, Act.put, List.setIfInBounds_toArray, List.set_cons_succ, List.set_cons_zero]
        refine wpAnyH_all (rs := [5]) (by kernel_rfl) (by simp) ?_
        intro k hk
        simp only [List.mem_cons, List.mem_nil_iff, or_false] at hk
        subst hk
        refine wpOp_run rfl rfl (wp_load_cell 29 _ rfl E 0 rfl (.slice ao l.length cap) (load_tms _ E 0 _ _ _ (SS.out _ b11).1) ?_)
        refine ⟨(SS.out _ b11).2, ?_⟩
        simp only [List.getElem_toArray, List.getElem_cons_succ, List.getElem_cons_zero, Act.put, List.setIfInBounds_toArray, List.set_cons_succ, List.set_cons_zero]
        refine wpAnyH_all (rs := [6]) (by kernel_rfl) (by simp) ?_
        intro k hk
        simp only [List.mem_cons, List.mem_nil_iff, or_false] at hk
        subst hk
        refine wpOp_run rfl rfl (wp_append_wide DT _ _ 29 59 _ _ Try.underlying29 infoT rfl rfl w5.heap.size (.slice (some ⟨w5.heap.size, 0, none⟩) 0 0) [] rfl P11 _ l rfl (HX.out _ b11).row.wide (by unfold maxLen; simp; omega) (by simp; omega) b11.size ?_)
        intro v12 w12 P12 G12
        rw [List.nil_append] at P12
        have b12 : Below w5.heap.size w5 w12 := ⟨G12.os.trans b11.os, G12.tape.trans b11.tape, G12.output.trans b11.output, Nat.le_trans b11.size G12.size, fun k hk => (G12.block k (Nat.lt_of_lt_of_le hk b11.size) (fun e => by have := own_base P11 e.symm; omega)).trans (b11.block k hk)⟩
        have Q12 := (G12.block (w5.alloc (.cells #[] 59)).heap.size (Array.getElem?_eq_some_iff.1 Q11).1 (fun e => by injection e with e; simp only [size_alloc] at e; first | omega | (have e' : (w5.alloc (.cells #[] 59)).heap.size = w5.heap.size := e; simp only [size_alloc] at e'; omega))).trans Q11
        refine ⟨(SS.out _ b12).2, ?_⟩
        simp only [List.getElem_toArray, List.getElem_cons_succ, List.getElem_cons_zero, Act.put, List.setIfInBounds_toArray, List.set_cons_succ, List.set_cons_zero]
        refine wpAnyH_all (rs := [16]) (by kernel_rfl) (by simp) ?_
        intro k hk
        simp only [List.mem_cons, List.mem_nil_iff, or_false] at hk
        subst hk
        refine wpOp_run rfl rfl (wp_append_own _ _ _ 29 rfl w5.heap.size 59 i0 _ 4 32 Try.underlying29 hi0 hz0 hz1 hz2 rfl (by omega) _ l.length (flatW DT l) rfl P12 ⟨(w5.alloc (.cells #[] 59)).heap.size, 0, none⟩ 1 1 (dtC ⟨last1, first, 0, what⟩) rfl rfl (news_dt Q12) (DT.one _) (by unfold maxLen; omega) (by omega) b12.size ?_)
        intro va wA oA gA _
        have BA : Below w5.heap.size w5 wA := ⟨gA.os.trans b12.os, gA.tape.trans b12.tape, gA.output.trans b12.output, Nat.le_trans b12.size gA.size, fun k hk => (gA.block k (Nat.lt_of_lt_of_le hk b12.size) (fun e => by have := own_base P12 e.symm; omega)).trans (b12.block k hk)⟩
        have QA : wA.ownsRow w5.heap.size 59 4 va (l ++ [(⟨last1, first, 0, what⟩ : Dt)]).length (flatW DT (l ++ [(⟨last1, first, 0, what⟩ : Dt)])) := by
          rw [List.length_append, flatW_append]; simpa [flatW, DT] using oA
        have XA := HX.out _ BA
        obtain ⟨aA, cA, hvA⟩ := own_shape5 QA
        subst hvA
        refine ⟨(SS.out _ BA).2, ?_⟩
        simp only [List.getElem_toArray, List.getElem_cons_succ, List.getElem_cons_zero, Act.put, List.setIfInBounds_toArray, List.set_cons_succ, List.set_cons_zero]
        refine wpAnyH_take (i := 17) (v := (.pointer (some ⟨E, 0, none⟩))) rfl (by kernel_rfl) (by kernel_rfl) (by kernel_rfl) (fun _ _ _ h => h) (.inl ⟨rfl, fun _ hS => by simp [execOp, go_sem, Act.eval]⟩) (SS.out _ BA).2 ?_
        simp only [List.getElem_toArray, List.getElem_cons_succ, List.getElem_cons_zero, Act.put, List.setIfInBounds_toArray, List.set_cons_succ, List.set_cons_zero]
        refine wpAnyH_take (i := 18) (v := (.pointer (some ⟨E, 0, none⟩))) rfl (by kernel_rfl) (by kernel_rfl) (by kernel_rfl) (fun _ _ _ h => h) (.inl ⟨rfl, fun _ hS => by simp [execOp, go_sem, Act.eval]⟩) (SS.out _ BA).2 ?_
        simp only [List.getElem_toArray, List.getElem_cons_succ, List.getElem_cons_zero, Act.put, List.setIfInBounds_toArray, List.set_cons_succ, List.set_cons_zero]
        refine wpAnyH_all (rs := [19]) (by kernel_rfl) (by simp) ?_
        intro k hk
        simp only [List.mem_cons, List.mem_nil_iff, or_false] at hk
        subst hk
        refine wpOp_run rfl rfl (wp_store_cell 29 _ _ rfl E 0 rfl _ rfl (store_tms wA E 0 _ aA _ cA XA.c.1 (XA.frozen 0)) ?_)
        have XS := XA.set (k := 0) (u := (.slice aA (l ++ [(⟨last1, first, 0, what⟩ : Dt)]).length cA)) (l' := l ++ [(⟨last1, first, 0, what⟩ : Dt)]) (now' := now) (last' := last1) (v' := (.slice aA (l ++ [(⟨last1, first, 0, what⟩ : Dt)]).length cA)) rfl (RT.own DT QA) (by simp; omega)
        have sx := XS.1.c.2.2
        refine ⟨sx, ?_⟩
        simp only [List.getElem_toArray, List.getElem_cons_succ, List.getElem_cons_zero, Act.put, List.setIfInBounds_toArray, List.set_cons_succ, List.set_cons_zero]
        refine wpAnyH_done (by kernel_rfl) ?_ _
        have HE : Hid (∃ v', Xw E (l ++ [(⟨last1, first, 0, what⟩ : Dt)]) now last1 v' (wA.setCell ⟨E, 0, none⟩ (.slice aA (l ++ [(⟨last1, first, 0, what⟩ : Dt)]).length cA)) ∧ w.grownBy (wA.setCell ⟨E, 0, none⟩ (.slice aA (l ++ [(⟨last1, first, 0, what⟩ : Dt)]).length cA)) (some E)) := ⟨_, XS.1, grown_trans (grown_trans HG4.out (gb_any (HB5.out.trans (BA.mono HB5.out.size)) _)) XS.2⟩
        have d2 := XS.1.c.2.2
        generalize wA.setCell ⟨E, 0, none⟩ (.slice aA (l ++ [(⟨last1, first, 0, what⟩ : Dt)]).length cA) = wz at *
        clear XS sx XA QA oA gA HX SS
        go_wp2
        go_ret2
        exact ⟨rfl, HE.out⟩
    · refine wpOp_run rfl rfl (wp_load_cell 29 _ rfl E 0 rfl (.slice ao l.length cap) (load_tms _ E 0 _ _ _ (SS.out _ r0).1) ?_)
      refine ⟨(SS.out _ r0).2, ?_⟩
      simp only [List.getElem_toArray, List.getElem_cons_succ, List.getElem_cons_zero, Act.put, List.setIfInBounds_toArray, List.set_cons_succ, List.set_cons_zero]
      refine wpAnyH_all (rs := [1, 15]) (by kernel_rfl) (by simp) ?_
      intro k hk
      simp only [List.mem_cons, List.mem_nil_iff, or_false] at hk
      rcases hk with rfl | rfl
      · refine wpOp_run rfl rfl (wp_bs0g Try.underlying29 infoT rfl ?_)
        have b10 := r0.alloc r0.size (.cells #[] 59)
        have P10 : (w5.alloc (.cells #[] 59)).ownsRow w5.heap.size 59 4 (.slice (some ⟨w5.heap.size, 0, none⟩) 0 0) 0 [] := own_lower (own_empty_e w5 59 4) r0.size
        refine ⟨(SS.out _ b10).2, ?_⟩
        simp only [List.getElem_toArray, List.getElem_cons_succ, List.getElem_cons_zero, Act.put, List.setIfInBounds_toArray, List.set_cons_succ, List.set_cons_zero]
        refine wpAnyH_all (rs := [6, 15]) (by kernel_rfl) (by simp) ?_
        intro k hk
        simp only [List.mem_cons, List.mem_nil_iff, or_false] at hk
        rcases hk with rfl | rfl
        · refine wpOp_run rfl rfl (wp_append_wide DT _ _ 29 59 _ _ Try.underlying29 infoT rfl rfl w5.heap.size (.slice (some ⟨w5.heap.size, 0, none⟩) 0 0) [] rfl P10 _ l rfl (HX.out _ b10).row.wide (by unfold maxLen; simp; omega) (by simp; omega) b10.size ?_)
          intro v11 w11 P11 G11
          rw [List.nil_append] at P11
          have b11 : Below w5.heap.size w5 w11 := ⟨G11.os.trans b10.os, G11.tape.trans b10.tape, G11.output.trans b10.output, Nat.le_trans b10.size G11.size, fun k hk => (G11.block k (Nat.lt_of_lt_of_le hk b10.size) (fun e => by have := own_base P10 e.symm; omega)).trans (b10.block k hk)⟩
          refine ⟨(SS.out _ b11).2, ?_⟩
          simp only [List.getElem_toArray, List.getElem_cons_succ, List.getElem_cons_zero, Act.put, List.setIfInBounds_toArray, List.set_cons_succ, List.set_cons_zero]
          refine wpAnyH_all (rs := [15]) (by kernel_rfl) (by simp) ?_
          intro k hk
          simp only [List.mem_cons, List.mem_nil_iff, or_false] at hk
          subst hk
          refine wpOp_run rfl rfl (wp_buildSlice 29 59 1 _ rfl (dtC ⟨last1, first, 0, what⟩).toArray i0 _ Try.underlying29 hi0 hz0 (by rw [hz1]; omega) (by rw [hz1]; omega) (by rw [hz1]; simp only [List.map_toArray, List.map_cons, List.map_nil]; exact fill_dt _) ?_)
          have b12 := b11.alloc b11.size (.cells (dtC ⟨last1, first, 0, what⟩).toArray 59)
          have Q12 := heap_alloc_new w11 (.cells (dtC ⟨last1, first, 0, what⟩).toArray 59)
          have P12 := own_alloc P11 (.cells (dtC ⟨last1, first, 0, what⟩).toArray 59)
          refine ⟨(SS.out _ b12).2, ?_⟩
          simp only [List.getElem_toArray, List.getElem_cons_succ, List.getElem_cons_zero, Act.put, List.setIfInBounds_toArray, List.set_cons_succ, List.set_cons_zero]
          refine wpAnyH_all (rs := [16]) (by kernel_rfl) (by simp) ?_
          intro k hk
          simp only [List.mem_cons, List.mem_nil_iff, or_false] at hk
          subst hk
          refine wpOp_run rfl rfl (wp_append_own _ _ _ 29 rfl w5.heap.size 59 i0 _ 4 32 Try.underlying29 hi0 hz0 hz1 hz2 rfl (by omega) _ l.length (flatW DT l) rfl P12 ⟨w11.heap.size, 0, none⟩ 1 1 (dtC ⟨last1, first, 0, what⟩) rfl rfl (news_dt Q12) (DT.one _) (by unfold maxLen; omega) (by omega) b12.size ?_)
          intro va wA oA gA _
          have BA : Below w5.heap.size w5 wA := ⟨gA.os.trans b12.os, gA.tape.trans b12.tape, gA.output.trans b12.output, Nat.le_trans b12.size gA.size, fun k hk => (gA.block k (Nat.lt_of_lt_of_le hk b12.size) (fun e => by have := own_base P12 e.symm; omega)).trans (b12.block k hk)⟩
          have QA : wA.ownsRow w5.heap.size 59 4 va (l ++ [(⟨last1, first, 0, what⟩ : Dt)]).length (flatW DT (l ++ [(⟨last1, first, 0, what⟩ : Dt)])) := by
            rw [List.length_append, flatW_append]; simpa [flatW, DT] using oA
          have XA := HX.out _ BA
          obtain ⟨aA, cA, hvA⟩ := own_shape5 QA
          subst hvA
          refine ⟨(SS.out _ BA).2, ?_⟩
          simp only [List.getElem_toArray, List.getElem_cons_succ, List.getElem_cons_zero, Act.put, List.setIfInBounds_toArray, List.set_cons_succ, List.set_cons_zero]
          refine wpAnyH_take (i := 17) (v := (.pointer (some ⟨E, 0, none⟩))) rfl (by kernel_rfl) (by kernel_rfl) (by kernel_rfl) (fun _ _ _ h => h) (.inl ⟨rfl, fun _ hS => by simp [execOp, go_sem, Act.eval]⟩) (SS.out _ BA).2 ?_
          simp only [List.getElem_toArray, List.getElem_cons_succ, List.getElem_cons_zero, Act.put, List.setIfInBounds_toArray, List.set_cons_succ, List.set_cons_zero]
          refine wpAnyH_take (i := 18) (v := (.pointer (some ⟨E, 0, none⟩))) rfl (by kernel_rfl) (by kernel_rfl) (by kernel_rfl) (fun _ _ _ h => h) (.inl ⟨rfl, fun _ hS => by simp [execOp, go_sem, Act.eval]⟩) (SS.out _ BA).2 ?_
          simp only [List.getElem_toArray, List.getElem_cons_succ, List.getElem_cons_zero, Act.put, List.setIfInBounds_toArray, List.set_cons_succ, List.set_cons_zero]
          refine wpAnyH_all (rs := [19]) (by kernel_rfl) (by simp) ?_
          intro k hk
          simp only [List.mem_cons, List.mem_nil_iff, or_false] at hk
          subst hk
          refine wpOp_run rfl rfl (wp_store_cell 29 _ _ rfl E 0 rfl _ rfl (store_tms wA E 0 _ aA _ cA XA.c.1 (XA.frozen 0)) ?_)
          have XS := XA.set (k := 0) (u := (.slice aA (l ++ [(⟨last1, first, 0, what⟩ : Dt)]).length cA)) (l' := l ++ [(⟨last1, first, 0, what⟩ : Dt)]) (now' := now) (last' := last1) (v' := (.slice aA (l ++ [(⟨last1, first, 0, what⟩ : Dt)]).length cA)) rfl (RT.own DT QA) (by simp; omega)
          have sx := XS.1.c.2.2
          refine ⟨sx, ?_⟩
          simp only [List.getElem_toArray, List.getElem_cons_succ, List.getElem_cons_zero, Act.put, List.setIfInBounds_toArray, List.set_cons_succ, List.set_cons_zero]
          refine wpAnyH_done (by kernel_rfl) ?_ _
          have HE : Hid (∃ v', Xw E (l ++ [(⟨last1, first, 0, what⟩ : Dt)]) now last1 v' (wA.setCell ⟨E, 0, none⟩ (.slice aA (l ++ [(⟨last1, first, 0, what⟩ : Dt)]).length cA)) ∧ w.grownBy (wA.setCell ⟨E, 0, none⟩ (.slice aA (l ++ [(⟨last1, first, 0, what⟩ : Dt)]).length cA)) (some E)) := ⟨_, XS.1, grown_trans (grown_trans HG4.out (gb_any (HB5.out.trans (BA.mono HB5.out.size)) _)) XS.2⟩
          have d2 := XS.1.c.2.2
          generalize wA.setCell ⟨E, 0, none⟩ (.slice aA (l ++ [(⟨last1, first, 0, what⟩ : Dt)]).length cA) = wz at *
          clear XS sx XA QA oA gA HX SS
          go_wp2
          go_ret2
          exact ⟨rfl, HE.out⟩
        · refine wpOp_run rfl rfl (wp_buildSlice 29 59 1 _ rfl (dtC ⟨last1, first, 0, what⟩).toArray i0 _ Try.underlying29 hi0 hz0 (by rw [hz1]; omega) (by rw [hz1]; omega) (by rw [hz1]; simp only [List.map_toArray, List.map_cons, List.map_nil]; exact fill_dt _) ?_)
          have b11 := b10.alloc b10.size (.cells (dtC ⟨last1, first, 0, what⟩).toArray 59)
          have Q11 := heap_alloc_new (w5.alloc (.cells #[] 59)) (.cells (dtC ⟨last1, first, 0, what⟩).toArray 59)
          have P11 := own_alloc P10 (.cells (dtC ⟨last1, first, 0, what⟩).toArray 59)
          refine ⟨(SS.out _ b11).2, ?_⟩
          simp only [List.getElem_toArray, List.getElem_cons_succ, List.getElem_cons_zero, Act.put, List.setIfInBounds_toArray, List.set_cons_succ, List.set_cons_zero]
          refine wpAnyH_all (rs := [6]) (by kernel_rfl) (by simp) ?_
          intro k hk
          simp only [List.mem_cons, List.mem_nil_iff, or_false] at hk
          subst hk
          refine wpOp_run rfl rfl (wp_append_wide DT _ _ 29 59 _ _ Try.underlying29 infoT rfl rfl w5.heap.size (.slice (some ⟨w5.heap.size, 0, none⟩) 0 0) [] rfl P11 _ l rfl (HX.out _ b11).row.wide (by unfold maxLen; simp; omega) (by simp; omega) b11.size ?_)
          intro v12 w12 P12 G12
          rw [List.nil_append] at P12
          have b12 : Below w5.heap.size w5 w12 := ⟨G12.os.trans b11.os, G12.tape.trans b11.tape, G12.output.trans b11.output, Nat.le_trans b11.size G12.size, fun k hk => (G12.block k (Nat.lt_of_lt_of_le hk b11.size) (fun e => by have := own_base P11 e.symm; omega)).trans (b11.block k hk)⟩
          have Q12 := (G12.block (w5.alloc (.cells #[] 59)).heap.size (Array.getElem?_eq_some_iff.1 Q11).1 (fun e => by injection e with e; simp only [size_alloc] at e; first | omega | (have e' : (w5.alloc (.cells #[] 59)).heap.size = w5.heap.size := e; simp only [size_alloc] at e'; omega))).trans Q11
          refine ⟨(SS.out _ b12).2, ?_⟩
          simp only [List.getElem_toArray, List.getElem_cons_succ, List.getElem_cons_zero, Act.put, List.setIfInBounds_toArray, List.set_cons_succ, List.set_cons_zero]
          refine wpAnyH_all (rs := [16]) (by kernel_rfl) (by simp) ?_
          intro k hk
          simp only [List.mem_cons, List.mem_nil_iff, or_false] at hk
          subst hk
          refine wpOp_run rfl rfl (wp_append_own _ _ _ 29 rfl w5.heap.size 59 i0 _ 4 32 Try.underlying29 hi0 hz0 hz1 hz2 rfl (by omega) _ l.length (flatW DT l) rfl P12 ⟨(w5.alloc (.cells #[] 59)).heap.size, 0, none⟩ 1 1 (dtC ⟨last1, first, 0, what⟩) rfl rfl (news_dt Q12) (DT.one _) (by unfold maxLen; omega) (by omega) b12.size ?_)
          intro va wA oA gA _
          have BA : Below w5.heap.size w5 wA := ⟨gA.os.trans b12.os, gA.tape.trans b12.tape, gA.output.trans b12.output, Nat.le_trans b12.size gA.size, fun k hk => (gA.block k (Nat.lt_of_lt_of_le hk b12.size) (fun e => by have := own_base P12 e.symm; omega)).trans (b12.block k hk)⟩
          have QA : wA.ownsRow w5.heap.size 59 4 va (l ++ [(⟨last1, first, 0, what⟩ : Dt)]).length (flatW DT (l ++ [(⟨last1, first, 0, what⟩ : Dt)])) := by
            rw [List.length_append, flatW_append]; simpa [flatW, DT] using oA
          have XA := HX.out _ BA
          obtain ⟨aA, cA, hvA⟩ := own_shape5 QA
          subst hvA
          refine ⟨(SS.out _ BA).2, ?_⟩
          simp only [List.getElem_toArray, List.getElem_cons_succ, List.getElem_cons_zero, Act.put, List.setIfInBounds_toArray, List.set_cons_succ, List.set_cons_zero]
          refine wpAnyH_take (i := 17) (v := (.pointer (some ⟨E, 0, none⟩))) rfl (by kernel_rfl) (by kernel_rfl) (by kernel_rfl) (fun _ _ _ h => h) (.inl ⟨rfl, fun _ hS => by simp [execOp, go_sem, Act.eval]⟩) (SS.out _ BA).2 ?_
          simp only [List.getElem_toArray, List.getElem_cons_succ, List.getElem_cons_zero, Act.put, List.setIfInBounds_toArray, List.set_cons_succ, List.set_cons_zero]
          refine wpAnyH_take (i := 18) (v := (.pointer (some ⟨E, 0, none⟩))) rfl (by kernel_rfl) (by kernel_rfl) (by kernel_rfl) (fun _ _ _ h => h) (.inl ⟨rfl, fun _ hS => by simp [execOp, go_sem, Act.eval]⟩) (SS.out _ BA).2 ?_
          simp only [List.getElem_toArray, List.getElem_cons_succ, List.getElem_cons_zero, Act.put, List.setIfInBounds_toArray, List.set_cons_succ, List.set_cons_zero]
          refine wpAnyH_all (rs := [19]) (by kernel_rfl) (by simp) ?_
          intro k hk
          simp only [List.mem_cons, List.mem_nil_iff, or_false] at hk
          subst hk
          refine wpOp_run rfl rfl (wp_store_cell 29 _ _ rfl E 0 rfl _ rfl (store_tms wA E 0 _ aA _ cA XA.c.1 (XA.frozen 0)) ?_)
          have XS := XA.set (k := 0) (u := (.slice aA (l ++ [(⟨last1, first, 0, what⟩ : Dt)]).length cA)) (l' := l ++ [(⟨last1, first, 0, what⟩ : Dt)]) (now' := now) (last' := last1) (v' := (.slice aA (l ++ [(⟨last1, first, 0, what⟩ : Dt)]).length cA)) rfl (RT.own DT QA) (by simp; omega)
          have sx := XS.1.c.2.2
          refine ⟨sx, ?_⟩
          simp only [List.getElem_toArray, List.getElem_cons_succ, List.getElem_cons_zero, Act.put, List.setIfInBounds_toArray, List.set_cons_succ, List.set_cons_zero]
          refine wpAnyH_done (by kernel_rfl) ?_ _
          have HE : Hid (∃ v', Xw E (l ++ [(⟨last1, first, 0, what⟩ : Dt)]) now last1 v' (wA.setCell ⟨E, 0, none⟩ (.slice aA (l ++ [(⟨last1, first, 0, what⟩ : Dt)]).length cA)) ∧ w.grownBy (wA.setCell ⟨E, 0, none⟩ (.slice aA (l ++ [(⟨last1, first, 0, what⟩ : Dt)]).length cA)) (some E)) := ⟨_, XS.1, grown_trans (grown_trans HG4.out (gb_any (HB5.out.trans (BA.mono HB5.out.size)) _)) XS.2⟩
          have d2 := XS.1.c.2.2
          generalize wA.setCell ⟨E, 0, none⟩ (.slice aA (l ++ [(⟨last1, first, 0, what⟩ : Dt)]).length cA) = wz at *
          clear XS sx XA QA oA gA HX SS
          go_wp2
          go_ret2
          exact ⟨rfl, HE.out⟩
      · refine wpOp_run rfl rfl (wp_buildSlice 29 59 1 _ rfl (dtC ⟨last1, first, 0, what⟩).toArray i0 _ Try.underlying29 hi0 hz0 (by rw [hz1]; omega) (by rw [hz1]; omega) (by rw [hz1]; simp only [List.map_toArray, List.map_cons, List.map_nil]; exact fill_dt _) ?_)
        have b10 := r0.alloc r0.size (.cells (dtC ⟨last1, first, 0, what⟩).toArray 59)
        have Q10 := heap_alloc_new w5 (.cells (dtC ⟨last1, first, 0, what⟩).toArray 59)
        refine ⟨(SS.out _ b10).2, ?_⟩
        simp only [List.getElem_toArray, List.getElem_cons_succ, List.getElem_cons_zero, Act.put, List.setIfInBounds_toArray, List.set_cons_succ, List.set_cons_zero]
        refine wpAnyH_all (rs := [1]) (by kernel_rfl) (by simp) ?_
        intro k hk
        simp only [List.mem_cons, List.mem_nil_iff, or_false] at hk
        subst hk
        refine wpOp_run rfl rfl (wp_bs0g Try.underlying29 infoT rfl ?_)
        have b11 := b10.alloc b10.size (.cells #[] 59)
        have P11 : ((w5.alloc (.cells (dtC ⟨last1, first, 0, what⟩).toArray 59)).alloc (.cells #[] 59)).ownsRow w5.heap.size 59 4 (.slice (some ⟨(w5.alloc (.cells (dtC ⟨last1, first, 0, what⟩).toArray 59)).heap.size, 0, none⟩) 0 0) 0 [] := own_lower (own_empty_e (w5.alloc (.cells (dtC ⟨last1, first, 0, what⟩).toArray 59)) 59 4) b10.size
        have Q11 := heap_old Q10 (.cells #[] 59)
        refine ⟨(SS.out _ b11).2, ?_⟩
        simp only [List.getElem_toArray, List.getElem_cons_succ, List.getElem_cons_zero, Act.put, List.setIfInBounds_toArray, List.set_cons_succ, List.set_cons_zero]
        refine wpAnyH_all (rs := [6]) (by kernel_rfl) (by simp) ?_
        intro k hk
        simp only [List.mem_cons, List.mem_nil_iff, or_false] at hk
        subst hk
        refine wpOp_run rfl rfl (wp_append_wide DT _ _ 29 59 _ _ Try.underlying29 infoT rfl rfl w5.heap.size (.slice (some ⟨(w5.alloc (.cells (dtC ⟨last1, first, 0, what⟩).toArray 59)).heap.size, 0, none⟩) 0 0) [] rfl P11 _ l rfl (HX.out _ b11).row.wide (by unfold maxLen; simp; omega) (by simp; omega) b11.size ?_)
        intro v12 w12 P12 G12
        rw [List.nil_append] at P12
        have b12 : Below w5.heap.size w5 w12 := ⟨G12.os.trans b11.os, G12.tape.trans b11.tape, G12.output.trans b11.output, Nat.le_trans b11.size G12.size, fun k hk => (G12.block k (Nat.lt_of_lt_of_le hk b11.size) (fun e => by have := own_base P11 e.symm; omega)).trans (b11.block k hk)⟩
        have Q12 := (G12.block w5.heap.size (Array.getElem?_eq_some_iff.1 Q11).1 (fun e => by injection e with e; simp only [size_alloc] at e; first | omega | (have e' : w5.heap.size = (w5.alloc (.cells (dtC ⟨last1, first, 0, what⟩).toArray 59)).heap.size := e; simp only [size_alloc] at e'; omega))).trans Q11
        refine ⟨(SS.out _ b12).2, ?_⟩
        simp only [List.getElem_toArray, List.getElem_cons_succ, List.getElem_cons_zero, Act.put, List.setIfInBounds_toArray, List.set_cons_succ, List.set_cons_zero]
        refine wpAnyH_all (rs := [16]) (by kernel_rfl) (by simp) ?_
        intro k hk
        simp only [List.mem_cons, List.mem_nil_iff, or_false] at hk
        subst hk
        refine wpOp_run rfl rfl (wp_append_own _ _ _ 29 rfl w5.heap.size 59 i0 _ 4 32 Try.underlying29 hi0 hz0 hz1 hz2 rfl (by omega) _ l.length (flatW DT l) rfl P12 ⟨w5.heap.size, 0, none⟩ 1 1 (dtC ⟨last1, first, 0, what⟩) rfl rfl (news_dt Q12) (DT.one _) (by unfold maxLen; omega) (by omega) b12.size ?_)
        intro va wA oA gA _
        have BA : Below w5.heap.size w5 wA := ⟨gA.os.trans b12.os, gA.tape.trans b12.tape, gA.output.trans b12.output, Nat.le_trans b12.size gA.size, fun k hk => (gA.block k (Nat.lt_of_lt_of_le hk b12.size) (fun e => by have := own_base P12 e.symm; omega)).trans (b12.block k hk)⟩
        have QA : wA.ownsRow w5.heap.size 59 4 va (l ++ [(⟨last1, first, 0, what⟩ : Dt)]).length (flatW DT (l ++ [(⟨last1, first, 0, what⟩ : Dt)])) := by
          rw [List.length_append, flatW_append]; simpa [flatW, DT] using oA
        have XA := HX.out _ BA
        obtain ⟨aA, cA, hvA⟩ := own_shape5 QA
        subst hvA
        refine ⟨(SS.out _ BA).2, ?_⟩
        simp only [List.getElem_toArray, List.getElem_cons_succ, List.getElem_cons_zero, Act.put, List.setIfInBounds_toArray, List.set_cons_succ, List.set_cons_zero]
        refine wpAnyH_take (i := 17) (v := (.pointer (some ⟨E, 0, none⟩))) rfl (by kernel_rfl) (by kernel_rfl) (by kernel_rfl) (fun _ _ _ h => h) (.inl ⟨rfl, fun _ hS => by simp [execOp, go_sem, Act.eval]⟩) (SS.out _ BA).2 ?_
        simp only [List.getElem_toArray, List.getElem_cons_succ, List.getElem_cons_zero, Act.put, List.setIfInBounds_toArray, List.set_cons_succ, List.set_cons_zero]
        refine wpAnyH_take (i := 18) (v := (.pointer (some ⟨E, 0, none⟩))) rfl (by kernel_rfl) (by kernel_rfl) (by kernel_rfl) (fun _ _ _ h => h) (.inl ⟨rfl, fun _ hS => by simp [execOp, go_sem, Act.eval]⟩) (SS.out _ BA).2 ?_
        simp only [List.getElem_toArray, List.getElem_cons_succ, List.getElem_cons_zero, Act.put, List.setIfInBounds_toArray, List.set_cons_succ, List.set_cons_zero]
        refine wpAnyH_all (rs := [19]) (by kernel_rfl) (by simp) ?_
        intro k hk
        simp only [List.mem_cons, List.mem_nil_iff, or_false] at hk
        subst hk
        refine wpOp_run rfl rfl (wp_store_cell 29 _ _ rfl E 0 rfl _ rfl (store_tms wA E 0 _ aA _ cA XA.c.1 (XA.frozen 0)) ?_)
        have XS := XA.set (k := 0) (u := (.slice aA (l ++ [(⟨last1, first, 0, what⟩ : Dt)]).length cA)) (l' := l ++ [(⟨last1, first, 0, what⟩ : Dt)]) (now' := now) (last' := last1) (v' := (.slice aA (l ++ [(⟨last1, first, 0, what⟩ : Dt)]).length cA)) rfl (RT.own DT QA) (by simp; omega)
        have sx := XS.1.c.2.2
        refine ⟨sx, ?_⟩
        simp only [List.getElem_toArray, List.getElem_cons_succ, List.getElem_cons_zero, Act.put, List.setIfInBounds_toArray, List.set_cons_succ, List.set_cons_zero]
        refine wpAnyH_done (by kernel_rfl) ?_ _
        have HE : Hid (∃ v', Xw E (l ++ [(⟨last1, first, 0, what⟩ : Dt)]) now last1 v' (wA.setCell ⟨E, 0, none⟩ (.slice aA (l ++ [(⟨last1, first, 0, what⟩ : Dt)]).length cA)) ∧ w.grownBy (wA.setCell ⟨E, 0, none⟩ (.slice aA (l ++ [(⟨last1, first, 0, what⟩ : Dt)]).length cA)) (some E)) := ⟨_, XS.1, grown_trans (grown_trans HG4.out (gb_any (HB5.out.trans (BA.mono HB5.out.size)) _)) XS.2⟩
        have d2 := XS.1.c.2.2
        generalize wA.setCell ⟨E, 0, none⟩ (.slice aA (l ++ [(⟨last1, first, 0, what⟩ : Dt)]).length cA) = wz at *
        clear XS sx XA QA oA gA HX SS
        go_wp2
        go_ret2
        exact ⟨rfl, HE.out⟩
    · refine wpOp_run rfl rfl (wp_buildSlice 29 59 1 _ rfl (dtC ⟨last1, first, 0, what⟩).toArray i0 _ Try.underlying29 hi0 hz0 (by rw [hz1]; omega) (by rw [hz1]; omega) (by rw [hz1]; simp only [List.map_toArray, List.map_cons, List.map_nil]; exact fill_dt _) ?_)
      have b10 := r0.alloc r0.size (.cells (dtC ⟨last1, first, 0, what⟩).toArray 59)
      have Q10 := heap_alloc_new w5 (.cells (dtC ⟨last1, first, 0, what⟩).toArray 59)
      refine ⟨(SS.out _ b10).2, ?_⟩
      simp only [List.getElem_toArray, List.getElem_cons_succ, List.getElem_cons_zero, Act.put, List.setIfInBounds_toArray, List.set_cons_succ, List.set_cons_zero]
      refine wpAnyH_all (rs := [1, 5]) (by kernel_rfl) (by simp) ?_
      intro k hk
      simp only [List.mem_cons, List.mem_nil_iff, or_false] at hk
      rcases hk with rfl | rfl
      · refine wpOp_run rfl rfl (wp_bs0g Try.underlying29 infoT rfl ?_)
        have b11 := b10.alloc b10.size (.cells #[] 59)
        have P11 : ((w5.alloc (.cells (dtC ⟨last1, first, 0, what⟩).toArray 59)).alloc (.cells #[] 59)).ownsRow w5.heap.size 59 4 (.slice (some ⟨(w5.alloc (.cells (dtC ⟨last1, first, 0, what⟩).toArray 59)).heap.size, 0, none⟩) 0 0) 0 [] := own_lower (own_empty_e (w5.alloc (.cells (dtC ⟨last1, first, 0, what⟩).toArray 59)) 59 4) b10.size
        have Q11 := heap_old Q10 (.cells #[] 59)
        refine ⟨(SS.out _ b11).2, ?_⟩
        simp only [List.getElem_toArray, List.getElem_cons_succ, List.getElem_cons_zero, Act.put, List.setIfInBounds_toArray, List.set_cons_succ, List.set_cons_zero]
        refine wpAnyH_all (rs := [5]) (by kernel_rfl) (by simp) ?_
        intro k hk
        simp only [List.mem_cons, List.mem_nil_iff, or_false] at hk
        subst hk
        refine wpOp_run rfl rfl (wp_load_cell 29 _ rfl E 0 rfl (.slice ao l.length cap) (load_tms _ E 0 _ _ _ (SS.out _ b11).1) ?_)
        refine ⟨(SS.out _ b11).2, ?_⟩
        simp only [List.getElem_toArray, List.getElem_cons_succ, List.getElem_cons_zero, Act.put, List.setIfInBounds_toArray, List.set_cons_succ, List.set_cons_zero]
        refine wpAnyH_all (rs := [6]) (by kernel_rfl) (by simp) ?_
        intro k hk
        simp only [List.mem_cons, List.mem_nil_iff, or_false] at hk
        subst hk
        refine wpOp_run rfl rfl (wp_append_wide DT _ _ 29 59 _ _ Try.underlying29 infoT rfl rfl w5.heap.size (.slice (some ⟨(w5.alloc (.cells (dtC ⟨last1, first, 0, what⟩).toArray 59)).heap.size, 0, none⟩) 0 0) [] rfl P11 _ l rfl (HX.out _ b11).row.wide (by unfold maxLen; simp; omega) (by simp; omega) b11.size ?_)
        intro v12 w12 P12 G12
        rw [List.nil_append] at P12
        have b12 : Below w5.heap.size w5 w12 := ⟨G12.os.trans b11.os, G12.tape.trans b11.tape, G12.output.trans b11.output, Nat.le_trans b11.size G12.size, fun k hk => (G12.block k (Nat.lt_of_lt_of_le hk b11.size) (fun e => by have := own_base P11 e.symm; omega)).trans (b11.block k hk)⟩
        have Q12 := (G12.block w5.heap.size (Array.getElem?_eq_some_iff.1 Q11).1 (fun e => by injection e with e; simp only [size_alloc] at e; first | omega | (have e' : w5.heap.size = (w5.alloc (.cells (dtC ⟨last1, first, 0, what⟩).toArray 59)).heap.size := e; simp only [size_alloc] at e'; omega))).trans Q11
        refine ⟨(SS.out _ b12).2, ?_⟩
        simp only [List.getElem_toArray, List.getElem_cons_succ, List.getElem_cons_zero, Act.put, List.setIfInBounds_toArray, List.set_cons_succ, List.set_cons_zero]
        refine wpAnyH_all (rs := [16]) (by kernel_rfl) (by simp) ?_
        intro k hk
        simp only [List.mem_cons, List.mem_nil_iff, or_false] at hk
        subst hk
        refine wpOp_run rfl rfl (wp_append_own _ _ _ 29 rfl w5.heap.size 59 i0 _ 4 32 Try.underlying29 hi0 hz0 hz1 hz2 rfl (by omega) _ l.length (flatW DT l) rfl P12 ⟨w5.heap.size, 0, none⟩ 1 1 (dtC ⟨last1, first, 0, what⟩) rfl rfl (news_dt Q12) (DT.one _) (by unfold maxLen; omega) (by omega) b12.size ?_)
        intro va wA oA gA _
        have BA : Below w5.heap.size w5 wA := ⟨gA.os.trans b12.os, gA.tape.trans b12.tape, gA.output.trans b12.output, Nat.le_trans b12.size gA.size, fun k hk => (gA.block k (Nat.lt_of_lt_of_le hk b12.size) (fun e => by have := own_base P12 e.symm; omega)).trans (b12.block k hk)⟩
        have QA : wA.ownsRow w5.heap.size 59 4 va (l ++ [(⟨last1, first, 0, what⟩ : Dt)]).length (flatW DT (l ++ [(⟨last1, first, 0, what⟩ : Dt)])) := by
          rw [List.length_append, flatW_append]; simpa [flatW, DT] using oA
        have XA := HX.out _ BA
        obtain ⟨aA, cA, hvA⟩ := own_shape5 QA
        subst hvA
        refine ⟨(SS.out _ BA).2, ?_⟩
        simp only [List.getElem_toArray, List.getElem_cons_succ, List.getElem_cons_zero, Act.put, List.setIfInBounds_toArray, List.set_cons_succ, List.set_cons_zero]
        refine wpAnyH_take (i := 17) (v := (.pointer (some ⟨E, 0, none⟩))) rfl (by kernel_rfl) (by kernel_rfl) (by kernel_rfl) (fun _ _ _ h => h) (.inl ⟨rfl, fun _ hS => by simp [execOp, go_sem, Act.eval]⟩) (SS.out _ BA).2 ?_
        simp only [List.getElem_toArray, List.getElem_cons_succ, List.getElem_cons_zero, Act.put, List.setIfInBounds_toArray, List.set_cons_succ, List.set_cons_zero]
        refine wpAnyH_take (i := 18) (v := (.pointer (some ⟨E, 0, none⟩))) rfl (by kernel_rfl) (by kernel_rfl) (by kernel_rfl) (fun _ _ _ h => h) (.inl ⟨rfl, fun _ hS => by simp [execOp, go_sem, Act.eval]⟩) (SS.out _ BA).2 ?_
        simp only [List.getElem_toArray, List.getElem_cons_succ, List.getElem_cons_zero, Act.put, List.setIfInBounds_toArray, List.set_cons_succ, List.set_cons_zero]
        refine wpAnyH_all (rs := [19]) (by kernel_rfl) (by simp) ?_
        intro k hk
        simp only [List.mem_cons, List.mem_nil_iff, or_false] at hk
        subst hk
        refine wpOp_run rfl rfl (wp_store_cell 29 _ _ rfl E 0 rfl _ rfl (store_tms wA E 0 _ aA _ cA XA.c.1 (XA.frozen 0)) ?_)
        have XS := XA.set (k := 0) (u := (.slice aA (l ++ [(⟨last1, first, 0, what⟩ : Dt)]).length cA)) (l' := l ++ [(⟨last1, first, 0, what⟩ : Dt)]) (now' := now) (last' := last1) (v' := (.slice aA (l ++ [(⟨last1, first, 0, what⟩ : Dt)]).length cA)) rfl (RT.own DT QA) (by simp; omega)
        have sx := XS.1.c.2.2
        refine ⟨sx, ?_⟩
        simp only [List.getElem_toArray, List.getElem_cons_succ, List.getElem_cons_zero, Act.put, List.setIfInBounds_toArray, List.set_cons_succ, List.set_cons_zero]
        refine wpAnyH_done (by kernel_rfl) ?_ _
        have HE : Hid (∃ v', Xw E (l ++ [(⟨last1, first, 0, what⟩ : Dt)]) now last1 v' (wA.setCell ⟨E, 0, none⟩ (.slice aA (l ++ [(⟨last1, first, 0, what⟩ : Dt)]).length cA)) ∧ w.grownBy (wA.setCell ⟨E, 0, none⟩ (.slice aA (l ++ [(⟨last1, first, 0, what⟩ : Dt)]).length cA)) (some E)) := ⟨_, XS.1, grown_trans (grown_trans HG4.out (gb_any (HB5.out.trans (BA.mono HB5.out.size)) _)) XS.2⟩
        have d2 := XS.1.c.2.2
        generalize wA.setCell ⟨E, 0, none⟩ (.slice aA (l ++ [(⟨last1, first, 0, what⟩ : Dt)]).length cA) = wz at *
        clear XS sx XA QA oA gA HX SS
        go_wp2
        go_ret2
        exact ⟨rfl, HE.out⟩
      · refine wpOp_run rfl rfl (wp_load_cell 29 _ rfl E 0 rfl (.slice ao l.length cap) (load_tms _ E 0 _ _ _ (SS.out _ b10).1) ?_)
        refine ⟨(SS.out _ b10).2, ?_⟩
        simp only [List.getElem_toArray, List.getElem_cons_succ, List.getElem_cons_zero, Act.put, List.setIfInBounds_toArray, List.set_cons_succ, List.set_cons_zero]
        refine wpAnyH_all (rs := [1]) (by kernel_rfl) (by simp) ?_
        intro k hk
        simp only [List.mem_cons, List.mem_nil_iff, or_false] at hk
        subst hk
        refine wpOp_run rfl rfl (wp_bs0g Try.underlying29 infoT rfl ?_)
        have b11 := b10.alloc b10.size (.cells #[] 59)
        have P11 : ((w5.alloc (.cells (dtC ⟨last1, first, 0, what⟩).toArray 59)).alloc (.cells #[] 59)).ownsRow w5.heap.size 59 4 (.slice (some ⟨(w5.alloc (.cells (dtC ⟨last1, first, 0, what⟩).toArray 59)).heap.size, 0, none⟩) 0 0) 0 [] := own_lower (own_empty_e (w5.alloc (.cells (dtC ⟨last1, first, 0, what⟩).toArray 59)) 59 4) b10.size
        have Q11 := heap_old Q10 (.cells #[] 59)
        refine ⟨(SS.out _ b11).2, ?_⟩
        simp only [List.getElem_toArray, List.getElem_cons_succ, List.getElem_cons_zero, Act.put, List.setIfInBounds_toArray, List.set_cons_succ, List.set_cons_zero]
        refine wpAnyH_all (rs := [6]) (by kernel_rfl) (by simp) ?_
        intro k hk
        simp only [List.mem_cons, List.mem_nil_iff, or_false] at hk
        subst hk
        refine wpOp_run rfl rfl (wp_append_wide DT _ _ 29 59 _ _ Try.underlying29 infoT rfl rfl w5.heap.size (.slice (some ⟨(w5.alloc (.cells (dtC ⟨last1, first, 0, what⟩).toArray 59)).heap.size, 0, none⟩) 0 0) [] rfl P11 _ l rfl (HX.out _ b11).row.wide (by unfold maxLen; simp; omega) (by simp; omega) b11.size ?_)
        intro v12 w12 P12 G12
        rw [List.nil_append] at P12
        have b12 : Below w5.heap.size w5 w12 := ⟨G12.os.trans b11.os, G12.tape.trans b11.tape, G12.output.trans b11.output, Nat.le_trans b11.size G12.size, fun k hk => (G12.block k (Nat.lt_of_lt_of_le hk b11.size) (fun e => by have := own_base P11 e.symm; omega)).trans (b11.block k hk)⟩
        have Q12 := (G12.block w5.heap.size (Array.getElem?_eq_some_iff.1 Q11).1 (fun e => by injection e with e; simp only [size_alloc] at e; first | omega | (have e' : w5.heap.size = (w5.alloc (.cells (dtC ⟨last1, first, 0, what⟩).toArray 59)).heap.size := e; simp only [size_alloc] at e'; omega))).trans Q11
        refine ⟨(SS.out _ b12).2, ?_⟩
        simp only [List.getElem_toArray, List.getElem_cons_succ, List.getElem_cons_zero, Act.put, List.setIfInBounds_toArray, List.set_cons_succ, List.set_cons_zero]
        refine wpAnyH_all (rs := [16]) (by kernel_rfl) (by simp) ?_
        intro k hk
        simp only [List.mem_cons, List.mem_nil_iff, or_false] at hk
        subst hk
        refine wpOp_run rfl rfl (wp_append_own _ _ _ 29 rfl w5.heap.size 59 i0 _ 4 32 Try.underlying29 hi0 hz0 hz1 hz2 rfl (by omega) _ l.length (flatW DT l) rfl P12 ⟨w5.heap.size, 0, none⟩ 1 1 (dtC ⟨last1, first, 0, what⟩) rfl rfl (news_dt Q12) (DT.one _) (by unfold maxLen; omega) (by omega) b12.size ?_)
        intro va wA oA gA _
        have BA : Below w5.heap.size w5 wA := ⟨gA.os.trans b12.os, gA.tape.trans b12.tape, gA.output.trans b12.output, Nat.le_trans b12.size gA.size, fun k hk => (gA.block k (Nat.lt_of_lt_of_le hk b12.size) (fun e => by have := own_base P12 e.symm; omega)).trans (b12.block k hk)⟩
        have QA : wA.ownsRow w5.heap.size 59 4 va (l ++ [(⟨last1, first, 0, what⟩ : Dt)]).length (flatW DT (l ++ [(⟨last1, first, 0, what⟩ : Dt)])) := by
          rw [List.length_append, flatW_append]; simpa [flatW, DT] using oA
        have XA := HX.out _ BA
        obtain ⟨aA, cA, hvA⟩ := own_shape5 QA
        subst hvA
        refine ⟨(SS.out _ BA).2, ?_⟩
        simp only [List.getElem_toArray, List.getElem_cons_succ, List.getElem_cons_zero, Act.put, List.setIfInBounds_toArray, List.set_cons_succ, List.set_cons_zero]
        refine wpAnyH_take (i := 17) (v := (.pointer (some ⟨E, 0, none⟩))) rfl (by kernel_rfl) (by kernel_rfl) (by kernel_rfl) (fun _ _ _ h => h) (.inl ⟨rfl, fun _ hS => by simp [execOp, go_sem, Act.eval]⟩) (SS.out _ BA).2 ?_
        simp only [List.getElem_toArray, List.getElem_cons_succ, List.getElem_cons_zero, Act.put, List.setIfInBounds_toArray, List.set_cons_succ, List.set_cons_zero]
        refine wpAnyH_take (i := 18) (v := (.pointer (some ⟨E, 0, none⟩))) rfl (by kernel_rfl) (by kernel_rfl) (by kernel_rfl) (fun _ _ _ h => h) (.inl ⟨rfl, fun _ hS => by simp [execOp, go_sem, Act.eval]⟩) (SS.out _ BA).2 ?_
        simp only [List.getElem_toArray, List.getElem_cons_succ, List.getElem_cons_zero, Act.put, List.setIfInBounds_toArray, List.set_cons_succ, List.set_cons_zero]
        refine wpAnyH_all (rs := [19]) (by kernel_rfl) (by simp) ?_
        intro k hk
        simp only [List.mem_cons, List.mem_nil_iff, or_false] at hk
        subst hk
        refine wpOp_run rfl rfl (wp_store_cell 29 _ _ rfl E 0 rfl _ rfl (store_tms wA E 0 _ aA _ cA XA.c.1 (XA.frozen 0)) ?_)
        have XS := XA.set (k := 0) (u := (.slice aA (l ++ [(⟨last1, first, 0, what⟩ : Dt)]).length cA)) (l' := l ++ [(⟨last1, first, 0, what⟩ : Dt)]) (now' := now) (last' := last1) (v' := (.slice aA (l ++ [(⟨last1, first, 0, what⟩ : Dt)]).length cA)) rfl (RT.own DT QA) (by simp; omega)
        have sx := XS.1.c.2.2
        refine ⟨sx, ?_⟩
        simp only [List.getElem_toArray, List.getElem_cons_succ, List.getElem_cons_zero, Act.put, List.setIfInBounds_toArray, List.set_cons_succ, List.set_cons_zero]
        refine wpAnyH_done (by kernel_rfl) ?_ _
        have HE : Hid (∃ v', Xw E (l ++ [(⟨last1, first, 0, what⟩ : Dt)]) now last1 v' (wA.setCell ⟨E, 0, none⟩ (.slice aA (l ++ [(⟨last1, first, 0, what⟩ : Dt)]).length cA)) ∧ w.grownBy (wA.setCell ⟨E, 0, none⟩ (.slice aA (l ++ [(⟨last1, first, 0, what⟩ : Dt)]).length cA)) (some E)) := ⟨_, XS.1, grown_trans (grown_trans HG4.out (gb_any (HB5.out.trans (BA.mono HB5.out.size)) _)) XS.2⟩
        have d2 := XS.1.c.2.2
        generalize wA.setCell ⟨E, 0, none⟩ (.slice aA (l ++ [(⟨last1, first, 0, what⟩ : Dt)]).length cA) = wz at *
        clear XS sx XA QA oA gA HX SS
        go_wp2
        go_ret2
        exact ⟨rfl, HE.out⟩
end
end Go.Proofs.Ytjkkclojidhgdaa
