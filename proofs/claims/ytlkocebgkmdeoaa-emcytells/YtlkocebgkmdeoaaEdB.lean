/- What the document's teller does: frame, Raise, Clear, Tick, Frame. -/
import Derived.Test.YtlkocebgkmdeoaaEdA
import Derived.Deep.DeepCutAuto
namespace Go.Proofs.Ytlkocebgkmdeoaa
open Go.RowKit
set_option linter.unusedVariables false
set_option maxRecDepth 1000000
set_option linter.unusedSimpArgs false
theorem enterDReg : ∀ args x, (callFunc 19 args).run Try.prog x = .ok (.enter 19 args) x := fun _ _ => by rfl
theorem exec_rem256 {a : Act} {o : Oper} {x y : Operand} {n : Nat} {t : TypeId} (ho : o.op = .binOp .rem 34 x y t) (hx : a.eval x = .int .u16 (n : Int)) (hy : a.eval y = .int .u16 256) (hn : n < 65536) (w : World) : (execOp a.eval o).run Try.prog w = .ok (.value (.int .u16 ((n : Int) % 256))) w := by
  have : IntKind.u16.wrap ((n : Int) % 256) = (n : Int) % 256 := by simp [IntKind.wrap, IntKind.bits, IntKind.signed]; omega
  have h3 : (n : Int).tmod 256 = (n : Int) % 256 := Int.tmod_eq_emod_of_nonneg (by omega)
  unfold execOp
  simp only [ho, hx, hy]
  simp [go_sem, binOp, eqGuard, run_underlying Try.underlying34, this, h3]
theorem exec_quo256 {a : Act} {o : Oper} {x y : Operand} {n : Nat} {t : TypeId} (ho : o.op = .binOp .quo 34 x y t) (hx : a.eval x = .int .u16 (n : Int)) (hy : a.eval y = .int .u16 256) (hn : n < 65536) (w : World) : (execOp a.eval o).run Try.prog w = .ok (.value (.int .u16 ((n : Int) / 256))) w := by
  have : IntKind.u16.wrap ((n : Int) / 256) = (n : Int) / 256 := by simp [IntKind.wrap, IntKind.bits, IntKind.signed]; omega
  have h3 : (n : Int).tdiv 256 = (n : Int) / 256 := Int.tdiv_eq_ediv_of_nonneg (by omega)
  unfold execOp
  simp only [ho, hx, hy]
  simp [go_sem, binOp, eqGuard, run_underlying Try.underlying34, this, h3]
theorem exec_cv8 {a : Act} {o : Oper} {x : Operand} {z : Int} (ho : o.op = .convert 34 5 x) (hx : a.eval x = .int .u16 z) (hz : 0 ≤ z ∧ z < 256) (w : World) : (execOp a.eval o).run Try.prog w = .ok (.value (.int .u8 z)) w := by
  have : IntKind.u8.wrap z = z := by simp [IntKind.wrap, IntKind.bits, IntKind.signed]; omega
  unfold execOp
  simp only [ho, hx]
  simp [go_sem, convert, run_underlying Try.underlying34, run_underlying Try.underlying5, this]
theorem exec_idx5 {a : Act} {o : Oper} {s i : Operand} {b k : Nat} (ho : o.op = .indexAddr 35 s i) (hs : a.eval s = .pointer (some ⟨b, 0, none⟩)) (hi : a.eval i = .int .i64 (k : Int)) (hk : k < 5) (w : World) : (execOp a.eval o).run Try.prog w = .ok (.value (.pointer (some ⟨b, k, none⟩))) w := by
  have h1 : (0 : Int) ≤ (k : Int) := by omega
  have h2 : (k : Int) < 5 := by omega
  obtain ⟨i0, hi0, hz0, hz1, hz2⟩ := info_parts info5
  unfold execOp
  simp only [ho, hs, hi]
  simp [go_sem, run_underlying Try.underlying35, sizeOf, typeInfo, hi0, hz1, h1, h2, add_off]
theorem wp_appW (D : Dec Tr) {o : Oper} {a : Act} {w : World} {K : Act → World → Prop} {Q : Exit → Act → World → Prop} (s x : Operand) (t e : TypeId) (z : Value) (bytes : Nat)
    (ht : Try.prog.underlying t = some (.slice e)) (hinfo : (Try.prog.info? e).map (fun i => (i.zero, i.size, i.bytes)) = some (some z, D.c, bytes)) (hzs : z.cells.size = D.c)
    (ho : o.op = .call { callee := .builtin .append, args := #[s, x], argTypes := #[t, t] })
    (base : Nat) (v : Value) (xs : List Tr) (hs : a.eval s = v) (hown : w.ownsRow base e D.c v xs.length (flatW D xs)) (vx : Value) (l : List Tr) (hx : a.eval x = vx) (hB : Wide D.c D.dec w vx l)
    (h63 : xs.length + l.length ≤ maxLen) (hbytes : (xs.length + l.length) * bytes ≤ 140737488355328) (hbase : base ≤ w.heap.size)
    (h : ∀ a9 c9 w', w'.ownsRow base e D.c (.slice a9 (xs ++ l).length c9) (xs ++ l).length (flatW D (xs ++ l)) → w.grownBy w' v.ownBlock → K (a.put o.dst (.slice a9 (xs ++ l).length c9)) w') : o.wp Try.prog a w K Q :=
  wp_append_wide D s x t e z bytes ht hinfo hzs ho base v xs hs hown vx l hx hB h63 hbytes hbase fun v' w' h1 h2 => by
    obtain ⟨a9, c9, rfl⟩ := own_shape5 h1
    exact h a9 c9 w' h1 h2
section
variable {d : Nat} {D : Nat → Prop} {s : Te} {vn vo vf v : Value} {w x y : World}
/-- A row is laid anew: the frames that wait. -/
theorem Dtv.newF (h : Dtv d D s vn vo vf w) {B n c : Nat} {a9 : Option Addr} (l : List Tr) (hB : w.heap.size ≤ B) (hK : Below w.heap.size w y) (ho : y.ownsRow B 42 8 (.slice a9 n c) l.length (flatW DF l)) : Dtv d (fun k => D k ∨ w.heap.size ≤ k) { s with waits := l } vn vo (.slice a9 n c) (y.setCell ⟨d, 5, none⟩ (.slice a9 n c)) ∧ Kq (fun k => k = d) w (y.setCell ⟨d, 5, none⟩ (.slice a9 n c)) := by
  have K3 := Kq.one y d 5 (.slice a9 n c)
  have h2 := h.below hK
  have hlt := h.blk.lt
  have hb : ∀ k, (Value.slice a9 n c).ownBlock = some k → B ≤ k := fun k e => (own_lt2 ho e).1
  refine ⟨⟨h2.blk.set 5 _, h2.rn.kq K3 (fun k e => (h.bn k e).2), h2.ro.kq K3 (fun k e => (h.bo k e).2), (wide_of_own DF ho).kq K3 (fun k e => by have := hb k e; omega), .inl h.pd, fun k e => ⟨.inl (h.bn k e).1, (h.bn k e).2⟩, fun k e => ⟨.inl (h.bo k e).1, (h.bo k e).2⟩, fun k e => ⟨.inr (by have := hb k e; omega), by have := hb k e; omega⟩, h.cn, h.co, fun ao n' c' e => ?_, fun k e => Nat.lt_of_lt_of_le (h.ln k e) (Nat.le_trans hK.size K3.size), fun k e => Nat.lt_of_lt_of_le (h.lo k e) (Nat.le_trans hK.size K3.size), fun k e => Nat.lt_of_lt_of_le (own_lt2 ho e).2 K3.size⟩, (Kq.of_below (P := fun k => k = d) hK).trans K3⟩
  injection e with e1 e2 e3
  subst e1 e2 e3
  rcases ho.2 with ⟨e1, h0⟩ | ⟨g', cap, cur, e1, _, _, h1, _⟩
  · injection e1 with _ e2 e3; omega
  · injection e1 with _ e2 e3; omega
set_option maxHeartbeats 4000000 in
theorem dframe_any (h : Dtv d D s vn vo vf w) (hl : s.now.length ≤ 2305843009213693951) (c : Nat) (hc : c < 65536) (x0 x1 x2 x3 x4 : Int) :
    Calls Try.prog 28 #[.pointer (some ⟨d, 0, none⟩), .int .u16 c, .agg #[.int .u8 x0, .int .u8 x1, .int .u8 x2, .int .u8 x3, .int .u8 x4]] w fun e w' => e = .returned (.tuple #[]) ∧ ∃ vf', Dtv d (fun k => D k ∨ w.heap.size ≤ k) { s with waits := push s.waits (tl c hc s.now x0 x1 x2 x3 x4) } vn vo vf' w' ∧ Kq (fun k => k = d) w w' := by
  obtain ⟨q, hq⟩ : ∃ q, w.heap.size = q := ⟨_, rfl⟩
  obtain ⟨w1, hw1⟩ : ∃ y, w.alloc (.cells #[.int .u8 x0, .int .u8 x1, .int .u8 x2, .int .u8 x3, .int .u8 x4] 35) = y := ⟨_, rfl⟩
  have b0 : Below w.heap.size w w1 := by rw [← hw1]; exact (Below.refl _ _).alloc (Nat.le_refl _) _
  have S0 : Bc 35 q #[.int .u8 x0, .int .u8 x1, .int .u8 x2, .int .u8 x3, .int .u8 x4] w1 := by rw [← hw1, ← hq]; exact heap_alloc_new w _
  have h0 := h.below b0
  have hgq : d ≠ q := by have := h.blk.lt; omega
  obtain ⟨af, cf, hv⟩ := h.rf.shape
  subst hv
  have c5 := h0.cells.2.2.2.2.2.1
  have HDD : Hid (∀ k, (D k ∨ w1.heap.size ≤ k) → (D k ∨ w.heap.size ≤ k)) := fun k hk => hk.imp id (fun e => Nat.le_trans b0.size e)
  have HKK : Hid (∀ z, Kq (fun k => k = d) w1 z → Kq (fun k => k = d) w z) := fun z hz => (Kq.of_below b0).trans hz
  by_cases hlt16 : s.waits.length < 16
  · have hpu : push s.waits (tl c hc s.now x0 x1 x2 x3 x4) = s.waits ++ [tl c hc s.now x0 x1 x2 x3 x4] := by unfold push; rw [if_pos hlt16]
    rw [hpu]
    have hd : decide ((s.waits.length : Int) < 16) = true := by simp; omega
    clear hpu
    have HSS : Hid (∀ (u u' : World), Bc 35 q #[.int .u8 x0, .int .u8 x1, .int .u8 x2, .int .u8 x3, .int .u8 x4] u → Below u.heap.size u u' → Bc 35 q #[.int .u8 x0, .int .u8 x1, .int .u8 x2, .int .u8 x3, .int .u8 x4] u') := fun u u' h1 h2 => Bc.below h1 h2
    have HSC : Hid (∀ (u : World) (v : Value), Bc 35 q #[.int .u8 x0, .int .u8 x1, .int .u8 x2, .int .u8 x3, .int .u8 x4] u → Bc 35 q #[.int .u8 x0, .int .u8 x1, .int .u8 x2, .int .u8 x3, .int .u8 x4] (u.setCell ⟨d, 5, none⟩ v)) := fun u v h1 => Bc.kq h1 (Kq.one u d 5 v) (fun e => hgq e.symm)
    clear h
    go_enter Try.func28, Try.ntmps28
    go_wp2_with fail
    change Code.wp Try.prog _ _ _ w1
    refine wp_region_held (S := fun y => Bc 35 q #[.int .u8 x0, .int .u8 x1, .int .u8 x2, .int .u8 x3, .int .u8 x4] y) (by kernel_rfl) ?_
    change wpAnyH _ _ _ _ _ _ _ _ w1.drew
    replace h0 : Dtv d D s vn vo (.slice af s.waits.length cf) w1.drew := h0.kq (Q := fun _ => False) ((Kq.refl _ _).drawn 1) (fun _ _ h => h)
    replace S0 : Bc 35 q #[.int .u8 x0, .int .u8 x1, .int .u8 x2, .int .u8 x3, .int .u8 x4] w1.drew := S0
    replace HDD : Hid (∀ k, (D k ∨ w1.drew.heap.size ≤ k) → (D k ∨ w.heap.size ≤ k)) := HDD
    replace HKK : Hid (∀ z, Kq (fun k => k = d) w1.drew z → Kq (fun k => k = d) w z) := fun z hz => HKK.out z ⟨hz.os, hz.tape, hz.output, hz.size, hz.block⟩
    generalize w1.drew = w1 at *
    have k0 : Below w1.heap.size w1 w1 := Below.refl _ _
    refine wpAnyH_take (i := 0) (v := (.pointer (some ⟨d, 0, none⟩))) rfl (by kernel_rfl) (by kernel_rfl) (by kernel_rfl) (fun _ _ _ h => h) (.inl ⟨rfl, fun _ hS => rfl⟩) S0 ?_
    simp only [List.getElem_toArray, List.getElem_cons_succ, List.getElem_cons_zero, Act.put, List.setIfInBounds_toArray, List.set_cons_succ, List.set_cons_zero]
    refine wpAnyH_take (i := 2) (v := (.pointer (some ⟨d, 0, none⟩))) rfl (by kernel_rfl) (by kernel_rfl) (by kernel_rfl) (fun _ _ _ h => h) (.inl ⟨rfl, fun _ hS => rfl⟩) S0 ?_
    simp only [List.getElem_toArray, List.getElem_cons_succ, List.getElem_cons_zero, Act.put, List.setIfInBounds_toArray, List.set_cons_succ, List.set_cons_zero]
    refine wpAnyH_take (i := 3) (v := (.pointer (some ⟨d, 0, none⟩))) rfl (by kernel_rfl) (by kernel_rfl) (by kernel_rfl) (fun _ _ _ h => h) (.inl ⟨rfl, fun _ hS => by simp [execOp, go_sem, Act.eval]⟩) S0 ?_
    simp only [List.getElem_toArray, List.getElem_cons_succ, List.getElem_cons_zero, Act.put, List.setIfInBounds_toArray, List.set_cons_succ, List.set_cons_zero]
    refine wpAnyH_take (i := 4) (v := (.pointer (some ⟨d, 5, none⟩))) rfl (by kernel_rfl) (by kernel_rfl) (by kernel_rfl) (fun _ _ _ h => h) (.inl ⟨rfl, fun _ hS => by simp [execOp, go_sem, Act.eval]⟩) S0 ?_
    simp only [List.getElem_toArray, List.getElem_cons_succ, List.getElem_cons_zero, Act.put, List.setIfInBounds_toArray, List.set_cons_succ, List.set_cons_zero]
    refine wpAnyH_take (i := 7) (v := (.int .u16 c)) rfl (by kernel_rfl) (by kernel_rfl) (by kernel_rfl) (fun _ _ _ h => h) (.inl ⟨rfl, fun _ hS => rfl⟩) S0 ?_
    simp only [List.getElem_toArray, List.getElem_cons_succ, List.getElem_cons_zero, Act.put, List.setIfInBounds_toArray, List.set_cons_succ, List.set_cons_zero]
    refine wpAnyH_take (i := 8) (v := (.int .u16 ((c : Int) % 256))) rfl (by kernel_rfl) (by kernel_rfl) (by kernel_rfl) (fun _ _ _ h => h) (.inl ⟨rfl, fun _ hS => exec_rem256 rfl rfl rfl hc _⟩) S0 ?_
    simp only [List.getElem_toArray, List.getElem_cons_succ, List.getElem_cons_zero, Act.put, List.setIfInBounds_toArray, List.set_cons_succ, List.set_cons_zero]
    refine wpAnyH_take (i := 9) (v := (.int .u8 ((c : Int) % 256))) rfl (by kernel_rfl) (by kernel_rfl) (by kernel_rfl) (fun _ _ _ h => h) (.inl ⟨rfl, fun _ hS => exec_cv8 rfl rfl (by omega) _⟩) S0 ?_
    simp only [List.getElem_toArray, List.getElem_cons_succ, List.getElem_cons_zero, Act.put, List.setIfInBounds_toArray, List.set_cons_succ, List.set_cons_zero]
    refine wpAnyH_take (i := 10) (v := (.int .u16 c)) rfl (by kernel_rfl) (by kernel_rfl) (by kernel_rfl) (fun _ _ _ h => h) (.inl ⟨rfl, fun _ hS => rfl⟩) S0 ?_
    simp only [List.getElem_toArray, List.getElem_cons_succ, List.getElem_cons_zero, Act.put, List.setIfInBounds_toArray, List.set_cons_succ, List.set_cons_zero]
    refine wpAnyH_take (i := 11) (v := (.int .u16 ((c : Int) / 256))) rfl (by kernel_rfl) (by kernel_rfl) (by kernel_rfl) (fun _ _ _ h => h) (.inl ⟨rfl, fun _ hS => exec_quo256 rfl rfl rfl hc _⟩) S0 ?_
    simp only [List.getElem_toArray, List.getElem_cons_succ, List.getElem_cons_zero, Act.put, List.setIfInBounds_toArray, List.set_cons_succ, List.set_cons_zero]
    refine wpAnyH_take (i := 12) (v := (.int .u8 ((c : Int) / 256))) rfl (by kernel_rfl) (by kernel_rfl) (by kernel_rfl) (fun _ _ _ h => h) (.inl ⟨rfl, fun _ hS => exec_cv8 rfl rfl (by omega) _⟩) S0 ?_
    simp only [List.getElem_toArray, List.getElem_cons_succ, List.getElem_cons_zero, Act.put, List.setIfInBounds_toArray, List.set_cons_succ, List.set_cons_zero]
    refine wpAnyH_take (i := 13) (v := (.pointer (some ⟨d, 0, none⟩))) rfl (by kernel_rfl) (by kernel_rfl) (by kernel_rfl) (fun _ _ _ h => h) (.inl ⟨rfl, fun _ hS => rfl⟩) S0 ?_
    simp only [List.getElem_toArray, List.getElem_cons_succ, List.getElem_cons_zero, Act.put, List.setIfInBounds_toArray, List.set_cons_succ, List.set_cons_zero]
    refine wpAnyH_take (i := 15) (v := (.pointer (some ⟨q, 0, none⟩))) rfl (by kernel_rfl) (by kernel_rfl) (by kernel_rfl) (fun _ _ _ h => h) (.inl ⟨rfl, fun _ hS => exec_idx5 (k := 0) rfl rfl rfl (by decide) _⟩) S0 ?_
    simp only [List.getElem_toArray, List.getElem_cons_succ, List.getElem_cons_zero, Act.put, List.setIfInBounds_toArray, List.set_cons_succ, List.set_cons_zero]
    refine wpAnyH_take (i := 16) (v := (.int .u8 x0)) rfl (by kernel_rfl) (by kernel_rfl) (by kernel_rfl) (fun _ _ _ h => h) (.inl ⟨rfl, fun _ hS => exec_load rfl rfl (load_u8 _ _ _ _ (Bc.cell hS 0))⟩) S0 ?_
    simp only [List.getElem_toArray, List.getElem_cons_succ, List.getElem_cons_zero, Act.put, List.setIfInBounds_toArray, List.set_cons_succ, List.set_cons_zero]
    refine wpAnyH_take (i := 17) (v := (.pointer (some ⟨q, 1, none⟩))) rfl (by kernel_rfl) (by kernel_rfl) (by kernel_rfl) (fun _ _ _ h => h) (.inl ⟨rfl, fun _ hS => exec_idx5 (k := 1) rfl rfl rfl (by decide) _⟩) S0 ?_
    simp only [List.getElem_toArray, List.getElem_cons_succ, List.getElem_cons_zero, Act.put, List.setIfInBounds_toArray, List.set_cons_succ, List.set_cons_zero]
    refine wpAnyH_take (i := 18) (v := (.int .u8 x1)) rfl (by kernel_rfl) (by kernel_rfl) (by kernel_rfl) (fun _ _ _ h => h) (.inl ⟨rfl, fun _ hS => exec_load rfl rfl (load_u8 _ _ _ _ (Bc.cell hS 1))⟩) S0 ?_
    simp only [List.getElem_toArray, List.getElem_cons_succ, List.getElem_cons_zero, Act.put, List.setIfInBounds_toArray, List.set_cons_succ, List.set_cons_zero]
    refine wpAnyH_take (i := 19) (v := (.pointer (some ⟨q, 2, none⟩))) rfl (by kernel_rfl) (by kernel_rfl) (by kernel_rfl) (fun _ _ _ h => h) (.inl ⟨rfl, fun _ hS => exec_idx5 (k := 2) rfl rfl rfl (by decide) _⟩) S0 ?_
    simp only [List.getElem_toArray, List.getElem_cons_succ, List.getElem_cons_zero, Act.put, List.setIfInBounds_toArray, List.set_cons_succ, List.set_cons_zero]
    refine wpAnyH_take (i := 20) (v := (.int .u8 x2)) rfl (by kernel_rfl) (by kernel_rfl) (by kernel_rfl) (fun _ _ _ h => h) (.inl ⟨rfl, fun _ hS => exec_load rfl rfl (load_u8 _ _ _ _ (Bc.cell hS 2))⟩) S0 ?_
    simp only [List.getElem_toArray, List.getElem_cons_succ, List.getElem_cons_zero, Act.put, List.setIfInBounds_toArray, List.set_cons_succ, List.set_cons_zero]
    refine wpAnyH_take (i := 21) (v := (.pointer (some ⟨q, 3, none⟩))) rfl (by kernel_rfl) (by kernel_rfl) (by kernel_rfl) (fun _ _ _ h => h) (.inl ⟨rfl, fun _ hS => exec_idx5 (k := 3) rfl rfl rfl (by decide) _⟩) S0 ?_
    simp only [List.getElem_toArray, List.getElem_cons_succ, List.getElem_cons_zero, Act.put, List.setIfInBounds_toArray, List.set_cons_succ, List.set_cons_zero]
    refine wpAnyH_take (i := 22) (v := (.int .u8 x3)) rfl (by kernel_rfl) (by kernel_rfl) (by kernel_rfl) (fun _ _ _ h => h) (.inl ⟨rfl, fun _ hS => exec_load rfl rfl (load_u8 _ _ _ _ (Bc.cell hS 3))⟩) S0 ?_
    simp only [List.getElem_toArray, List.getElem_cons_succ, List.getElem_cons_zero, Act.put, List.setIfInBounds_toArray, List.set_cons_succ, List.set_cons_zero]
    refine wpAnyH_take (i := 23) (v := (.pointer (some ⟨q, 4, none⟩))) rfl (by kernel_rfl) (by kernel_rfl) (by kernel_rfl) (fun _ _ _ h => h) (.inl ⟨rfl, fun _ hS => exec_idx5 (k := 4) rfl rfl rfl (by decide) _⟩) S0 ?_
    simp only [List.getElem_toArray, List.getElem_cons_succ, List.getElem_cons_zero, Act.put, List.setIfInBounds_toArray, List.set_cons_succ, List.set_cons_zero]
    refine wpAnyH_take (i := 24) (v := (.int .u8 x4)) rfl (by kernel_rfl) (by kernel_rfl) (by kernel_rfl) (fun _ _ _ h => h) (.inl ⟨rfl, fun _ hS => exec_load rfl rfl (load_u8 _ _ _ _ (Bc.cell hS 4))⟩) S0 ?_
    simp only [List.getElem_toArray, List.getElem_cons_succ, List.getElem_cons_zero, Act.put, List.setIfInBounds_toArray, List.set_cons_succ, List.set_cons_zero]
    refine wpAnyH_all (rs := [1, 5]) (by kernel_rfl) (by simp) ?_
    intro k hk
    simp only [List.mem_cons, List.mem_nil_iff, or_false] at hk
    rcases hk with rfl | rfl
    · refine wpOp_run rfl rfl (wp_bs0g Try.underlying31 info8F rfl ?_)
      obtain ⟨qa, hqa⟩ : ∃ q, w1.heap.size = q := ⟨_, rfl⟩
      have b1 : Below w1.heap.size w1 (w1.alloc (.cells #[] 42)) := (Below.refl _ _).alloc (Nat.le_refl _) _
      have z1 : (w1.alloc (.cells #[] 42)).ownsRow qa 42 8 (.slice (some ⟨qa, 0, none⟩) 0 0) ([] : List Tr).length (flatW DF []) := by rw [← hqa]; exact own_empty_e w1 42 8
      have hqa0 : w1.heap.size ≤ qa := by rw [← hqa]; exact k0.size
      have h1 := h0.below b1
      have s1 := HSS.out _ _ S0 b1
      have k1 := k0.trans (b1.mono k0.size)
      have q1 : qa ≤ (w1.alloc (.cells #[] 42)).heap.size := by rw [← hqa]; simp
      rw [hqa]
      clear hqa
      generalize w1.alloc (.cells #[] 42) = u1 at *
      refine ⟨s1, ?_⟩
      simp only [List.getElem_toArray, List.getElem_cons_succ, List.getElem_cons_zero, Act.put, List.setIfInBounds_toArray, List.set_cons_succ, List.set_cons_zero]
      refine wpAnyH_all (rs := [5]) (by kernel_rfl) (by simp) ?_
      intro k hk
      simp only [List.mem_cons, List.mem_nil_iff, or_false] at hk
      subst hk
      refine wpOp_run rfl rfl (wp_load_run 31 _ rfl ⟨d, 5, none⟩ rfl _ (load_fs h1.cells.2.2.2.2.2.1) ?_)
      refine ⟨s1, ?_⟩
      simp only [List.getElem_toArray, List.getElem_cons_succ, List.getElem_cons_zero, Act.put, List.setIfInBounds_toArray, List.set_cons_succ, List.set_cons_zero]
      refine wpAnyH_all (rs := [6]) (by kernel_rfl) (by simp) ?_
      intro k hk
      simp only [List.mem_cons, List.mem_nil_iff, or_false] at hk
      subst hk
      refine wpOp_run rfl rfl (wp_appW DF _ _ 31 42 _ 8 Try.underlying31 info8F rfl rfl qa _ [] rfl z1 _ s.waits rfl h1.rf (by unfold maxLen; simp; omega) (by simp; omega) q1 ?_)
      intro a8 c8 u2 o8 g8
      have b2 : Below w1.heap.size u1 u2 := (Below.refl _ _ : Below w1.heap.size u1 u1).grown g8 k1.size (fun k e => Nat.le_trans hqa0 (own_lt z1 k e))
      have k2 := k1.trans b2
      have h2 := h0.below k2
      have s2 := HSS.out _ _ S0 k2
      have q2 := Nat.le_trans q1 g8.size
      refine ⟨s2, ?_⟩
      simp only [List.getElem_toArray, List.getElem_cons_succ, List.getElem_cons_zero, Act.put, List.setIfInBounds_toArray, List.set_cons_succ, List.set_cons_zero]
      refine wpAnyH_all (rs := [14]) (by kernel_rfl) (by simp) ?_
      intro k hk
      simp only [List.mem_cons, List.mem_nil_iff, or_false] at hk
      subst hk
      refine wpOp_run rfl rfl (wp_call_fn 19 #[.pointer (some ⟨d, 0, none⟩)] (by simp [execOp, go_sem, Act.eval, resolve, invoke, enterDReg]) ?_)
      refine (dreg_any h2 hl).mono ?_
      rintro e uR ⟨rfl, hR⟩
      rw [hR]
      clear hR
      refine ⟨s2, ?_⟩
      simp only [List.getElem_toArray, List.getElem_cons_succ, List.getElem_cons_zero, Act.put, List.setIfInBounds_toArray, List.set_cons_succ, List.set_cons_zero]
      refine wpAnyH_take (i := 25) (v := (.agg (tl c hc s.now x0 x1 x2 x3 x4).far)) rfl (by kernel_rfl) (by kernel_rfl) (by kernel_rfl) (fun _ _ _ h => h) (.inl ⟨rfl, fun _ hS => by simp [execOp, go_sem, Act.eval, Tr.far, tl]⟩) s2 ?_
      simp only [List.getElem_toArray, List.getElem_cons_succ, List.getElem_cons_zero, Act.put, List.setIfInBounds_toArray, List.set_cons_succ, List.set_cons_zero]
      refine wpAnyH_all (rs := [26]) (by kernel_rfl) (by simp) ?_
      intro k hk
      simp only [List.mem_cons, List.mem_nil_iff, or_false] at hk
      subst hk
      refine wpOp_run rfl rfl (wp_one DF (tl c hc s.now x0 x1 x2 x3 x4) 31 42 _ 8 _ rfl rfl Try.underlying31 info8F (by decide) ?_)
      obtain ⟨qb, hqb⟩ : ∃ q, u2.heap.size = q := ⟨_, rfl⟩
      have b3 : Below u2.heap.size u2 (u2.alloc (.cells (DF.dec (tl c hc s.now x0 x1 x2 x3 x4)).toArray 42)) := (Below.refl _ _).alloc (Nat.le_refl _) _
      have W3 : Wide 8 Tr.fs (u2.alloc (.cells (DF.dec (tl c hc s.now x0 x1 x2 x3 x4)).toArray 42)) (.slice (some ⟨qb, 0, none⟩) 1 1) [(tl c hc s.now x0 x1 x2 x3 x4)] := by rw [← hqb]; exact wide_new DF u2 (tl c hc s.now x0 x1 x2 x3 x4) 42
      have h3 := h2.below b3
      have s3 := HSS.out _ _ s2 b3
      have k3 := k2.trans (b3.mono k2.size)
      have q3 := Nat.le_trans q2 b3.size
      have row3 := own_belowE o8 b3
      rw [hqb]
      clear hqb
      generalize u2.alloc (.cells (DF.dec (tl c hc s.now x0 x1 x2 x3 x4)).toArray 42) = u3 at *
      refine ⟨s3, ?_⟩
      simp only [List.getElem_toArray, List.getElem_cons_succ, List.getElem_cons_zero, Act.put, List.setIfInBounds_toArray, List.set_cons_succ, List.set_cons_zero]
      refine wpAnyH_all (rs := [27]) (by kernel_rfl) (by simp) ?_
      intro k hk
      simp only [List.mem_cons, List.mem_nil_iff, or_false] at hk
      subst hk
      refine wpOp_run rfl rfl (wp_appW DF _ _ 31 42 _ 8 Try.underlying31 info8F rfl rfl qa _ ([] ++ s.waits) rfl row3 _ [(tl c hc s.now x0 x1 x2 x3 x4)] rfl W3 (by unfold maxLen; simp; omega) (by simp; omega) q3 ?_)
      intro a9 c9 y9 o9 g9
      have b9 : Below w1.heap.size w1 y9 := k3.grown g9 k3.size (fun k e => Nat.le_trans hqa0 (own_lt row3 k e))
      have z9 := h0.newF (s.waits ++ [(tl c hc s.now x0 x1 x2 x3 x4)]) hqa0 b9 o9
      have h9 := h0.below b9
      have c9' := h9.cells.2.2.2.2.2.1
      have f9 := h9.cells.2.2.2.2.2.2 5
      have s9 := HSS.out _ _ S0 b9
      refine ⟨s9, ?_⟩
      simp only [List.getElem_toArray, List.getElem_cons_succ, List.getElem_cons_zero, Act.put, List.setIfInBounds_toArray, List.set_cons_succ, List.set_cons_zero]
      refine wpAnyH_take (i := 28) (v := (.pointer (some ⟨d, 0, none⟩))) rfl (by kernel_rfl) (by kernel_rfl) (by kernel_rfl) (fun _ _ _ h => h) (.inl ⟨rfl, fun _ hS => by simp [execOp, go_sem, Act.eval]⟩) s9 ?_
      simp only [List.getElem_toArray, List.getElem_cons_succ, List.getElem_cons_zero, Act.put, List.setIfInBounds_toArray, List.set_cons_succ, List.set_cons_zero]
      refine wpAnyH_take (i := 29) (v := (.pointer (some ⟨d, 5, none⟩))) rfl (by kernel_rfl) (by kernel_rfl) (by kernel_rfl) (fun _ _ _ h => h) (.inl ⟨rfl, fun _ hS => by simp [execOp, go_sem, Act.eval]⟩) s9 ?_
      simp only [List.getElem_toArray, List.getElem_cons_succ, List.getElem_cons_zero, Act.put, List.setIfInBounds_toArray, List.set_cons_succ, List.set_cons_zero]
      refine wpAnyH_all (rs := [30]) (by kernel_rfl) (by simp) ?_
      intro k hk
      simp only [List.mem_cons, List.mem_nil_iff, or_false] at hk
      subst hk
      refine wpOp_run rfl rfl (wp_store_run 31 _ _ rfl ⟨d, 5, none⟩ rfl _ rfl (store_fs c9' f9) ?_)
      have s10 := HSC.out _ (.slice a9 (([] ++ s.waits) ++ [(tl c hc s.now x0 x1 x2 x3 x4)]).length c9) s9
      refine ⟨s10, ?_⟩
      simp only [List.getElem_toArray, List.getElem_cons_succ, List.getElem_cons_zero, Act.put, List.setIfInBounds_toArray, List.set_cons_succ, List.set_cons_zero]
      refine wpAnyH_done (by kernel_rfl) ?_ _
      go_wp2
      go_end0
      exact ⟨rfl, _, z9.1.wide HDD.out, HKK.out _ z9.2⟩
    · refine wpOp_run rfl rfl (wp_load_run 31 _ rfl ⟨d, 5, none⟩ rfl _ (load_fs h0.cells.2.2.2.2.2.1) ?_)
      refine ⟨S0, ?_⟩
      simp only [List.getElem_toArray, List.getElem_cons_succ, List.getElem_cons_zero, Act.put, List.setIfInBounds_toArray, List.set_cons_succ, List.set_cons_zero]
      refine wpAnyH_all (rs := [1]) (by kernel_rfl) (by simp) ?_
      intro k hk
      simp only [List.mem_cons, List.mem_nil_iff, or_false] at hk
      subst hk
      refine wpOp_run rfl rfl (wp_bs0g Try.underlying31 info8F rfl ?_)
      obtain ⟨qa, hqa⟩ : ∃ q, w1.heap.size = q := ⟨_, rfl⟩
      have b1 : Below w1.heap.size w1 (w1.alloc (.cells #[] 42)) := (Below.refl _ _).alloc (Nat.le_refl _) _
      have z1 : (w1.alloc (.cells #[] 42)).ownsRow qa 42 8 (.slice (some ⟨qa, 0, none⟩) 0 0) ([] : List Tr).length (flatW DF []) := by rw [← hqa]; exact own_empty_e w1 42 8
      have hqa0 : w1.heap.size ≤ qa := by rw [← hqa]; exact k0.size
      have h1 := h0.below b1
      have s1 := HSS.out _ _ S0 b1
      have k1 := k0.trans (b1.mono k0.size)
      have q1 : qa ≤ (w1.alloc (.cells #[] 42)).heap.size := by rw [← hqa]; simp
      rw [hqa]
      clear hqa
      generalize w1.alloc (.cells #[] 42) = u1 at *
      refine ⟨s1, ?_⟩
      simp only [List.getElem_toArray, List.getElem_cons_succ, List.getElem_cons_zero, Act.put, List.setIfInBounds_toArray, List.set_cons_succ, List.set_cons_zero]
      refine wpAnyH_all (rs := [6]) (by kernel_rfl) (by simp) ?_
      intro k hk
      simp only [List.mem_cons, List.mem_nil_iff, or_false] at hk
      subst hk
      refine wpOp_run rfl rfl (wp_appW DF _ _ 31 42 _ 8 Try.underlying31 info8F rfl rfl qa _ [] rfl z1 _ s.waits rfl h1.rf (by unfold maxLen; simp; omega) (by simp; omega) q1 ?_)
      intro a8 c8 u2 o8 g8
      have b2 : Below w1.heap.size u1 u2 := (Below.refl _ _ : Below w1.heap.size u1 u1).grown g8 k1.size (fun k e => Nat.le_trans hqa0 (own_lt z1 k e))
      have k2 := k1.trans b2
      have h2 := h0.below k2
      have s2 := HSS.out _ _ S0 k2
      have q2 := Nat.le_trans q1 g8.size
      refine ⟨s2, ?_⟩
      simp only [List.getElem_toArray, List.getElem_cons_succ, List.getElem_cons_zero, Act.put, List.setIfInBounds_toArray, List.set_cons_succ, List.set_cons_zero]
      refine wpAnyH_all (rs := [14]) (by kernel_rfl) (by simp) ?_
      intro k hk
      simp only [List.mem_cons, List.mem_nil_iff, or_false] at hk
      subst hk
      refine wpOp_run rfl rfl (wp_call_fn 19 #[.pointer (some ⟨d, 0, none⟩)] (by simp [execOp, go_sem, Act.eval, resolve, invoke, enterDReg]) ?_)
      refine (dreg_any h2 hl).mono ?_
      rintro e uR ⟨rfl, hR⟩
      rw [hR]
      clear hR
      refine ⟨s2, ?_⟩
      simp only [List.getElem_toArray, List.getElem_cons_succ, List.getElem_cons_zero, Act.put, List.setIfInBounds_toArray, List.set_cons_succ, List.set_cons_zero]
      refine wpAnyH_take (i := 25) (v := (.agg (tl c hc s.now x0 x1 x2 x3 x4).far)) rfl (by kernel_rfl) (by kernel_rfl) (by kernel_rfl) (fun _ _ _ h => h) (.inl ⟨rfl, fun _ hS => by simp [execOp, go_sem, Act.eval, Tr.far, tl]⟩) s2 ?_
      simp only [List.getElem_toArray, List.getElem_cons_succ, List.getElem_cons_zero, Act.put, List.setIfInBounds_toArray, List.set_cons_succ, List.set_cons_zero]
      refine wpAnyH_all (rs := [26]) (by kernel_rfl) (by simp) ?_
      intro k hk
      simp only [List.mem_cons, List.mem_nil_iff, or_false] at hk
      subst hk
      refine wpOp_run rfl rfl (wp_one DF (tl c hc s.now x0 x1 x2 x3 x4) 31 42 _ 8 _ rfl rfl Try.underlying31 info8F (by decide) ?_)
      obtain ⟨qb, hqb⟩ : ∃ q, u2.heap.size = q := ⟨_, rfl⟩
      have b3 : Below u2.heap.size u2 (u2.alloc (.cells (DF.dec (tl c hc s.now x0 x1 x2 x3 x4)).toArray 42)) := (Below.refl _ _).alloc (Nat.le_refl _) _
      have W3 : Wide 8 Tr.fs (u2.alloc (.cells (DF.dec (tl c hc s.now x0 x1 x2 x3 x4)).toArray 42)) (.slice (some ⟨qb, 0, none⟩) 1 1) [(tl c hc s.now x0 x1 x2 x3 x4)] := by rw [← hqb]; exact wide_new DF u2 (tl c hc s.now x0 x1 x2 x3 x4) 42
      have h3 := h2.below b3
      have s3 := HSS.out _ _ s2 b3
      have k3 := k2.trans (b3.mono k2.size)
      have q3 := Nat.le_trans q2 b3.size
      have row3 := own_belowE o8 b3
      rw [hqb]
      clear hqb
      generalize u2.alloc (.cells (DF.dec (tl c hc s.now x0 x1 x2 x3 x4)).toArray 42) = u3 at *
      refine ⟨s3, ?_⟩
      simp only [List.getElem_toArray, List.getElem_cons_succ, List.getElem_cons_zero, Act.put, List.setIfInBounds_toArray, List.set_cons_succ, List.set_cons_zero]
      refine wpAnyH_all (rs := [27]) (by kernel_rfl) (by simp) ?_
      intro k hk
      simp only [List.mem_cons, List.mem_nil_iff, or_false] at hk
      subst hk
      refine wpOp_run rfl rfl (wp_appW DF _ _ 31 42 _ 8 Try.underlying31 info8F rfl rfl qa _ ([] ++ s.waits) rfl row3 _ [(tl c hc s.now x0 x1 x2 x3 x4)] rfl W3 (by unfold maxLen; simp; omega) (by simp; omega) q3 ?_)
      intro a9 c9 y9 o9 g9
      have b9 : Below w1.heap.size w1 y9 := k3.grown g9 k3.size (fun k e => Nat.le_trans hqa0 (own_lt row3 k e))
      have z9 := h0.newF (s.waits ++ [(tl c hc s.now x0 x1 x2 x3 x4)]) hqa0 b9 o9
      have h9 := h0.below b9
      have c9' := h9.cells.2.2.2.2.2.1
      have f9 := h9.cells.2.2.2.2.2.2 5
      have s9 := HSS.out _ _ S0 b9
      refine ⟨s9, ?_⟩
      simp only [List.getElem_toArray, List.getElem_cons_succ, List.getElem_cons_zero, Act.put, List.setIfInBounds_toArray, List.set_cons_succ, List.set_cons_zero]
      refine wpAnyH_take (i := 28) (v := (.pointer (some ⟨d, 0, none⟩))) rfl (by kernel_rfl) (by kernel_rfl) (by kernel_rfl) (fun _ _ _ h => h) (.inl ⟨rfl, fun _ hS => by simp [execOp, go_sem, Act.eval]⟩) s9 ?_
      simp only [List.getElem_toArray, List.getElem_cons_succ, List.getElem_cons_zero, Act.put, List.setIfInBounds_toArray, List.set_cons_succ, List.set_cons_zero]
      refine wpAnyH_take (i := 29) (v := (.pointer (some ⟨d, 5, none⟩))) rfl (by kernel_rfl) (by kernel_rfl) (by kernel_rfl) (fun _ _ _ h => h) (.inl ⟨rfl, fun _ hS => by simp [execOp, go_sem, Act.eval]⟩) s9 ?_
      simp only [List.getElem_toArray, List.getElem_cons_succ, List.getElem_cons_zero, Act.put, List.setIfInBounds_toArray, List.set_cons_succ, List.set_cons_zero]
      refine wpAnyH_all (rs := [30]) (by kernel_rfl) (by simp) ?_
      intro k hk
      simp only [List.mem_cons, List.mem_nil_iff, or_false] at hk
      subst hk
      refine wpOp_run rfl rfl (wp_store_run 31 _ _ rfl ⟨d, 5, none⟩ rfl _ rfl (store_fs c9' f9) ?_)
      have s10 := HSC.out _ (.slice a9 (([] ++ s.waits) ++ [(tl c hc s.now x0 x1 x2 x3 x4)]).length c9) s9
      refine ⟨s10, ?_⟩
      simp only [List.getElem_toArray, List.getElem_cons_succ, List.getElem_cons_zero, Act.put, List.setIfInBounds_toArray, List.set_cons_succ, List.set_cons_zero]
      refine wpAnyH_done (by kernel_rfl) ?_ _
      go_wp2
      go_end0
      exact ⟨rfl, _, z9.1.wide HDD.out, HKK.out _ z9.2⟩
  · have hpu : push s.waits (tl c hc s.now x0 x1 x2 x3 x4) = s.waits := by unfold push; rw [if_neg hlt16]
    rw [hpu]
    have hd : decide ((s.waits.length : Int) < 16) = false := by simp; omega
    have H := hidOf2 (And.intro (h0.wide (Q := fun k => D k ∨ w.heap.size ≤ k) (fun k hk => .inl hk)) (HKK.out w1 (Kq.refl _ _)))
    clear hpu h h0 S0 b0 hlt16
    generalize s.waits.length = n at *
    go_enter Try.func28, Try.ntmps28
    go_wp2
    go_end0
    exact ⟨rfl, _, H.out.1, H.out.2⟩
end
end Go.Proofs.Ytlkocebgkmdeoaa
