/- Contracts: the next block. -/
import Derived.Test.YtebjofkblfmkmaaBkD
import Derived.Lib.MinMax
namespace Go.Proofs.Ytebjofkblfmkmaa
open Go.RowKit Go.Proofs.Ty Go.Proofs.Bits
set_option linter.unusedVariables false
set_option maxRecDepth 1000000
set_option linter.unusedSimpArgs false
theorem exec_minI {a : Act} {o : Oper} {x y : Operand} {m n : Int} (ho : o.op = .call { callee := .builtin .min, args := #[x, y], argTypes := #[3, 3] }) (hx : a.eval x = .int .i64 m) (hy : a.eval y = .int .i64 n) (w : World) : (execOp a.eval o).run Try.prog w = .ok (.value (.int .i64 (min m n))) w := by
  unfold execOp
  simp only [ho, resolve, invoke, builtin, Sem.run_bind, Sem.run_pure, Result.andThen_ok, List.map_toArray, List.map_cons, List.map_nil, hx, hy]
  by_cases h : n < m
  · have e : min m n = n := by omega
    rw [e]
    simp [Builtin.min_, Builtin.min2, go_sem, run_underlying Try.underlying3, h]
  · have e : min m n = m := by omega
    rw [e]
    simp [Builtin.min_, Builtin.min2, go_sem, run_underlying Try.underlying3, h]
theorem exec_subI {a : Act} {o : Oper} {x y : Operand} {m n k : Nat} (ho : o.op = .binOp .sub 3 x y 3) (hx : a.eval x = .int .i64 (m : Int)) (hy : a.eval y = .int .i64 (n : Int)) (h : m = n + k) (hm : m < 1000000) (w : World) : (execOp a.eval o).run Try.prog w = .ok (.value (.int .i64 (k : Int))) w := by
  unfold execOp
  simp only [ho, hx, hy]
  have e : IntKind.i64.wrap ((m : Int) - (n : Int)) = (k : Int) := by simp [IntKind.wrap, IntKind.bits, IntKind.signed]; omega
  simp [go_sem, run_underlying Try.underlying3, e]
theorem wp_store_cell {o : Oper} {a : Act} {w : World} {K : Act → World → Prop} {Q : Exit → Act → World → Prop} (ty : TypeId) (x y : Operand) (ho : o.op = .store ty x y) (b k : Nat) (hx : a.eval x = .pointer (some ⟨b, k, none⟩)) (v : Value) (hy : a.eval y = v)
    (hr : (storeVar ty ⟨b, k, none⟩ v).run Try.prog w = .ok () (w.setCell ⟨b, k, none⟩ v)) (h : K (a.put o.dst undef) (w.setCell ⟨b, k, none⟩ v)) : o.wp Try.prog a w K Q := by
  unfold Oper.wp execOp
  simp only [ho, hx, hy, Instr.storeAt, Instr.sureAddr, Sem.run_bind, Sem.run_pure, Result.andThen_ok, hr]
  exact h
theorem store_int (x : World) (D k : Nat) (u : Value) (z : Int) (hc : x.cell? ⟨D, k, none⟩ = some u) (hf : x.frozen? ⟨D, k, none⟩ = false) : (storeVar 3 ⟨D, k, none⟩ (.int .i64 z)).run Try.prog x = .ok () (x.setCell ⟨D, k, none⟩ (.int .i64 z)) := by
  simp [go_sem, run_underlying Try.underlying3, hc, hf]
theorem store_bytes (x : World) (D k : Nat) (u : Value) (ao : Option Addr) (l c : Nat) (hc : x.cell? ⟨D, k, none⟩ = some u) (hf : x.frozen? ⟨D, k, none⟩ = false) : (storeVar 22 ⟨D, k, none⟩ (.slice ao l c)).run Try.prog x = .ok () (x.setCell ⟨D, k, none⟩ (.slice ao l c)) := by
  simp [go_sem, run_underlying Try.underlying22, hc, hf]
theorem own_below8 {w w' : World} {B : Nat} {e : TypeId} {c n : Nat} {v : Value} {xs : List Value} (h : w.ownsRow B e c v n xs) (hb : Below w.heap.size w w') : w'.ownsRow B e c v n xs := by
  refine ⟨h.1, ?_⟩
  rcases h.2 with hn | ⟨g, cap, cur, hv, hB, hg, rest⟩
  · exact .inl hn
  · exact .inr ⟨g, cap, cur, hv, hB, (hb.block g (Array.getElem?_eq_some_iff.1 hg).1).trans hg, rest⟩
theorem enSegs : ∀ args x, (callFunc 39 args).run Try.prog x = .ok (.enter 39 args) x := fun _ _ => by rfl
theorem run_make8 (w : World) (m : Nat) (hm : m ≤ 127) : (Instr.makeSlice 23 (.int .i64 m) (.int .i64 m)).run Try.prog w = .ok (.slice (some ⟨w.heap.size, 0, none⟩) m m) (w.alloc (.cells (madeCells zA8 (m * 8)) 30)) := by
  obtain ⟨i0, hi0, hz0, hz1, hz2⟩ := info_parts info8
  have := run_make (P := Try.prog) w 23 30 i0 _ Try.underlying23 hi0 hz0 .i64 .i64 m m (by omega) (Int.le_refl _) (by rw [hz2]; omega) (by omega)
  rw [hz1, Int.toNat_natCast] at this
  rw [this]
  rfl
section
variable {S : Nat} {s t : Sn} {ao ap : Option Addr} {cp cq : Nat} {w x : World}
/-- The sender whose block has so many. -/
def Sn.sent (s : Sn) (m : Nat) : Sn := ⟨s.st, s.bs, s.cm, m, s.cd⟩
theorem Sd.sent (h : Sd S s ao cp w) (m : Nat) (hm : m ≤ 127) (hl : s.cm + m ≤ segs s.bs.length) : Sd S (s.sent m) ao cp (w.setCell ⟨S, 3, none⟩ (.int .i64 (m : Int))) :=
  h.set 3 _ (by simp [snA, Sn.sent]) rfl ⟨h.ok.st, h.ok.bs, h.ok.cm, hm, h.ok.cd⟩
set_option maxHeartbeats 8000000 in
theorem block_any (h : Sd S s ao cp w) (hc : s.cm < segs s.bs.length) (size : Nat) (h1 : 1 ≤ size) (h2 : size ≤ 127) : Calls Try.prog 27 #[.pointer (some ⟨S, 0, none⟩), .int .i64 (size : Int)] w fun e w' => ∃ v, e = .returned v ∧ Lf w.heap.size w' v (blkF s.bs s.cm size) ∧ Sd S (s.sent (min size (segs s.bs.length - s.cm))) ao cp w' ∧ Kp [S] w w' := by
  have hbs := h.ok.bs
  have hsl := segs_le s.bs.length
  obtain ⟨m, hm⟩ : ∃ m, min size (segs s.bs.length - s.cm) = m := ⟨_, rfl⟩
  have hm1 : 1 ≤ m := by omega
  have hm2 : m ≤ 127 := by omega
  have hm3 : s.cm + m ≤ segs s.bs.length := by omega
  have HBK : Hid (blkF s.bs s.cm size = fill s.bs s.cm m m) := by show _ = _; rw [fill_all, ← hm]; rfl
  obtain ⟨bk, hbk⟩ : ∃ b, blkF s.bs s.cm size = b := ⟨_, rfl⟩
  rw [hm, hbk]
  rw [hbk] at HBK
  have hSg : Calls Try.prog 39 #[.pointer (some ⟨S, 0, none⟩)] w.drew (fun e w' => e = .returned (.int .i64 ((segs s.bs.length : Nat) : Int)) ∧ w' = w.drew) := segments_any (h.drawn 1)
  have HSEG : Hid (∀ y k, Sd S (s.sent m) ao cp y → k < m → Calls Try.prog 42 #[.pointer (some ⟨S, 0, none⟩), .int .i64 (k : Int)] y fun e w' => e = .returned (.agg (segF s.bs s.cm k).arr) ∧ Below y.heap.size y w') := fun y k hy hk => segment_any (s := s.sent m) hy k (by show s.cm + k < segs s.bs.length; omega) (by omega)
  obtain ⟨d, hd0⟩ : ∃ d, segs s.bs.length - s.cm = d := ⟨_, rfl⟩
  have hGd : segs s.bs.length = s.cm + d := by omega
  have hG6 : segs s.bs.length < 1000000 := by omega
  have hmI : min (size : Int) (d : Int) = (m : Int) := by omega
  have S0 : (fun y : World => y.cell? ⟨S, 2, none⟩ = some (.int .i64 (s.cm : Int))) w.drew := (h.drawn 1).c2
  have HSD := hidOf2 (show Sd S (s.sent m) ao cp (w.drew.setCell ⟨S, 3, none⟩ (.int .i64 (m : Int))) from (h.drawn 1).sent m hm2 hm3)
  have HK0 := hidOf2 (Kp.cell1 w.drew S 3 (.int .i64 (m : Int)))
  have SX : (fun y : World => y.cell? ⟨S, 2, none⟩ = some (.int .i64 (s.cm : Int))) (w.drew.setCell ⟨S, 3, none⟩ (.int .i64 (m : Int))) := HSD.out.c2
  have hfz : w.drew.frozen? ⟨S, 3, none⟩ = false := (h.drawn 1).fr 3
  have hcc : w.drew.cell? ⟨S, 3, none⟩ = some (.int .i64 (s.sn : Int)) := (h.drawn 1).c3
  clear hbk hd0 hm
  go_enter Try.func27, Try.ntmps27
  go_upto_region 1 with fail
  refine wp_region_held (S := fun y : World => y.cell? ⟨S, 2, none⟩ = some (.int .i64 (s.cm : Int))) (by kernel_rfl) ?_
  change wpAnyH _ _ _ _ _ _ _ _ w.drew
  refine wpAnyH_take (i := 0) (v := (.pointer (some ⟨S, 0, none⟩))) rfl (by kernel_rfl) (by kernel_rfl) (by kernel_rfl) (fun _ _ _ h => h) (.inl ⟨rfl, fun _ hS => rfl⟩) S0 ?_
  simp only [List.getElem_toArray, List.getElem_cons_succ, List.getElem_cons_zero, Act.put, List.setIfInBounds_toArray, List.set_cons_succ, List.set_cons_zero]
  refine wpAnyH_take (i := 1) (v := (.int .i64 (size : Int))) rfl (by kernel_rfl) (by kernel_rfl) (by kernel_rfl) (fun _ _ _ h => h) (.inl ⟨rfl, fun _ hS => rfl⟩) S0 ?_
  simp only [List.getElem_toArray, List.getElem_cons_succ, List.getElem_cons_zero, Act.put, List.setIfInBounds_toArray, List.set_cons_succ, List.set_cons_zero]
  refine wpAnyH_take (i := 2) (v := (.pointer (some ⟨S, 0, none⟩))) rfl (by kernel_rfl) (by kernel_rfl) (by kernel_rfl) (fun _ _ _ h => h) (.inl ⟨rfl, fun _ hS => rfl⟩) S0 ?_
  simp only [List.getElem_toArray, List.getElem_cons_succ, List.getElem_cons_zero, Act.put, List.setIfInBounds_toArray, List.set_cons_succ, List.set_cons_zero]
  refine wpAnyH_take (i := 4) (v := (.pointer (some ⟨S, 0, none⟩))) rfl (by kernel_rfl) (by kernel_rfl) (by kernel_rfl) (fun _ _ _ h => h) (.inl ⟨rfl, fun _ hS => rfl⟩) S0 ?_
  simp only [List.getElem_toArray, List.getElem_cons_succ, List.getElem_cons_zero, Act.put, List.setIfInBounds_toArray, List.set_cons_succ, List.set_cons_zero]
  refine wpAnyH_take (i := 5) (v := (.pointer (some ⟨S, 0, none⟩))) rfl (by kernel_rfl) (by kernel_rfl) (by kernel_rfl) (fun _ _ _ h => h) (.inl ⟨rfl, fun _ hS => by simp [execOp, go_sem, Act.eval]⟩) S0 ?_
  simp only [List.getElem_toArray, List.getElem_cons_succ, List.getElem_cons_zero, Act.put, List.setIfInBounds_toArray, List.set_cons_succ, List.set_cons_zero]
  refine wpAnyH_take (i := 6) (v := (.pointer (some ⟨S, 2, none⟩))) rfl (by kernel_rfl) (by kernel_rfl) (by kernel_rfl) (fun _ _ _ h => h) (.inl ⟨rfl, fun _ hS => by simp [execOp, go_sem, Act.eval]⟩) S0 ?_
  simp only [List.getElem_toArray, List.getElem_cons_succ, List.getElem_cons_zero, Act.put, List.setIfInBounds_toArray, List.set_cons_succ, List.set_cons_zero]
  refine wpAnyH_take (i := 7) (v := (.int .i64 (s.cm : Int))) rfl (by kernel_rfl) (by kernel_rfl) (by kernel_rfl) (fun _ _ _ h => h) (.inl ⟨rfl, fun _ hS => exec_load rfl rfl (load_int _ _ _ _ hS)⟩) S0 ?_
  simp only [List.getElem_toArray, List.getElem_cons_succ, List.getElem_cons_zero, Act.put, List.setIfInBounds_toArray, List.set_cons_succ, List.set_cons_zero]
  refine wpAnyH_all (rs := [3]) (by kernel_rfl) (by simp) ?_
  intro k hk
  simp only [List.mem_cons, List.mem_nil_iff, or_false] at hk
  subst hk
  refine wpOp_run rfl rfl (wp_call_fn 39 #[.pointer (some ⟨S, 0, none⟩)] (by simp [execOp, go_sem, Act.eval, resolve, invoke, enSegs]) ?_)
  refine hSg.mono ?_
  rintro e u1 ⟨rfl, hu1⟩
  rw [hu1]
  clear hu1 u1
  refine ⟨S0, ?_⟩
  simp only [List.getElem_toArray, List.getElem_cons_succ, List.getElem_cons_zero, Act.put, List.setIfInBounds_toArray, List.set_cons_succ, List.set_cons_zero]
  refine wpAnyH_take (i := 8) (v := (.int .i64 (d : Int))) rfl (by kernel_rfl) (by kernel_rfl) (by kernel_rfl) (fun _ _ _ h => h) (.inl ⟨rfl, fun _ hS => exec_subI rfl rfl rfl hGd hG6 _⟩) S0 ?_
  simp only [List.getElem_toArray, List.getElem_cons_succ, List.getElem_cons_zero, Act.put, List.setIfInBounds_toArray, List.set_cons_succ, List.set_cons_zero]
  refine wpAnyH_take (i := 9) (v := (.int .i64 (m : Int))) rfl (by kernel_rfl) (by kernel_rfl) (by kernel_rfl) (fun _ _ _ h => h) (.inl ⟨rfl, fun _ hS => by rw [← hmI]; exact exec_minI rfl rfl rfl _⟩) S0 ?_
  simp only [List.getElem_toArray, List.getElem_cons_succ, List.getElem_cons_zero, Act.put, List.setIfInBounds_toArray, List.set_cons_succ, List.set_cons_zero]
  refine wpAnyH_take (i := 10) (v := (.pointer (some ⟨S, 0, none⟩))) rfl (by kernel_rfl) (by kernel_rfl) (by kernel_rfl) (fun _ _ _ h => h) (.inl ⟨rfl, fun _ hS => by simp [execOp, go_sem, Act.eval]⟩) S0 ?_
  simp only [List.getElem_toArray, List.getElem_cons_succ, List.getElem_cons_zero, Act.put, List.setIfInBounds_toArray, List.set_cons_succ, List.set_cons_zero]
  refine wpAnyH_take (i := 11) (v := (.pointer (some ⟨S, 3, none⟩))) rfl (by kernel_rfl) (by kernel_rfl) (by kernel_rfl) (fun _ _ _ h => h) (.inl ⟨rfl, fun _ hS => by simp [execOp, go_sem, Act.eval]⟩) S0 ?_
  simp only [List.getElem_toArray, List.getElem_cons_succ, List.getElem_cons_zero, Act.put, List.setIfInBounds_toArray, List.set_cons_succ, List.set_cons_zero]
  refine wpAnyH_all (rs := [12]) (by kernel_rfl) (by simp) ?_
  intro k hk
  simp only [List.mem_cons, List.mem_nil_iff, or_false] at hk
  subst hk
  refine wpOp_run rfl rfl (wp_store_cell 3 _ _ rfl S 3 rfl (.int .i64 (m : Int)) rfl (store_int _ S 3 _ _ hcc hfz) ?_)
  refine ⟨SX, ?_⟩
  simp only [List.getElem_toArray, List.getElem_cons_succ, List.getElem_cons_zero, Act.put, List.setIfInBounds_toArray, List.set_cons_succ, List.set_cons_zero]
  refine wpAnyH_done (by kernel_rfl) ?_ _
  generalize hX : w.drew.setCell ⟨S, 3, none⟩ (.int .i64 (m : Int)) = X at *
  have c3 : X.cell? ⟨S, 3, none⟩ = some (.int .i64 (m : Int)) := HSD.out.c3
  have hmk := run_make8 X m hm2
  have HOW := hidOf2 (made8 X m s.bs s.cm hm2)
  have bM : Below X.heap.size X (X.alloc (.cells (madeCells zA8 (m * 8)) 30)) := (Below.refl _ _).alloc (Nat.le_refl _) _
  have HBM := hidOf2 bM
  have HKX := hidOf2 ((show Kp [S] w w.drew from ⟨rfl, rfl, rfl, Nat.le_refl _, fun _ _ _ => rfl⟩).trans HK0.out)
  have HXS : Hid (w.heap.size = X.heap.size) := by show _ = _; rw [← hX]; simp only [World.setCell, Array.size_modify]; rfl
  obtain ⟨g, hg⟩ : ∃ g, X.heap.size = g := ⟨_, rfl⟩
  have HG := hidOf2 hg
  have HSG : Hid (∀ y, Below g X y → Sd S (s.sent m) ao cp y) := fun y hy => HSD.out.below (by rw [HG.out]; exact hy)
  rw [hg] at hmk HOW HBM
  generalize X.alloc (.cells (madeCells zA8 (m * 8)) 30) = Y at *
  clear hX S0 SX hSg hfz hcc bM HK0 HSD hGd hG6 hmI
  go_upto_region 4 with fail
  go_loopw [26] (fun i wr => ∃ k : Nat, k ≤ m ∧ i = .int .i64 k ∧ Hid (wr.ownsRow g 30 8 (.slice (some ⟨g, 0, none⟩) m m) (fill s.bs s.cm m k).length (flatW D8 (fill s.bs s.cm m k))) ∧ Hid (Below g X wr)) (fun i _ => m - (intOf i).toNat)
  case atStart => exact ⟨0, Nat.zero_le _, rfl, HOW, HBM⟩
  case round =>
    obtain ⟨k, hk, rfl, HO1, HB1⟩ := hrel
    by_cases hkm : k < m
    · have hsg := HSEG.out wr k (HSG.out wr HB1.out) hkm
      go_wp2_with fail
      refine hsg.mono ?_
      rintro e w2 ⟨rfl, b2⟩
      have ho2 := own_below8 HO1.out b2
      have ht : w2.there g (k * 8) (segF s.bs s.cm k).arr.size := own_there8 ho2 (k := k) (by rw [fill_len]; exact hkm)
      have ho3 := own_set8 ho2 (k := k) (by rw [fill_len]; exact hkm) (segF s.bs s.cm k)
      rw [fill_set _ _ _ _ hkm] at ho3
      have hB2 := HB1.out.trans (b2.mono (by have := HG.out; have := HB1.out.size; omega))
      have hB3 := ((Kp.cells w2 g (k * 8) (segF s.bs s.cm k).c).below hB2 (by have := HG.out; have := hB2.size; omega) (fun b hb => by simp at hb; omega))
      have hone := (segF s.bs s.cm k).one
      have HZ : Hid (∃ Z, Z = w2.setCells g (k * 8) (segF s.bs s.cm k).arr.toList ∧ Hid (Z.ownsRow g 30 8 (.slice (some ⟨g, 0, none⟩) m m) (fill s.bs s.cm m (k + 1)).length (flatW D8 (fill s.bs s.cm m (k + 1)))) ∧ Hid (Below g X Z)) := ⟨_, rfl, ho3, hB3⟩
      clear ho2 hB2 b2 hsg HO1 HB1 ho3 hB3
      generalize segF s.bs s.cm k = ff at *
      obtain ⟨Z, hZ, HO3, HB3⟩ := HZ.out
      go_wp2_with (first | (refine wpList_store_mid rfl 30 _ _ rfl g (k * 8) ff.arr rfl rfl ht (by rw [F8.size]; exact infoA8s) hone ?_; rw [← hZ]; clear hZ ht hone HZ))
      go_roundw
      case rel => exact ⟨k + 1, by omega, by go_num, HO3, HB3⟩
      case measure => simp [intOf]; omega
    · obtain rfl : k = m := by omega
      rw [← HBK.out] at HO1
      have HL : Hid (Lf w.heap.size wr (.slice (some ⟨g, 0, none⟩) k k) bk) := ⟨RT.own D8 HO1.out, fun b e => by have e2 : g = b := Option.some.inj e; have := HXS.out; have := HG.out; omega⟩
      have HF := hidOf2 (HSG.out wr HB1.out)
      have HK3 := hidOf2 (HKX.out.trans (Kp.of_below (by rw [HG.out]; exact HB1.out)))
      go_wp2
      go_ret
      exact ⟨.slice (some ⟨g, 0, none⟩) k k, rfl, HL.out, HF.out, HK3.out⟩
end
end Go.Proofs.Ytebjofkblfmkmaa
