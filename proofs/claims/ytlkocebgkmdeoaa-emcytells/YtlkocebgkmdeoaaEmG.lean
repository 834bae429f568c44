/- slices.Insert at the front of a row of errors. -/
import Derived.Test.YtlkocebgkmdeoaaCeX
import Derived.Test.YtlkocebgkmdeoaaEmA
import Derived.Test.YtlkocebgkmdeoaaProg
import Derived.Laws.Externs
import Derived.WalkSmall
import Derived.Deep.QuietTactic
import Derived.OrdersHeld
import Derived.Deep.Upon
namespace Go.Proofs.Ytlkocebgkmdeoaa
open Go.RowKit
set_option linter.unusedVariables false
set_option maxRecDepth 1000000
set_option linter.unusedSimpArgs false
theorem run_copy_wide {P : Program} (w : World) (dT sT ty elem : TypeId) (c b o dLen dCap : Nat) (a : Addr) (sLen sCap n : Nat) (cs : List Value)
    (hu : P.underlying dT = some (.slice elem)) (hs : (P.info? elem).map (·.size) = some c) (hn : n = Nat.min sLen dLen) (hl : cs.length = n * c)
    (hsrc : ∀ j v, cs[j]? = some v → w.cell? (a.add j) = some v) (hc : w.there b o cs.length) (h1 : ∀ v ∈ cs, v.oneCell' = true) :
    (Builtin.copy_ #[dT, sT] ty #[.slice (some ⟨b, o, none⟩) dLen dCap, .slice (some a) sLen sCap]).run P w = .ok (goInt n) (w.setCells b o cs) := by
  have hl2 := run_loadCells_list (P := P) w a cs hsrc
  have hst := run_storeCells_cells (P := P) b o cs 0 w (by simpa using fun j hj => (hc j hj).1) (by simpa using fun j hj => (hc j hj).2) h1
  cases hq : P.info? elem with
  | none => simp [hq] at hs
  | some i =>
    have hi : i.size = c := by simpa [hq] using hs
    rw [hl] at hl2
    simp [Builtin.copy_, run_underlying hu, Builtin.lenOf, Builtin.firstCells, sizeOf, typeInfo, hq, hi, ← hn, hl2, hst]
/-- Two rows laid one behind the other. -/
theorem two_rows (A : Array Value) (xs ys : List Value) (h : xs.length + ys.length ≤ A.size) :
    (setMany (setMany A 0 xs) xs.length ys).toList.take (xs.length + ys.length) = xs ++ ys ∧ (setMany (setMany A xs.length ys) 0 xs).toList.take (xs.length + ys.length) = xs ++ ys := by
  constructor
  all_goals
    apply List.ext_getElem?
    intro k
    rw [List.getElem?_take]
    by_cases hk : k < xs.length + ys.length
    · rw [if_pos hk, Array.getElem?_toList, setMany_get, setMany_get, setMany_size, List.getElem?_append]
      by_cases hx : k < xs.length
      · simp [hx, show ¬ xs.length ≤ k by omega, show k < A.size by omega]
      · simp [hx, show xs.length ≤ k by omega, show k < A.size by omega, hk]
    · rw [if_neg hk, List.getElem?_eq_none (by simp; omega)]
theorem flatT_cons (x : Tr) (l : List Tr) : flatW DT (x :: l) = x.cs ++ flatW DT l := by simp [flatW, DT]
theorem flatT_len (l : List Tr) : (flatW DT l).length = l.length * 7 := flatW_len DT l
theorem shape_heap {w : World} {g : Nat} {A : Array Value} {T : TypeId} {fr : Nat × Nat} (h : w.heap[g]? = some (.cells A T fr)) : w.shape? g = some (T, A.size) := by
  simp [World.shape?, h]
theorem goInt_ok (n : Nat) : goInt n = .int .i64 n := rfl
def InsP (w : World) (B : Nat) (v : Value) (l : List Tr) (e : Ending) (w' : World) : Prop := ∃ v', e = .returned v' ∧ w'.ownsRow B 37 7 v' l.length (flatW DT l) ∧ w.grownBy w' v.ownBlock ∧ ∀ k, v'.ownBlock = some k → v.ownBlock = some k ∨ w.heap.size ≤ k
theorem ins_nil {w : World} {B vb : Nat} {v : Value} {x : Tr} (h : w.ownsRow B 37 7 v 0 (flatW DT [])) (hx : w.heap[vb]? = some (.cells x.arr 37 (0, 0))) (hB : B ≤ w.heap.size) :
    Calls Try.prog 25 #[v, .int .i64 0, .slice (some ⟨vb, 0, none⟩) 1 1] w (InsP w B v [x]) := by
  obtain ⟨i0, hi0, hz0, hz1, hz2⟩ := info_parts infoT
  have hx0 : ∀ (j : Nat) (u : Value), x.cs[j]? = some u → w.cell? ((⟨vb, 0, none⟩ : Addr).add j) = some u := fun j u hj => by
    rw [add_off, Lib.cell_of_heap hx, Nat.zero_add, ← hj]
    show x.cs.toArray[j]? = _
    simp
  have hap : ∃ v' w', (∀ ty, (Builtin.append_ #[30, 30] ty #[v, .slice (some ⟨vb, 0, none⟩) 1 1]).run Try.prog w = .ok v' w') ∧ InsP w B v [x] (.returned v') w' := by
    have H := fun ty => run_append_own2 (P := Try.prog) w B 30 ty 37 i0 _ 7 8 Try.underlying30 hi0 hz0 hz1 hz2 rfl (by decide) v 0 [] h ⟨vb, 0, none⟩ 1 1 x.cs rfl hx0 (DT.one x) (by decide) (by decide) hB
    obtain ⟨v', w', h1, h2, h3, _, h5⟩ := H 0
    refine ⟨v', w', fun ty => ?_, v', rfl, ?_, h3, fun k hk => ?_⟩
    · have : (Builtin.append_ #[30, 30] ty #[v, .slice (some ⟨vb, 0, none⟩) 1 1]) = (Builtin.append_ #[30, 30] 0 #[v, .slice (some ⟨vb, 0, none⟩) 1 1]) := rfl
      rw [this]; exact h1
    · simpa [flatW, DT] using h2
    · rcases Nat.lt_or_ge k w.heap.size with hlt | hge
      · exact .inl (h5 k hlt hk)
      · exact .inr hge
  obtain ⟨v', w', hr, hI⟩ := hap
  obtain ⟨ao, cap, rfl⟩ := own_shape5 h
  have HI := hidOf2 hI
  clear hI h hx hx0
  cases ao with
  | none =>
    go_enter Try.func25, Try.ntmps25
    go_wp2_with (at_builtin; refine wpList_app_run _ rfl _ _ 30 30 rfl _ _ rfl rfl (hr _) ?_)
    go_ret
    exact HI.out
  | some ad =>
    obtain ⟨b, o, sp⟩ := ad
    go_enter Try.func25, Try.ntmps25
    go_wp2_with (at_builtin; refine wpList_app_run _ rfl _ _ 30 30 rfl _ _ rfl rfl (hr _) ?_)
    go_ret
    exact HI.out
theorem there_setCells {W : World} {g o n : Nat} {A : Array Value} {T : TypeId} (h : W.heap[g]? = some (.cells A T (0, 0))) (p : Nat) (vs : List Value) (hn : o + n ≤ A.size) : (W.setCells g p vs).there g o n :=
  there_of_heap (heap_setCells g T _ vs p A W h) (by rw [setMany_size]; exact hn)
theorem exec_add01 {a : Act} {o : Oper} {x y : Operand} (ho : o.op = .binOp .add 3 x y 3) (hx : a.eval x = .int .i64 0) (hy : a.eval y = .int .i64 1) (w : World) : (execOp a.eval o).run Try.prog w = .ok (.value (.int .i64 1)) w := by
  have : IntKind.i64.wrap 1 = 1 := by rw [IntKind.wrap_i64]; omega
  unfold execOp
  simp only [ho, hx, hy]
  simp [go_sem, this]
/-- There is room. -/
theorem ins_room {w : World} {B vb g n cap : Nat} {x : Tr} {l : List Tr} {cur : Array Value} (hn : l.length = n) (h0 : 0 < n) (hroom : n + 1 ≤ cap) (hm : cap ≤ maxLen) (hB : B ≤ g) (hg : w.heap[g]? = some (.cells cur 37 (0, 0))) (hs : cur.size = cap * 7) (ht : cur.toList.take (n * 7) = flatW DT l) (hx : w.heap[vb]? = some (.cells x.arr 37 (0, 0))) (hne : vb ≠ g) (hl : n ≤ 1000) :
    Calls Try.prog 25 #[.slice (some ⟨g, 0, none⟩) n cap, .int .i64 0, .slice (some ⟨vb, 0, none⟩) 1 1] w (InsP w B (.slice (some ⟨g, 0, none⟩) n cap) (x :: l)) := by
  have hfl : (flatW DT l).length = n * 7 := by rw [flatT_len, hn]
  have hov : ∀ la lb cb, (callFunc 36 #[.slice (some ⟨vb, 0, none⟩) 1 1, .slice (some ⟨g, la, none⟩) lb cb]).run Try.prog w = .ok (.value (.bool false)) w := fun la lb cb => by
    rw [run_callFunc_extern Try.func36 (by kernel_rfl) (by kernel_rfl) (by kernel_rfl) (e := Extern.SlicesOverlaps.overlaps #[30, 30] #[4]) (by kernel_rfl),
      Lib.run_overlaps_apart w 30 4 37 Try.underlying30 7 Try.sizeOf37 ⟨vb, 0, none⟩ ⟨g, la, none⟩ 1 1 lb cb hne 37 37 7 (cap * 7) (shape_heap hx) (by rw [← hs]; exact shape_heap hg) (by omega) (Lib.frozen_of_heap hx 0) (Lib.frozen_of_heap hx 7)]
    rfl
  have hsz : n * 7 + 7 ≤ cur.size := by rw [hs]; omega
  have hcp1 : ∀ (W : World), W.heap[g]? = some (.cells cur 37 (0, 0)) → ∀ ty dc sc, (Builtin.copy_ #[30, 30] ty #[.slice (some ⟨g, 7, none⟩) n dc, .slice (some ⟨g, 0, none⟩) (n + 1) sc]).run Try.prog W = .ok (.int .i64 n) (W.setCells g 7 (flatW DT l)) := fun W hW ty dc sc =>
    run_copy_wide W _ _ ty 37 7 g 7 n dc ⟨g, 0, none⟩ (n + 1) sc n (flatW DT l) Try.underlying30 sizeT (by simp [Nat.min_def]) hfl (fun j u hj => by
      have hj2 : j < n * 7 := by rw [← hfl]; exact (List.getElem?_eq_some_iff.1 hj).1
      rw [add_off, Lib.cell_of_heap hW, Nat.zero_add, ← hj, ← ht, List.getElem?_take, if_pos hj2]
      simp) (there_of_heap hW (by rw [hfl]; omega)) (flatW_one DT l)
  have hcp2 : ∀ (W : World), W.heap[g]? = some (.cells cur 37 (0, 0)) → W.heap[vb]? = some (.cells x.arr 37 (0, 0)) → ∀ ty dc, (Builtin.copy_ #[30, 30] ty #[.slice (some ⟨g, 0, none⟩) (n + 1) dc, .slice (some ⟨vb, 0, none⟩) 1 1]).run Try.prog (W.setCells g 7 (flatW DT l)) = .ok (.int .i64 1) ((W.setCells g 7 (flatW DT l)).setCells g 0 x.cs) := fun W hW hv ty dc =>
    run_copy_wide (W.setCells g 7 (flatW DT l)) _ _ ty 37 7 g 0 (n + 1) dc ⟨vb, 0, none⟩ 1 1 1 x.cs Try.underlying30 sizeT (by simp [Nat.min_def]) rfl (fun j u hj => by
      rw [add_off, Lib.cell_of_heap ((heap_cells_other hne _ _ _).trans hv), Nat.zero_add, ← hj]
      show x.cs.toArray[j]? = _
      simp) (there_setCells hW _ _ (by show 0 + 7 ≤ _; omega)) (DT.one x)
  have HX : Hid (∀ W : World, W.heap[g]? = some (.cells cur 37 (0, 0)) → w.grownBy W (some g) → InsP w B (.slice (some ⟨g, 0, none⟩) n cap) (x :: l) (.returned (.slice (some ⟨g, 0, none⟩) (n + 1) cap)) ((W.setCells g 7 (flatW DT l)).setCells g 0 x.cs)) := fun W hW hgr => by
    refine ⟨_, rfl, ?_, grown_setCells (grown_setCells hgr _ _) _ _, fun k hk => .inl hk⟩
    refine ⟨by rw [flatT_len], .inr ⟨g, cap, _, by rw [List.length_cons, hn], hB, heap_setCells g _ _ _ _ _ _ (heap_setCells g _ _ _ _ _ _ hW), by rw [List.length_cons, hn]; exact hroom, hm, by rw [setMany_size, setMany_size]; exact hs, ?_⟩⟩
    have := (two_rows cur x.cs (flatW DT l) (by rw [hfl]; show 7 + n * 7 ≤ _; omega)).2
    rw [flatT_cons, List.length_cons, hn, ← this, hfl]
    congr 1
    show (n + 1) * 7 = 7 + n * 7
    omega
  obtain ⟨w2, hw2⟩ : ∃ y : World, w.drewN 1 = y := ⟨_, rfl⟩
  have g2 : w2.heap[g]? = some (.cells cur 37 (0, 0)) := by rw [← hw2]; exact hg
  have v2 : w2.heap[vb]? = some (.cells x.arr 37 (0, 0)) := by rw [← hw2]; exact hx
  have HI := hidOf2 (HX.out w2 g2 (by rw [← hw2]; exact ⟨rfl, rfl, rfl, Nat.le_refl _, fun _ _ _ => rfl⟩))
  have c1 := hcp1 w2 g2
  have c2 := hcp2 w2 g2 v2
  have ct0 := cut_from Try.underlying30 infoT g n cap 0 (by omega) (by omega)
  have e0 : (if cap = 0 then 0 else 0 * 7) = 0 := by split <;> rfl
  rw [e0, Nat.sub_zero, Nat.sub_zero] at ct0
  have ct1 := cut_to Try.underlying30 infoT g n cap (n + 1) hroom
  have ct2 := cut_from Try.underlying30 infoT g (n + 1) cap 1 (by omega) hroom
  rw [if_neg (by omega), Nat.one_mul, Nat.add_sub_cancel] at ct2
  have ct3 := cut_from Try.underlying30 infoT g (n + 1) cap 0 (by omega) hroom
  rw [e0, Nat.sub_zero, Nat.sub_zero] at ct3
  replace ct0 : ∀ W : World, (Instr.sliceAt 30 (.slice (some ⟨g, 0, none⟩) n cap) (some (.int .i64 0)) none none).run Try.prog W = .ok (.slice (some ⟨g, 0, none⟩) n cap) W := ct0
  replace ct2 : ∀ W : World, (Instr.sliceAt 30 (.slice (some ⟨g, 0, none⟩) (n + 1) cap) (some (.int .i64 1)) none none).run Try.prog W = .ok (.slice (some ⟨g, 7, none⟩) n (cap - 1)) W := ct2
  replace ct3 : ∀ W : World, (Instr.sliceAt 30 (.slice (some ⟨g, 0, none⟩) (n + 1) cap) (some (.int .i64 0)) none none).run Try.prog W = .ok (.slice (some ⟨g, 0, none⟩) (n + 1) cap) W := ct3
  have hc1 : ¬ (cap = 1) := by omega
  have hc0 : ¬ (cap = 0) := by omega
  have hwr : IntKind.i64.wrap ((n : Int) + 1) = (n : Int) + 1 := by rw [IntKind.wrap_i64]; omega
  have hcc : ((n + 1 : Nat) : Int) = (n : Int) + 1 := by omega
  rw [hcc] at ct1
  have d1 : decide ((cap : Int) < (n : Int) + 1) = false := by simp; omega
  have d2 : decide ((0 : Int) = (n : Int)) = false := by simp; omega
  have d3 : ((0 : Int) == (n : Int)) = false := by rw [beq_eq_false_iff_ne]; omega
  clear hcp1 hcp2 hfl ht hs hsz HX e0 hB hm hroom h0 hn
  generalize flatW DT l = FL at *
  generalize x.cs = XC at *
  generalize x.arr = XA at *
  obtain ⟨w3, hw3⟩ : ∃ y : World, w2.setCells g 7 FL = y := ⟨_, rfl⟩
  rw [hw3] at c1 c2 HI
  generalize hw4 : w3.setCells g 0 XC = w4 at *
  clear hw3 hg hx g2 v2 hcc
  go_enter Try.func25, Try.ntmps25
  go_wp2_with (simp only [hov])
  refine wp_region_any (by kernel_rfl) ?_
  change wpAny Try.prog _ _ _ _ _ _ (w.drewN 1)
  rw [hw2]
  refine wpAny_take (i := 0) (v := (.slice (some ⟨g, 0, none⟩) (n + 1) cap)) rfl (by kernel_rfl) (by kernel_rfl) (by kernel_rfl) (fun _ _ _ h => h) (.inl ⟨rfl, fun _ => rfl⟩) ?_
  simp only [List.getElem_toArray, List.getElem_cons_succ, List.getElem_cons_zero, Act.put, List.setIfInBounds_toArray, List.set_cons_succ, List.set_cons_zero]
  refine wpAny_take (i := 1) (v := (.int .i64 0)) rfl (by kernel_rfl) (by kernel_rfl) (by kernel_rfl) (fun _ _ _ h => h) (.inl ⟨rfl, fun _ => rfl⟩) ?_
  simp only [List.getElem_toArray, List.getElem_cons_succ, List.getElem_cons_zero, Act.put, List.setIfInBounds_toArray, List.set_cons_succ, List.set_cons_zero]
  refine wpAny_take (i := 2) (v := (.int .i64 1)) rfl (by kernel_rfl) (by kernel_rfl) (by kernel_rfl) (fun _ _ _ h => h) (.inl ⟨rfl, fun _ => rfl⟩) ?_
  simp only [List.getElem_toArray, List.getElem_cons_succ, List.getElem_cons_zero, Act.put, List.setIfInBounds_toArray, List.set_cons_succ, List.set_cons_zero]
  refine wpAny_take (i := 3) (v := (.int .i64 1)) rfl (by kernel_rfl) (by kernel_rfl) (by kernel_rfl) (fun _ _ _ h => h) (.inl ⟨rfl, fun _ => exec_add01 rfl rfl rfl _⟩) ?_
  simp only [List.getElem_toArray, List.getElem_cons_succ, List.getElem_cons_zero, Act.put, List.setIfInBounds_toArray, List.set_cons_succ, List.set_cons_zero]
  refine wpAny_take (i := 4) (v := (.slice (some ⟨g, 7, none⟩) n (cap - 1))) rfl (by kernel_rfl) (by kernel_rfl) (by kernel_rfl) (fun _ _ _ h => h) (.inl ⟨rfl, fun _ => by simp [execOp, go_sem, Act.eval, ct2]⟩) ?_
  simp only [List.getElem_toArray, List.getElem_cons_succ, List.getElem_cons_zero, Act.put, List.setIfInBounds_toArray, List.set_cons_succ, List.set_cons_zero]
  refine wpAny_take (i := 5) (v := (.slice (some ⟨g, 0, none⟩) (n + 1) cap)) rfl (by kernel_rfl) (by kernel_rfl) (by kernel_rfl) (fun _ _ _ h => h) (.inl ⟨rfl, fun _ => rfl⟩) ?_
  simp only [List.getElem_toArray, List.getElem_cons_succ, List.getElem_cons_zero, Act.put, List.setIfInBounds_toArray, List.set_cons_succ, List.set_cons_zero]
  refine wpAny_take (i := 6) (v := (.int .i64 0)) rfl (by kernel_rfl) (by kernel_rfl) (by kernel_rfl) (fun _ _ _ h => h) (.inl ⟨rfl, fun _ => rfl⟩) ?_
  simp only [List.getElem_toArray, List.getElem_cons_succ, List.getElem_cons_zero, Act.put, List.setIfInBounds_toArray, List.set_cons_succ, List.set_cons_zero]
  refine wpAny_take (i := 7) (v := (.slice (some ⟨g, 0, none⟩) (n + 1) cap)) rfl (by kernel_rfl) (by kernel_rfl) (by kernel_rfl) (fun _ _ _ h => h) (.inl ⟨rfl, fun _ => by simp [execOp, go_sem, Act.eval, ct3]⟩) ?_
  simp only [List.getElem_toArray, List.getElem_cons_succ, List.getElem_cons_zero, Act.put, List.setIfInBounds_toArray, List.set_cons_succ, List.set_cons_zero]
  refine wpAny_all (rs := [8]) (by kernel_rfl) (by simp) ?_
  intro k' hk
  simp only [List.mem_cons, List.mem_nil_iff, or_false] at hk
  subst hk
  refine wpOp_run rfl rfl (wp_cp_run _ _ 30 30 rfl _ _ rfl rfl (c1 _ _ _) ?_)
  simp only [List.getElem_toArray, List.getElem_cons_succ, List.getElem_cons_zero, Act.put, List.setIfInBounds_toArray, List.set_cons_succ, List.set_cons_zero]
  refine wpAny_done (by kernel_rfl) ?_ _
  go_wp2_with (at_builtin; refine wpList_cp_run _ rfl _ _ 30 30 rfl _ _ rfl rfl (c2 _ _) ?_)
  go_ret
  exact HI.out
theorem below_drawn0 (w : World) : Below w.heap.size w w.drew := ⟨rfl, rfl, rfl, Nat.le_refl _, fun _ _ => rfl⟩
theorem zc_size (n : Nat) : (Builtin.zeroCells (Value.agg #[.int .u16 0, .int .u8 0, .int .u8 0, .int .u8 0, .int .u8 0, .int .u8 0, .int .u8 0]).cells n).size = n * 7 := by simp [Builtin.zeroCells, Value.cells]
/-- There is none. -/
theorem ins_grow {w : World} {B vb g n : Nat} {x : Tr} {l : List Tr} {cur : Array Value} (hn : l.length = n) (h0 : 0 < n) (hB : B ≤ w.heap.size) (hg : w.heap[g]? = some (.cells cur 37 (0, 0))) (hs : cur.size = n * 7) (ht : cur.toList.take (n * 7) = flatW DT l) (hx : w.heap[vb]? = some (.cells x.arr 37 (0, 0))) (hl : n ≤ 1000) :
    Calls Try.prog 25 #[.slice (some ⟨g, 0, none⟩) n n, .int .i64 0, .slice (some ⟨vb, 0, none⟩) 1 1] w (InsP w B (.slice (some ⟨g, 0, none⟩) n n) (x :: l)) := by
  have hfl : (flatW DT l).length = n * 7 := by rw [flatT_len, hn]
  obtain ⟨i0, hi0, hz0, hz1, hz2⟩ := info_parts infoT
  obtain ⟨q, hq⟩ : ∃ q, w.heap.size = q := ⟨_, rfl⟩
  have hgq : g < q := by rw [← hq]; exact (Array.getElem?_eq_some_iff.1 hg).1
  have hvq : vb < q := by rw [← hq]; exact (Array.getElem?_eq_some_iff.1 hx).1
  have hge := grownCap_ge w (0 + (n + 1)) n 37
  have hgm := grownCap_le_maxLen w (0 + (n + 1)) n 37 (by unfold maxLen; omega)
  have hr := fun ty => Lib.run_append_grow_zeros (P := Try.prog) w 30 3 ty 37 i0 _ .i64 .i64 Try.underlying30 Try.underlying3 hi0 hz0 (some ⟨g, 0, none⟩) 0 n [] (run_firstCells_some (P := Try.prog) w.drew i0.size 0 ⟨g, 0, none⟩ 0 n [] (by simp) (fun j u hj => by simp at hj)) (n + 1) (by omega) (by rw [hz1]; decide) (by omega) (by omega) (by rw [hz2]; omega) (by rw [hz2]; exact growslice_fits (by omega) (by omega))
  generalize grownCap w (0 + (n + 1)) n 37 = gc at *
  obtain ⟨A, hA⟩ : ∃ A, (([] : List Value).toArray ++ Builtin.zeroCells (Value.agg #[.int .u16 0, .int .u8 0, .int .u8 0, .int .u8 0, .int .u8 0, .int .u8 0, .int .u8 0]).cells (n + 1) ++ Builtin.zeroCells (Value.agg #[.int .u16 0, .int .u8 0, .int .u8 0, .int .u8 0, .int .u8 0, .int .u8 0, .int .u8 0]).cells (gc - (0 + (n + 1)))) = A := ⟨_, rfl⟩
  have hAs : A.size = gc * 7 := by
    rw [← hA, Array.size_append, Array.size_append, zc_size, zc_size]
    simp
    omega
  rw [hA] at hr
  clear hA
  obtain ⟨W1, hW1⟩ : ∃ y, w.drew.alloc (.cells A 37) = y := ⟨_, rfl⟩
  have hcc : ((n + 1 : Nat) : Int) = (n : Int) + 1 := by omega
  rw [hW1, hq, Nat.zero_add, hcc] at hr
  rw [Nat.zero_add] at hge
  have b1 : Below w.heap.size w W1 := by rw [← hW1]; exact (below_drawn0 w).alloc (Nat.le_refl _) _
  have q1 : W1.heap[q]? = some (.cells A 37 (0, 0)) := by rw [← hW1, ← hq]; exact heap_alloc_new w.drew _
  have g1 : W1.heap[g]? = some (.cells cur 37 (0, 0)) := (b1.block g (by omega)).trans hg
  have v1 : W1.heap[vb]? = some (.cells x.arr 37 (0, 0)) := (b1.block vb (by omega)).trans hx
  have hsz : 7 + n * 7 ≤ A.size := by rw [hAs]; omega
  have c1 : ∀ ty dc, (Builtin.copy_ #[30, 30] ty #[.slice (some ⟨q, 0, none⟩) (n + 1) dc, .slice (some ⟨vb, 0, none⟩) 1 1]).run Try.prog W1 = .ok (.int .i64 1) (W1.setCells q 0 x.cs) := fun ty dc =>
    run_copy_wide W1 _ _ ty 37 7 q 0 (n + 1) dc ⟨vb, 0, none⟩ 1 1 1 x.cs Try.underlying30 sizeT (by simp [Nat.min_def]) rfl (fun j u hj => by
      rw [add_off, Lib.cell_of_heap v1, Nat.zero_add, ← hj]
      show x.cs.toArray[j]? = _
      simp) (there_of_heap q1 (by show 0 + 7 ≤ _; omega)) (DT.one x)
  obtain ⟨W2, hW2⟩ : ∃ y, W1.setCells q 0 x.cs = y := ⟨_, rfl⟩
  have q2 : W2.heap[q]? = some (.cells (setMany A 0 x.cs) 37 (0, 0)) := by rw [← hW2]; exact heap_setCells q _ _ _ _ _ _ q1
  have g2 : W2.heap[g]? = some (.cells cur 37 (0, 0)) := by rw [← hW2]; exact (heap_cells_other (by omega) _ _ _).trans g1
  have w2g : w.grownBy W2 (some q) := by rw [← hW2]; exact grown_setCells (gb_any b1 _) _ _
  rw [hW2] at c1
  obtain ⟨W3, hW3⟩ : ∃ y : World, W2.drewN 1 = y := ⟨_, rfl⟩
  have q3 : W3.heap[q]? = some (.cells (setMany A 0 x.cs) 37 (0, 0)) := by rw [← hW3]; exact q2
  have g3 : W3.heap[g]? = some (.cells cur 37 (0, 0)) := by rw [← hW3]; exact g2
  have w3g : w.grownBy W3 (some q) := by rw [← hW3]; exact ⟨w2g.os, w2g.tape, w2g.output, w2g.size, w2g.block⟩
  have c2 : ∀ ty dc sc, (Builtin.copy_ #[30, 30] ty #[.slice (some ⟨q, 7, none⟩) n dc, .slice (some ⟨g, 0, none⟩) n sc]).run Try.prog W3 = .ok (.int .i64 n) (W3.setCells q 7 (flatW DT l)) := fun ty dc sc =>
    run_copy_wide W3 _ _ ty 37 7 q 7 n dc ⟨g, 0, none⟩ n sc n (flatW DT l) Try.underlying30 sizeT (by simp [Nat.min_def]) hfl (fun j u hj => by
      have hj2 : j < n * 7 := by rw [← hfl]; exact (List.getElem?_eq_some_iff.1 hj).1
      rw [add_off, Lib.cell_of_heap g3, Nat.zero_add, ← hj, ← ht, List.getElem?_take, if_pos hj2]
      simp) (there_of_heap q3 (by rw [setMany_size, hfl]; omega)) (flatW_one DT l)
  have HI : Hid (InsP w B (.slice (some ⟨g, 0, none⟩) n n) (x :: l) (.returned (.slice (some ⟨q, 0, none⟩) (n + 1) gc)) (W3.setCells q 7 (flatW DT l))) := by
    show InsP _ _ _ _ _ _
    have hgr : w.grownBy (W3.setCells q 7 (flatW DT l)) (some g) := by
      have := grown_setCells w3g 7 (flatW DT l)
      exact ⟨this.os, this.tape, this.output, this.size, fun k hk _ => this.block k hk (fun e => by injection e with e; omega)⟩
    refine ⟨_, rfl, ?_, hgr, fun k hk => .inr ?_⟩
    · refine ⟨by rw [flatT_len], .inr ⟨q, gc, _, by rw [List.length_cons, hn], by omega, heap_setCells q _ _ _ _ _ _ q3, by rw [List.length_cons, hn]; exact hge, hgm, by rw [setMany_size, setMany_size]; exact hAs, ?_⟩⟩
      have := (two_rows A x.cs (flatW DT l) (by rw [hfl]; exact hsz)).1
      rw [flatT_cons, List.length_cons, hn, ← this, hfl]
      congr 1
      show (n + 1) * 7 = 7 + n * 7
      omega
    · simp [Value.ownBlock] at hk
      omega
  obtain ⟨W4, hW4⟩ : ∃ y, W3.setCells q 7 (flatW DT l) = y := ⟨_, rfl⟩
  rw [hW4] at c2 HI
  have e0 : (if gc = 0 then 0 else 0 * 7) = 0 := by split <;> rfl
  have e1 : (if n = 0 then 0 else 0 * 7) = 0 := by split <;> rfl
  have ct1 := cut_from Try.underlying30 infoT q (n + 1) gc 0 (by omega) hge
  rw [e0, Nat.sub_zero, Nat.sub_zero] at ct1
  have ct2 := cut_from Try.underlying30 infoT q (n + 1) gc 1 (by omega) hge
  rw [if_neg (by omega), Nat.one_mul, Nat.add_sub_cancel] at ct2
  have ct3 := cut_from Try.underlying30 infoT g n n 0 (by omega) (by omega)
  rw [e1, Nat.sub_zero] at ct3
  replace ct1 : ∀ W : World, (Instr.sliceAt 30 (.slice (some ⟨q, 0, none⟩) (n + 1) gc) (some (.int .i64 0)) none none).run Try.prog W = .ok (.slice (some ⟨q, 0, none⟩) (n + 1) gc) W := ct1
  replace ct2 : ∀ W : World, (Instr.sliceAt 30 (.slice (some ⟨q, 0, none⟩) (n + 1) gc) (some (.int .i64 1)) none none).run Try.prog W = .ok (.slice (some ⟨q, 7, none⟩) n (gc - 1)) W := ct2
  replace ct3 : ∀ W : World, (Instr.sliceAt 30 (.slice (some ⟨g, 0, none⟩) n n) (some (.int .i64 0)) none none).run Try.prog W = .ok (.slice (some ⟨g, 0, none⟩) n n) W := ct3
  have d1 : decide ((n : Int) < (n : Int) + 1) = true := by simp; omega
  have d2 : decide ((0 : Int) = (n : Int)) = false := by simp; omega
  have d3 : ((0 : Int) == (n : Int)) = false := by rw [beq_eq_false_iff_ne]; omega
  have hwr : IntKind.i64.wrap ((n : Int) + 1) = (n : Int) + 1 := by rw [IntKind.wrap_i64]; omega
  have hc1 : ¬ (gc = 1) := by omega
  have hc0 : ¬ (gc = 0) := by omega
  have hn0 : ¬ (n = 0) := by omega
  clear hfl ht hs hsz e0 e1 hB h0 hn hgm hAs b1 q1 g1 v1 q2 g2 w2g q3 g3 w3g hcc hW4 hW2 hW1 hi0 hz0 hz1 hz2 hx hg hge hq hgq hvq
  generalize flatW DT l = FL at *
  generalize x.cs = XC at *
  generalize x.arr = XA at *
  go_enter Try.func25, Try.ntmps25
  go_wp2_with (first | (at_builtin; refine wpList_app_run _ rfl _ _ 30 3 rfl _ _ rfl rfl (hr _) ?_) | (at_builtin; refine wpList_cp_run _ rfl _ _ 30 30 rfl _ _ rfl rfl (c1 _ _) ?_))
  refine wp_region_any (by kernel_rfl) ?_
  change wpAny Try.prog _ _ _ _ _ _ (W2.drewN 1)
  rw [hW3]
  refine wpAny_take (i := 0) (v := (.slice (some ⟨q, 0, none⟩) (n + 1) gc)) rfl (by kernel_rfl) (by kernel_rfl) (by kernel_rfl) (fun _ _ _ h => h) (.inl ⟨rfl, fun _ => rfl⟩) ?_
  simp only [List.getElem_toArray, List.getElem_cons_succ, List.getElem_cons_zero, Act.put, List.setIfInBounds_toArray, List.set_cons_succ, List.set_cons_zero]
  refine wpAny_take (i := 1) (v := (.int .i64 0)) rfl (by kernel_rfl) (by kernel_rfl) (by kernel_rfl) (fun _ _ _ h => h) (.inl ⟨rfl, fun _ => rfl⟩) ?_
  simp only [List.getElem_toArray, List.getElem_cons_succ, List.getElem_cons_zero, Act.put, List.setIfInBounds_toArray, List.set_cons_succ, List.set_cons_zero]
  refine wpAny_take (i := 2) (v := (.int .i64 1)) rfl (by kernel_rfl) (by kernel_rfl) (by kernel_rfl) (fun _ _ _ h => h) (.inl ⟨rfl, fun _ => rfl⟩) ?_
  simp only [List.getElem_toArray, List.getElem_cons_succ, List.getElem_cons_zero, Act.put, List.setIfInBounds_toArray, List.set_cons_succ, List.set_cons_zero]
  refine wpAny_take (i := 3) (v := (.int .i64 1)) rfl (by kernel_rfl) (by kernel_rfl) (by kernel_rfl) (fun _ _ _ h => h) (.inl ⟨rfl, fun _ => exec_add01 rfl rfl rfl _⟩) ?_
  simp only [List.getElem_toArray, List.getElem_cons_succ, List.getElem_cons_zero, Act.put, List.setIfInBounds_toArray, List.set_cons_succ, List.set_cons_zero]
  refine wpAny_take (i := 4) (v := (.slice (some ⟨q, 7, none⟩) n (gc - 1))) rfl (by kernel_rfl) (by kernel_rfl) (by kernel_rfl) (fun _ _ _ h => h) (.inl ⟨rfl, fun _ => by simp [execOp, go_sem, Act.eval, ct2]⟩) ?_
  simp only [List.getElem_toArray, List.getElem_cons_succ, List.getElem_cons_zero, Act.put, List.setIfInBounds_toArray, List.set_cons_succ, List.set_cons_zero]
  refine wpAny_take (i := 5) (v := (.slice (some ⟨g, 0, none⟩) n n)) rfl (by kernel_rfl) (by kernel_rfl) (by kernel_rfl) (fun _ _ _ h => h) (.inl ⟨rfl, fun _ => rfl⟩) ?_
  simp only [List.getElem_toArray, List.getElem_cons_succ, List.getElem_cons_zero, Act.put, List.setIfInBounds_toArray, List.set_cons_succ, List.set_cons_zero]
  refine wpAny_take (i := 6) (v := (.int .i64 0)) rfl (by kernel_rfl) (by kernel_rfl) (by kernel_rfl) (fun _ _ _ h => h) (.inl ⟨rfl, fun _ => rfl⟩) ?_
  simp only [List.getElem_toArray, List.getElem_cons_succ, List.getElem_cons_zero, Act.put, List.setIfInBounds_toArray, List.set_cons_succ, List.set_cons_zero]
  refine wpAny_take (i := 7) (v := (.slice (some ⟨g, 0, none⟩) n n)) rfl (by kernel_rfl) (by kernel_rfl) (by kernel_rfl) (fun _ _ _ h => h) (.inl ⟨rfl, fun _ => by simp [execOp, go_sem, Act.eval, ct3]⟩) ?_
  simp only [List.getElem_toArray, List.getElem_cons_succ, List.getElem_cons_zero, Act.put, List.setIfInBounds_toArray, List.set_cons_succ, List.set_cons_zero]
  refine wpAny_all (rs := [8]) (by kernel_rfl) (by simp) ?_
  intro k' hk
  simp only [List.mem_cons, List.mem_nil_iff, or_false] at hk
  subst hk
  refine wpOp_run rfl rfl (wp_cp_run _ _ 30 30 rfl _ _ rfl rfl (c2 _ _ _) ?_)
  simp only [List.getElem_toArray, List.getElem_cons_succ, List.getElem_cons_zero, Act.put, List.setIfInBounds_toArray, List.set_cons_succ, List.set_cons_zero]
  refine wpAny_done (by kernel_rfl) ?_ _
  go_wp2
  go_ret
  exact HI.out
/-- Whatever room there is. -/
theorem ins_any {w : World} {B vb : Nat} {v : Value} {x : Tr} {l : List Tr} (h : w.ownsRow B 37 7 v l.length (flatW DT l)) (hB : B ≤ w.heap.size) (hx : w.heap[vb]? = some (.cells x.arr 37 (0, 0))) (hne : v.ownBlock ≠ some vb) (hl : l.length ≤ 1000) :
    Calls Try.prog 25 #[v, .int .i64 0, .slice (some ⟨vb, 0, none⟩) 1 1] w (InsP w B v (x :: l)) := by
  cases l with
  | nil => exact ins_nil h hx hB
  | cons y r =>
    obtain ⟨g, cap, cur, rfl, hBg, hg, h1, h2, h3, h4⟩ := own_row h (by simp)
    by_cases hc : (y :: r).length + 1 ≤ cap
    · exact ins_room rfl (by simp) hc h2 hBg hg h3 h4 hx (fun e => hne (by rw [e]; rfl)) hl
    · have e : cap = (y :: r).length := by omega
      rw [e] at h3 ⊢
      exact ins_grow rfl (by simp) hB hg h3 h4 hx hl
end Go.Proofs.Ytlkocebgkmdeoaa
