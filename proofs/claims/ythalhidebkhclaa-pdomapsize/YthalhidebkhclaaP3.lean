/- Contracts: the document's Reset. -/
import Derived.Test.YthalhidebkhclaaP1
namespace Go.Proofs.Ythalhidebkhclaa
open Go.RowKit Go.Proofs.Ty Go.Sort Go.Lib
set_option linter.unusedVariables false
set_option maxRecDepth 1000000
set_option linter.unusedSimpArgs false
theorem rng_df8 {w : World} {b o : Nat} {e : En} (h : w.rangeAt b o (enC e)) : w.rangeAt b (o + 11) (vlC e.df) := by
  intro j u hj
  have : (enC e)[11 + j]? = some u := by
    match j, hj with
    | 0, hj => exact hj
    | 1, hj => exact hj
    | 2, hj => exact hj
    | j + 3, hj => simp [vlC] at hj
  have := h (11 + j) u this
  rw [← Nat.add_assoc] at this
  exact this
theorem wp_load_cell {o : Oper} {a : Act} {w : World} {K : Act → World → Prop} {Q : Exit → Act → World → Prop} (ty : TypeId) (x : Operand) (ho : o.op = .load ty x) (b k : Nat) (hx : a.eval x = .pointer (some ⟨b, k, none⟩)) (v : Value)
    (hr : (loadVar ty ⟨b, k, none⟩).run Try.prog w = .ok v w) (h : K (a.put o.dst v) w) : o.wp Try.prog a w K Q := by
  unfold Oper.wp execOp
  simp only [ho, hx, Instr.loadAt, Instr.sureAddr, Sem.run_bind, Sem.run_pure, Result.andThen_ok, hr]
  exact h
theorem own_set {w : World} {B : Nat} {e : TypeId} {c n : Nat} {v : Value} {xs : List Value} (h : w.ownsRow B e c v n xs) {E : Nat} (hE : v.ownBlock ≠ some E) (k : Nat) (u : Value) : (w.setCell ⟨E, k, none⟩ u).ownsRow B e c v n xs := by
  refine ⟨h.1, h.2.imp id ?_⟩
  rintro ⟨g, cap, cur, e1, e2, e3, e4⟩
  subst e1
  exact ⟨g, cap, cur, rfl, e2, (Below.heap_setCell w ⟨E, k, none⟩ u g (fun e => hE (by rw [← (show g = E from e)]; rfl))).trans e3, e4⟩
theorem own_ne {w : World} {B : Nat} {T c n : Nat} {v : Value} {xs : List Value} (h : w.ownsRow B T c v n xs) {E : Nat} {A : Array Value} {fr : Nat × Nat} (hE : w.heap[E]? = some (.cells A 70 fr)) (ht : T ≠ 70 := by decide) : v.ownBlock ≠ some E := fun e => by
  obtain ⟨_, cur, h1⟩ := own_of h e
  rw [hE] at h1
  simp at h1
  exact ht h1.2.1.symm
theorem Rd.put {E : Nat} {L : List En} {vL u0 : Value} {V' : List Vl} {u : Value} {w : World} (hh : w.heap[E]? = some (.cells #[vL, u0] 70 (0, 0))) (hL : RT 59 14 enC w vL L) (hr : RT 42 3 vlC w u V') : Rd E L vL V' u (w.setCell ⟨E, 1, none⟩ u) := by
  have hg := set_kept w E 1 u
  refine ⟨?_, hL.grown hg (hL.ne hh (by decide)), hr.grown hg (hr.ne hh (by decide))⟩
  simp only [World.setCell, Array.getElem?_modify, hh]
  simp
theorem rt_rng {E lb lo cL k : Nat} {L : List En} {w : World} (h : RT 59 14 enC w (.slice (some ⟨lb, lo, none⟩) L.length cL) L) (hk : k < L.length) : w.rangeAt lb (lo + k * 14) (enC L[k]) := by
  obtain ⟨b', o', c', hv', _, hR'⟩ := h.wide.at0 k hk
  injection hv' with e1 _ _
  injection e1 with e1
  injection e1 with e1 e2 _
  subst e1 e2
  exact hR'
theorem ownV_nil (w : World) (B : Nat) : w.ownsRow B 42 3 (.slice none 0 0) (([] : List Vl)).length (flatW DV []) := ⟨rfl, .inl ⟨rfl, rfl⟩⟩
set_option maxHeartbeats 8000000 in
theorem QReset_any {E : Nat} {L : List En} {vL : Value} {V : List Vl} {vV : Value} {w : World} (h : Rd E L vL V vV w) (hl : L.length ≤ 1024) :
    Calls Try.prog 32 #[.pointer (some ⟨E, 0, none⟩)] w fun e w' => e = .returned (.tuple #[]) ∧ ∃ vV', Rd E L vL (L.map En.df) vV' w' ∧ w'.ownsRow w.heap.size 42 3 vV' (L.map En.df).length (flatW DV (L.map En.df)) ∧ w.grownBy w' (some E) := by
  obtain ⟨aL, cL, rfl⟩ := h.rowL.wide.shape
  have c1 := h.c.2
  have f1 := h.frozen 1
  have h1 := h.setV (RT.nil 42 3 vlC w)
  have HR0 := hidOf2 h1
  have HP0 := hidOf2 (ownV_nil (w.setCell ⟨E, 1, none⟩ (.slice none 0 0)) w.heap.size)
  have HG0 := hidOf2 (set_kept w E 1 (.slice none 0 0))
  have hElt := h.lt
  have k0 := h1.c.1
  clear h h1
  go_enter Try.func32, Try.ntmps32
  go_wp2
  generalize w.setCell ⟨E, 1, none⟩ (.slice none 0 0) = w1 at *
  go_loopw [2] (fun i x => ∃ (k : Nat) (vV : Value), k ≤ L.length ∧ i = .int .i64 k ∧ Hid (Rd E L (.slice aL L.length cL) ((L.take k).map En.df) vV x) ∧ Hid (x.ownsRow w.heap.size 42 3 vV ((L.take k).map En.df).length (flatW DV ((L.take k).map En.df))) ∧ Hid (w.grownBy x (some E))) (fun i _ => L.length - (intOf i).toNat)
  case atStart => exact ⟨0, _, Nat.zero_le _, rfl, HR0, HP0, HG0⟩
  case round =>
    clear HR0 HP0 HG0 k0
    obtain ⟨k, vV, hk, rfl, HR, HP, HG⟩ := hrel
    have c0 := HR.out.c.1
    by_cases hkl : k < L.length
    · obtain ⟨lb, lo, lc, hv, hlb, hRj⟩ := HR.out.rowL.wide.at0 k hkl
      injection hv with hv1 _ hv3
      subst hv1
      subst hv3
      have HT := hidOf2 (show (L.take (k + 1)).map En.df = (L.take k).map En.df ++ [L[k].df] by rw [List.take_succ_eq_append_getElem hkl, List.map_append]; rfl)
      have hrX := rng_df8 hRj
      obtain ⟨X, hX⟩ : ∃ X, L[k].df = X := ⟨_, rfl⟩
      rw [hX] at hrX HT
      have hVL : ((L.take k).map En.df).length ≤ 1024 := by simp; omega
      obtain ⟨aV, cV, hvV⟩ := own_shape5 HP.out
      obtain ⟨nV, hnV⟩ : ∃ n, ((L.take k).map En.df).length = n := ⟨_, rfl⟩
      rw [hnV] at hvV
      subst hvV
      have b0 : Below wr.heap.size wr wr.drew := bdr (Below.refl _ _) 1
      have bA : Below wr.heap.size wr (wr.drew.alloc (.cells (vlC X).toArray 42)) := b0.alloc b0.size _
      have SS : Hid (∀ x, Below wr.heap.size wr x → x.cell? ⟨E, 0, none⟩ = some (.slice (some ⟨lb, lo, none⟩) L.length cL) ∧ x.rangeAt lb (lo + k * 14 + 11) (vlC X)) := fun x hb => ⟨(HR.out.below hb).c.1, rng_below hrX hb hlb⟩
      have SV : Hid (∀ x, Below wr.heap.size wr x → x.cell? ⟨E, 1, none⟩ = some (.slice aV nV cV)) := fun x hb => (HR.out.below hb).c.2
      have SSR : ∀ x, RT 59 14 enC x (.slice (some ⟨lb, lo, none⟩) L.length cL) L → x.rangeAt lb (lo + k * 14 + 11) (vlC X) := fun x hx => hX ▸ rng_df8 (rt_rng (E := E) hx hkl)
      have SSE : Hid (∀ (V' : List Vl) (u : Value) (x : World), Rd E L (.slice (some ⟨lb, lo, none⟩) L.length cL) V' u x → x.cell? ⟨E, 0, none⟩ = some (.slice (some ⟨lb, lo, none⟩) L.length cL) ∧ x.rangeAt lb (lo + k * 14 + 11) (vlC X)) := fun V' u x hx => ⟨hx.c.1, SSR x hx.rowL⟩
      have PA := ownsRow_alloc (own_drew HP.out) (.cells (vlC X).toArray 42)
      have RA := HR.out.below bA
      have SSV : Hid (∀ y, (wr.drew.alloc (.cells (vlC X).toArray 42)).grownBy y (Value.slice aV nV cV).ownBlock → y.heap[E]? = some (.cells #[.slice (some ⟨lb, lo, none⟩) L.length cL, .slice aV nV cV] 70 (0, 0)) ∧ RT 59 14 enC y (.slice (some ⟨lb, lo, none⟩) L.length cL) L ∧ y.cell? ⟨E, 0, none⟩ = some (.slice (some ⟨lb, lo, none⟩) L.length cL) ∧ y.rangeAt lb (lo + k * 14 + 11) (vlC X)) := fun y G => by
        have hd := (G.block E RA.lt (fun e => (own_ne PA RA.head (by decide)) e.symm)).trans RA.head
        have hr : RT 59 14 enC y (.slice (some ⟨lb, lo, none⟩) L.length cL) L := RA.rowL.same G.size (fun b A fr _ h1 => G.block b (Array.getElem?_eq_some_iff.1 h1).1 (fun e => by
          obtain ⟨_, cur, h2⟩ := own_of PA e.symm
          rw [h1] at h2
          simp at h2))
        exact ⟨hd, hr, by rw [Lib.cell_of_heap hd]; rfl, SSR y hr⟩
      have HGY : Hid (∀ y, (wr.drew.alloc (.cells (vlC X).toArray 42)).grownBy y (Value.slice aV nV cV).ownBlock → w.grownBy y (some E)) := fun y G =>
        ⟨G.os.trans (bA.os.trans HG.out.os), G.tape.trans (bA.tape.trans HG.out.tape), G.output.trans (bA.output.trans HG.out.output), Nat.le_trans HG.out.size (Nat.le_trans bA.size G.size), fun j hj hne =>
          (G.block j (Nat.lt_of_lt_of_le hj (Nat.le_trans HG.out.size bA.size)) (fun e => by have := own_lt HP.out j e.symm; omega)).trans ((bA.block j (Nat.lt_of_lt_of_le hj HG.out.size)).trans (HG.out.block j hj hne))⟩
      have S0 := SS.out _ b0
      clear PA RA SSR bA hrX hRj hX
      go_upto_region 4 with fail
      clear c0
      refine wp_region_held (S := fun x => x.cell? ⟨E, 0, none⟩ = some (.slice (some ⟨lb, lo, none⟩) L.length cL) ∧ x.rangeAt lb (lo + k * 14 + 11) (vlC X)) (by kernel_rfl) ?_
      change wpAnyH _ _ _ _ _ _ _ _ wr.drew
      refine wpAnyH_take (i := 0) (v := (.pointer (some ⟨E, 0, none⟩))) rfl (by kernel_rfl) (by kernel_rfl) (by kernel_rfl) (fun _ _ _ h => h) (.inl ⟨rfl, fun _ hS => rfl⟩) S0 ?_
      simp only [List.getElem_toArray, List.getElem_cons_succ, List.getElem_cons_zero, Act.put, List.setIfInBounds_toArray, List.set_cons_succ, List.set_cons_zero]
      refine wpAnyH_take (i := 1) (v := (.pointer (some ⟨E, 0, none⟩))) rfl (by kernel_rfl) (by kernel_rfl) (by kernel_rfl) (fun _ _ _ h => h) (.inl ⟨rfl, fun _ hS => rfl⟩) S0 ?_
      simp only [List.getElem_toArray, List.getElem_cons_succ, List.getElem_cons_zero, Act.put, List.setIfInBounds_toArray, List.set_cons_succ, List.set_cons_zero]
      refine wpAnyH_take (i := 2) (v := (.pointer (some ⟨E, 0, none⟩))) rfl (by kernel_rfl) (by kernel_rfl) (by kernel_rfl) (fun _ _ _ h => h) (.inl ⟨rfl, fun _ hS => by simp [execOp, go_sem, Act.eval]⟩) S0 ?_
      simp only [List.getElem_toArray, List.getElem_cons_succ, List.getElem_cons_zero, Act.put, List.setIfInBounds_toArray, List.set_cons_succ, List.set_cons_zero]
      refine wpAnyH_take (i := 3) (v := (.pointer (some ⟨E, 1, none⟩))) rfl (by kernel_rfl) (by kernel_rfl) (by kernel_rfl) (fun _ _ _ h => h) (.inl ⟨rfl, fun _ hS => by simp [execOp, go_sem, Act.eval]⟩) S0 ?_
      simp only [List.getElem_toArray, List.getElem_cons_succ, List.getElem_cons_zero, Act.put, List.setIfInBounds_toArray, List.set_cons_succ, List.set_cons_zero]
      refine wpAnyH_take (i := 5) (v := (.pointer (some ⟨E, 0, none⟩))) rfl (by kernel_rfl) (by kernel_rfl) (by kernel_rfl) (fun _ _ _ h => h) (.inl ⟨rfl, fun _ hS => rfl⟩) S0 ?_
      simp only [List.getElem_toArray, List.getElem_cons_succ, List.getElem_cons_zero, Act.put, List.setIfInBounds_toArray, List.set_cons_succ, List.set_cons_zero]
      refine wpAnyH_take (i := 6) (v := (.pointer (some ⟨E, 0, none⟩))) rfl (by kernel_rfl) (by kernel_rfl) (by kernel_rfl) (fun _ _ _ h => h) (.inl ⟨rfl, fun _ hS => by simp [execOp, go_sem, Act.eval]⟩) S0 ?_
      simp only [List.getElem_toArray, List.getElem_cons_succ, List.getElem_cons_zero, Act.put, List.setIfInBounds_toArray, List.set_cons_succ, List.set_cons_zero]
      refine wpAnyH_take (i := 7) (v := (.pointer (some ⟨E, 0, none⟩))) rfl (by kernel_rfl) (by kernel_rfl) (by kernel_rfl) (fun _ _ _ h => h) (.inl ⟨rfl, fun _ hS => by simp [execOp, go_sem, Act.eval]⟩) S0 ?_
      simp only [List.getElem_toArray, List.getElem_cons_succ, List.getElem_cons_zero, Act.put, List.setIfInBounds_toArray, List.set_cons_succ, List.set_cons_zero]
      refine wpAnyH_take (i := 8) (v := (.slice (some ⟨lb, lo, none⟩) L.length cL)) rfl (by kernel_rfl) (by kernel_rfl) (by kernel_rfl) (fun _ _ _ h => h) (.inl ⟨rfl, fun _ hS => exec_load rfl rfl (load_ents _ _ _ _ _ _ hS.1)⟩) S0 ?_
      simp only [List.getElem_toArray, List.getElem_cons_succ, List.getElem_cons_zero, Act.put, List.setIfInBounds_toArray, List.set_cons_succ, List.set_cons_zero]
      refine wpAnyH_take (i := 9) (v := (.int .i64 (k : Int))) rfl (by kernel_rfl) (by kernel_rfl) (by kernel_rfl) (fun _ _ _ h => h) (.inl ⟨rfl, fun _ hS => rfl⟩) S0 ?_
      simp only [List.getElem_toArray, List.getElem_cons_succ, List.getElem_cons_zero, Act.put, List.setIfInBounds_toArray, List.set_cons_succ, List.set_cons_zero]
      refine wpAnyH_take (i := 10) (v := (.pointer (some ⟨lb, lo + k * 14, none⟩))) rfl (by kernel_rfl) (by kernel_rfl) (by kernel_rfl) (fun _ _ _ h => h) (.inl ⟨rfl, fun _ hS => exec_idxE rfl rfl rfl hkl _⟩) S0 ?_
      simp only [List.getElem_toArray, List.getElem_cons_succ, List.getElem_cons_zero, Act.put, List.setIfInBounds_toArray, List.set_cons_succ, List.set_cons_zero]
      refine wpAnyH_take (i := 11) (v := (.pointer (some ⟨lb, lo + k * 14 + 11, none⟩))) rfl (by kernel_rfl) (by kernel_rfl) (by kernel_rfl) (fun _ _ _ h => h) (.inl ⟨rfl, fun _ hS => by simp [execOp, go_sem, Act.eval]⟩) S0 ?_
      simp only [List.getElem_toArray, List.getElem_cons_succ, List.getElem_cons_zero, Act.put, List.setIfInBounds_toArray, List.set_cons_succ, List.set_cons_zero]
      refine wpAnyH_take (i := 12) (v := (.agg X.arr)) rfl (by kernel_rfl) (by kernel_rfl) (by kernel_rfl) (fun _ _ _ h => h) (.inl ⟨rfl, fun _ hS => exec_load rfl rfl (run_ldV hS.2)⟩) S0 ?_
      simp only [List.getElem_toArray, List.getElem_cons_succ, List.getElem_cons_zero, Act.put, List.setIfInBounds_toArray, List.set_cons_succ, List.set_cons_zero]
      refine wpAnyH_all (rs := [4, 13]) (by kernel_rfl) (by simp) ?_
      intro k hk
      simp only [List.mem_cons, List.mem_nil_iff, or_false] at hk
      rcases hk with rfl | rfl
      · refine wpOp_run rfl rfl (wp_load_cell 68 _ rfl E 1 rfl (.slice aV nV cV) (load_vals _ E 1 _ _ _ (SV.out _ b0)) ?_)
        refine ⟨S0, ?_⟩
        simp only [List.getElem_toArray, List.getElem_cons_succ, List.getElem_cons_zero, Act.put, List.setIfInBounds_toArray, List.set_cons_succ, List.set_cons_zero]
        refine wpAnyH_all (rs := [13]) (by kernel_rfl) (by simp) ?_
        intro k hk
        simp only [List.mem_cons, List.mem_nil_iff, or_false] at hk
        subst hk
        refine wpOp_run rfl rfl (wp_bs1 DV X 68 42 _ 32 _ rfl rfl Try.underlying68 infoVz (by decide) ?_)
        have b1 := b0.alloc b0.size (.cells (vlC X).toArray 42)
        have Q1 := wide_new DV wr.drew X 42
        have P1 := ownsRow_alloc (own_drew HP.out) (.cells (vlC X).toArray 42)
        refine ⟨(SS.out _ b1), ?_⟩
        simp only [List.getElem_toArray, List.getElem_cons_succ, List.getElem_cons_zero, Act.put, List.setIfInBounds_toArray, List.set_cons_succ, List.set_cons_zero]
        refine wpAnyH_all (rs := [14]) (by kernel_rfl) (by simp) ?_
        intro k hk
        simp only [List.mem_cons, List.mem_nil_iff, or_false] at hk
        subst hk
        refine wpOp_run rfl rfl (wp_append_wide DV _ _ 68 42 _ 32 Try.underlying68 infoVz rfl rfl w.heap.size _ ((L.take k).map En.df) rfl P1 _ [X] rfl Q1 (by unfold maxLen; simp; omega) (by simp; omega) (Nat.le_trans HG.out.size b1.size) ?_)
        intro vY wY PY GY
        obtain ⟨hY, rY, eY⟩ := SSV.out wY GY
        obtain ⟨aY, cpY, hvY⟩ := own_shape5 PY
        obtain ⟨nY, hnY⟩ : ∃ n, ((L.take k).map En.df ++ [X]).length = n := ⟨_, rfl⟩
        rw [hnY] at hvY
        subst hvY
        refine ⟨eY, ?_⟩
        simp only [List.getElem_toArray, List.getElem_cons_succ, List.getElem_cons_zero, Act.put, List.setIfInBounds_toArray, List.set_cons_succ, List.set_cons_zero]
        refine wpAnyH_take (i := 15) (v := (.pointer (some ⟨E, 0, none⟩))) rfl (by kernel_rfl) (by kernel_rfl) (by kernel_rfl) (fun _ _ _ h => h) (.inl ⟨rfl, fun _ hS => by simp [execOp, go_sem, Act.eval]⟩) eY ?_
        simp only [List.getElem_toArray, List.getElem_cons_succ, List.getElem_cons_zero, Act.put, List.setIfInBounds_toArray, List.set_cons_succ, List.set_cons_zero]
        refine wpAnyH_take (i := 16) (v := (.pointer (some ⟨E, 1, none⟩))) rfl (by kernel_rfl) (by kernel_rfl) (by kernel_rfl) (fun _ _ _ h => h) (.inl ⟨rfl, fun _ hS => by simp [execOp, go_sem, Act.eval]⟩) eY ?_
        simp only [List.getElem_toArray, List.getElem_cons_succ, List.getElem_cons_zero, Act.put, List.setIfInBounds_toArray, List.set_cons_succ, List.set_cons_zero]
        refine wpAnyH_all (rs := [17]) (by kernel_rfl) (by simp) ?_
        intro k hk
        simp only [List.mem_cons, List.mem_nil_iff, or_false] at hk
        subst hk
        refine wpOp_run rfl rfl (wp_store_cell 68 _ _ rfl E 1 rfl _ rfl (store_vals wY E 1 (.slice aV nV cV) aY _ cpY (by rw [Lib.cell_of_heap hY]; rfl) (Lib.frozen_of_heap hY 1)) ?_)
        have RN := Rd.put hY rY (RT.own DV PY)
        have sN := (SSE.out _ _ _ RN)
        refine ⟨sN, ?_⟩
        simp only [List.getElem_toArray, List.getElem_cons_succ, List.getElem_cons_zero, Act.put, List.setIfInBounds_toArray, List.set_cons_succ, List.set_cons_zero]
        refine wpAnyH_done (by kernel_rfl) ?_ _
        have HRN := hidOf2 RN
        have HPN := hidOf2 (own_set PY (own_ne PY hY (by decide)) 1 (.slice aY nY cpY))
        have HGN := hidOf2 (grown_trans (HGY.out wY GY) (set_kept wY E 1 (.slice aY nY cpY)))
        clear RN sN hY rY eY PY GY P1 Q1 b1 SS SV SSV SSE S0 HGY HP HG HR
        generalize wY.setCell ⟨E, 1, none⟩ (.slice aY nY cpY) = wz at *
        go_wp2
        go_roundw
        case rel => exact ⟨k + 1, _, by omega, by go_num, by rw [HT.out]; exact HRN, by rw [HT.out]; exact HPN, HGN⟩
        case measure => simp [intOf]; omega
      · refine wpOp_run rfl rfl (wp_bs1 DV X 68 42 _ 32 _ rfl rfl Try.underlying68 infoVz (by decide) ?_)
        have b1 := b0.alloc b0.size (.cells (vlC X).toArray 42)
        have Q1 := wide_new DV wr.drew X 42
        have P1 := ownsRow_alloc (own_drew HP.out) (.cells (vlC X).toArray 42)
        refine ⟨(SS.out _ b1), ?_⟩
        simp only [List.getElem_toArray, List.getElem_cons_succ, List.getElem_cons_zero, Act.put, List.setIfInBounds_toArray, List.set_cons_succ, List.set_cons_zero]
        refine wpAnyH_all (rs := [4]) (by kernel_rfl) (by simp) ?_
        intro k hk
        simp only [List.mem_cons, List.mem_nil_iff, or_false] at hk
        subst hk
        refine wpOp_run rfl rfl (wp_load_cell 68 _ rfl E 1 rfl (.slice aV nV cV) (load_vals _ E 1 _ _ _ (SV.out _ b1)) ?_)
        refine ⟨(SS.out _ b1), ?_⟩
        simp only [List.getElem_toArray, List.getElem_cons_succ, List.getElem_cons_zero, Act.put, List.setIfInBounds_toArray, List.set_cons_succ, List.set_cons_zero]
        refine wpAnyH_all (rs := [14]) (by kernel_rfl) (by simp) ?_
        intro k hk
        simp only [List.mem_cons, List.mem_nil_iff, or_false] at hk
        subst hk
        refine wpOp_run rfl rfl (wp_append_wide DV _ _ 68 42 _ 32 Try.underlying68 infoVz rfl rfl w.heap.size _ ((L.take k).map En.df) rfl P1 _ [X] rfl Q1 (by unfold maxLen; simp; omega) (by simp; omega) (Nat.le_trans HG.out.size b1.size) ?_)
        intro vY wY PY GY
        obtain ⟨hY, rY, eY⟩ := SSV.out wY GY
        obtain ⟨aY, cpY, hvY⟩ := own_shape5 PY
        obtain ⟨nY, hnY⟩ : ∃ n, ((L.take k).map En.df ++ [X]).length = n := ⟨_, rfl⟩
        rw [hnY] at hvY
        subst hvY
        refine ⟨eY, ?_⟩
        simp only [List.getElem_toArray, List.getElem_cons_succ, List.getElem_cons_zero, Act.put, List.setIfInBounds_toArray, List.set_cons_succ, List.set_cons_zero]
        refine wpAnyH_take (i := 15) (v := (.pointer (some ⟨E, 0, none⟩))) rfl (by kernel_rfl) (by kernel_rfl) (by kernel_rfl) (fun _ _ _ h => h) (.inl ⟨rfl, fun _ hS => by simp [execOp, go_sem, Act.eval]⟩) eY ?_
        simp only [List.getElem_toArray, List.getElem_cons_succ, List.getElem_cons_zero, Act.put, List.setIfInBounds_toArray, List.set_cons_succ, List.set_cons_zero]
        refine wpAnyH_take (i := 16) (v := (.pointer (some ⟨E, 1, none⟩))) rfl (by kernel_rfl) (by kernel_rfl) (by kernel_rfl) (fun _ _ _ h => h) (.inl ⟨rfl, fun _ hS => by simp [execOp, go_sem, Act.eval]⟩) eY ?_
        simp only [List.getElem_toArray, List.getElem_cons_succ, List.getElem_cons_zero, Act.put, List.setIfInBounds_toArray, List.set_cons_succ, List.set_cons_zero]
        refine wpAnyH_all (rs := [17]) (by kernel_rfl) (by simp) ?_
        intro k hk
        simp only [List.mem_cons, List.mem_nil_iff, or_false] at hk
        subst hk
        refine wpOp_run rfl rfl (wp_store_cell 68 _ _ rfl E 1 rfl _ rfl (store_vals wY E 1 (.slice aV nV cV) aY _ cpY (by rw [Lib.cell_of_heap hY]; rfl) (Lib.frozen_of_heap hY 1)) ?_)
        have RN := Rd.put hY rY (RT.own DV PY)
        have sN := (SSE.out _ _ _ RN)
        refine ⟨sN, ?_⟩
        simp only [List.getElem_toArray, List.getElem_cons_succ, List.getElem_cons_zero, Act.put, List.setIfInBounds_toArray, List.set_cons_succ, List.set_cons_zero]
        refine wpAnyH_done (by kernel_rfl) ?_ _
        have HRN := hidOf2 RN
        have HPN := hidOf2 (own_set PY (own_ne PY hY (by decide)) 1 (.slice aY nY cpY))
        have HGN := hidOf2 (grown_trans (HGY.out wY GY) (set_kept wY E 1 (.slice aY nY cpY)))
        clear RN sN hY rY eY PY GY P1 Q1 b1 SS SV SSV SSE S0 HGY HP HG HR
        generalize wY.setCell ⟨E, 1, none⟩ (.slice aY nY cpY) = wz at *
        go_wp2
        go_roundw
        case rel => exact ⟨k + 1, _, by omega, by go_num, by rw [HT.out]; exact HRN, by rw [HT.out]; exact HPN, HGN⟩
        case measure => simp [intOf]; omega
    · have e1 : k = L.length := by omega
      subst e1
      rw [List.take_length] at HR HP
      have HR2 := hidOf2 HR.out
      have HP2 := hidOf2 HP.out
      clear HR HP
      go_wp2
      go_end0
      exact ⟨rfl, _, HR2.out, HP2.out, HG.out⟩
end Go.Proofs.Ythalhidebkhclaa
