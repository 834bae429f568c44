/- Contracts: Tells. -/
import Derived.Test.YtahfnknbmikmkaaGreatZs
import Derived.Test.YtahfnknbmikmkaaGreatKa18
namespace Go.Proofs.YtahfnknbmikmkaaGreat
open Go.RowKit Go.Proofs.Ty Go.Sort Go.Lib
set_option linter.unusedVariables false
set_option maxRecDepth 1000000
set_option linter.unusedSimpArgs false
def zE14 : Array Value := #[.int .u16 0, .int .u8 0, .int .i64 0, .bool false, .bool false, .int .i64 0, .int .u64 0, .string ⟨#[]⟩, .int .i64 0, .int .u64 0, .string ⟨#[]⟩, .int .i64 0, .int .u64 0, .string ⟨#[]⟩]
theorem wp_allocE {o : Oper} {a : Act} {w : World} {K : Act → World → Prop} {Q : Exit → Act → World → Prop} (ho : o.op = .alloc 93) (h : K (a.put o.dst (.pointer (some ⟨w.heap.size, 0, none⟩))) (w.alloc (.cells zE14 93))) : o.wp Tryz.prog a w K Q := by
  obtain ⟨i0, hi0, hz0⟩ : ∃ i0, Tryz.prog.info? 93 = some i0 ∧ i0.zero = some (.agg zE14) := by
    have : (Tryz.prog.info? 93).map (·.zero) = some (some (.agg zE14)) := by kernel_rfl
    cases hh : Tryz.prog.info? 93 with
    | none => rw [hh] at this; cases this
    | some i0 => rw [hh] at this; exact ⟨i0, rfl, by simpa using this⟩
  unfold Oper.wp execOp
  simp [ho, go_sem, Instr.alloc, zeroValue, typeInfo, hi0, hz0, Value.cells]
  exact h
/-- A piece of the code, cut off behind it. -/
theorem wp_cut {α : Type} {c : Code} {a : Act} {w : World} {Q' : Exit → Act → World → Prop} (I : α → World → Prop) (F : Act → α → Act) (h1 : c.wp Tryz.prog (fun e b y => e = .normal ∧ ∃ u, b = F a u ∧ I u y) a w) (h2 : ∀ u y, I u y → Q' .normal (F a u) y) : c.wp Tryz.prog Q' a w :=
  Code.wp_mono (fun e b y h => by obtain ⟨rfl, u, rfl, hI⟩ := h; exact h2 u y hI) h1
set_option maxHeartbeats 16000000 in
theorem Tells_any {w : World} {X D R E : Nat} {its : List Im} {x : World} (h : Sm w X D R E its its x) :
    Calls Tryz.prog 17 #[.pointer (some ⟨X, 0, none⟩)] x fun e x' => e = .returned (.bool true) ∧ Below x.heap.size x x' := by
  have hL := List_any h.dct
  obtain ⟨cX0, cX1⟩ := h.cX
  have HM := hidOf2 h
  have hlen := h.len
  clear h
  go_enter Tryz.func17, Tryz.ntmps17
  go_wp2_with fail
  refine hL.mono ?_
  rintro e w1 ⟨v3, rfl, W3, b1⟩
  have HM1 := hidOf2 (HM.out.next b1)
  have HBX := hidOf2 b1
  obtain ⟨ao3, cp3, hv3⟩ := W3.shape
  rw [List.length_map] at hv3
  subst hv3
  have HW3 := hidOf2 W3
  obtain ⟨vL, vV, hrd⟩ := HM1.out.rd
  obtain ⟨aL, cL, hvL⟩ := hrd.rowL.wide.shape
  rw [List.length_map] at hvL
  subst hvL
  have HSS : Hid (∀ y, Below w1.heap.size w1 y → y.cell? ⟨X, 0, none⟩ = some (.pointer (some ⟨D, 0, none⟩)) ∧ y.cell? ⟨X, 1, none⟩ = some (.pointer (some ⟨E, 0, none⟩)) ∧ y.cell? ⟨E, 0, none⟩ = some (.slice aL its.length cL)) := fun y hb => ⟨(HM1.out.next hb).cX.1, (HM1.out.next hb).cX.2, (hrd.below hb).c.1⟩
  have d0 : Below w1.heap.size w1 w1.drew := bdr (Below.refl _ _) 1
  have M0 := HM1.out.next d0
  have S0 := HSS.out _ d0
  clear hL HM b1 W3 cX0 cX1 hrd
  go_upto_region 2 with fail
  refine wp_cut (α := Value × Value) (fun u y => Below w1.heap.size w1 y) (fun a u => ((((((((((((((((((((((((((a.put (some 14) (.slice ao3 its.length cp3)).put (some 15) (.int .i64 (its.length : Int))).put (some 16) (.pointer (some ⟨X, 0, none⟩))).put (some 17) (.pointer (some ⟨X, 0, none⟩))).put (some 18) (.pointer (some ⟨X, 1, none⟩))).put (some 19) (.pointer (some ⟨E, 0, none⟩))).put (some 20) (.pointer (some ⟨E, 0, none⟩))).put (some 21) (.pointer (some ⟨E, 0, none⟩))).put (some 22) (.slice aL its.length cL)).put (some 23) (.int .i64 (its.length : Int))).put (some 24) (.bool false)).put (some 25) (.bool false)).put (some 26) (.pointer (some ⟨X, 0, none⟩))).put (some 27) (.pointer (some ⟨X, 0, none⟩))).put (some 28) (.pointer (some ⟨X, 0, none⟩))).put (some 29) (.pointer (some ⟨D, 0, none⟩))).put (some 30) (u.1)).put (some 31) (.string ⟨(sav its).toArray⟩)).put (some 32) (.pointer (some ⟨X, 0, none⟩))).put (some 33) (.pointer (some ⟨X, 0, none⟩))).put (some 34) (.pointer (some ⟨X, 1, none⟩))).put (some 35) (.pointer (some ⟨E, 0, none⟩))).put (some 36) (u.2)).put (some 37) (.string ⟨(sav its).toArray⟩)).put (some 38) (.bool false)).put (some 39) (.bool false))) ?_ ?_
  · refine wp_region_held (S := fun y => y.cell? ⟨X, 0, none⟩ = some (.pointer (some ⟨D, 0, none⟩)) ∧ y.cell? ⟨X, 1, none⟩ = some (.pointer (some ⟨E, 0, none⟩)) ∧ y.cell? ⟨E, 0, none⟩ = some (.slice aL its.length cL)) (by kernel_rfl) ?_
    change wpAnyH _ _ _ _ _ _ _ _ w1.drew
    refine tk 0 (.slice ao3 its.length cp3) rfl (by kernel_rfl) (fun _ _ _ h => nomatch h.1) rfl (fun _ hS => rfl) S0 ?_
    simp only [zzA, zzB, zzC, Act.put, zzD, zzE, zzF]
    refine tk 1 (.int .i64 (its.length : Int)) rfl (by kernel_rfl) (fun _ _ _ h => nomatch h.1) rfl (fun _ hS => by simp [execOp, go_sem, Act.eval, resolve, invoke]) S0 ?_
    simp only [zzA, zzB, zzC, Act.put, zzD, zzE, zzF]
    refine tk 2 (.pointer (some ⟨X, 0, none⟩)) rfl (by kernel_rfl) (fun _ _ _ h => nomatch h.1) rfl (fun _ hS => rfl) S0 ?_
    simp only [zzA, zzB, zzC, Act.put, zzD, zzE, zzF]
    refine tk 3 (.pointer (some ⟨X, 0, none⟩)) rfl (by kernel_rfl) (fun _ _ _ h => nomatch h.1) rfl (fun _ hS => by simp [execOp, go_sem, Act.eval]) S0 ?_
    simp only [zzA, zzB, zzC, Act.put, zzD, zzE, zzF]
    refine tk 4 (.pointer (some ⟨X, 1, none⟩)) rfl (by kernel_rfl) (fun _ _ _ h => nomatch h.1) rfl (fun _ hS => by simp [execOp, go_sem, Act.eval]) S0 ?_
    simp only [zzA, zzB, zzC, Act.put, zzD, zzE, zzF]
    refine tk 5 (.pointer (some ⟨E, 0, none⟩)) rfl (by kernel_rfl) (fun _ _ _ h => nomatch h.1) rfl (fun _ hS => exec_load rfl rfl (load_rd _ _ _ _ hS.2.1)) S0 ?_
    simp only [zzA, zzB, zzC, Act.put, zzD, zzE, zzF]
    refine tk 6 (.pointer (some ⟨E, 0, none⟩)) rfl (by kernel_rfl) (fun _ _ _ h => nomatch h.1) rfl (fun _ hS => by simp [execOp, go_sem, Act.eval]) S0 ?_
    simp only [zzA, zzB, zzC, Act.put, zzD, zzE, zzF]
    refine tk 7 (.pointer (some ⟨E, 0, none⟩)) rfl (by kernel_rfl) (fun _ _ _ h => nomatch h.1) rfl (fun _ hS => by simp [execOp, go_sem, Act.eval]) S0 ?_
    simp only [zzA, zzB, zzC, Act.put, zzD, zzE, zzF]
    refine tk 8 (.slice aL its.length cL) rfl (by kernel_rfl) (fun _ _ _ h => nomatch h.1) rfl (fun _ hS => exec_load rfl rfl (load_ents _ _ _ _ _ _ hS.2.2)) S0 ?_
    simp only [zzA, zzB, zzC, Act.put, zzD, zzE, zzF]
    refine tk 9 (.int .i64 (its.length : Int)) rfl (by kernel_rfl) (fun _ _ _ h => nomatch h.1) rfl (fun _ hS => by simp [execOp, go_sem, Act.eval, resolve, invoke]) S0 ?_
    simp only [zzA, zzB, zzC, Act.put, zzD, zzE, zzF]
    refine tk 10 (.bool false) rfl (by kernel_rfl) (fun _ _ _ h => nomatch h.1) rfl (fun _ hS => by simp [execOp, go_sem, Act.eval]) S0 ?_
    simp only [zzA, zzB, zzC, Act.put, zzD, zzE, zzF]
    refine tk 11 (.bool false) rfl (by kernel_rfl) (fun _ _ _ h => nomatch h.1) rfl (fun _ hS => rfl) S0 ?_
    simp only [zzA, zzB, zzC, Act.put, zzD, zzE, zzF]
    refine tk 12 (.pointer (some ⟨X, 0, none⟩)) rfl (by kernel_rfl) (fun _ _ _ h => nomatch h.1) rfl (fun _ hS => rfl) S0 ?_
    simp only [zzA, zzB, zzC, Act.put, zzD, zzE, zzF]
    refine tk 13 (.pointer (some ⟨X, 0, none⟩)) rfl (by kernel_rfl) (fun _ _ _ h => nomatch h.1) rfl (fun _ hS => by simp [execOp, go_sem, Act.eval]) S0 ?_
    simp only [zzA, zzB, zzC, Act.put, zzD, zzE, zzF]
    refine tk 14 (.pointer (some ⟨X, 0, none⟩)) rfl (by kernel_rfl) (fun _ _ _ h => nomatch h.1) rfl (fun _ hS => by simp [execOp, go_sem, Act.eval]) S0 ?_
    simp only [zzA, zzB, zzC, Act.put, zzD, zzE, zzF]
    refine tk 15 (.pointer (some ⟨D, 0, none⟩)) rfl (by kernel_rfl) (fun _ _ _ h => nomatch h.1) rfl (fun _ hS => exec_load rfl rfl (load_pd _ _ _ _ hS.1)) S0 ?_
    simp only [zzA, zzB, zzC, Act.put, zzD, zzE, zzF]
    refine tk 18 (.pointer (some ⟨X, 0, none⟩)) rfl (by kernel_rfl) (fun _ _ _ h => nomatch h.1) rfl (fun _ hS => rfl) S0 ?_
    simp only [zzA, zzB, zzC, Act.put, zzD, zzE, zzF]
    refine tk 19 (.pointer (some ⟨X, 0, none⟩)) rfl (by kernel_rfl) (fun _ _ _ h => nomatch h.1) rfl (fun _ hS => by simp [execOp, go_sem, Act.eval]) S0 ?_
    simp only [zzA, zzB, zzC, Act.put, zzD, zzE, zzF]
    refine tk 20 (.pointer (some ⟨X, 1, none⟩)) rfl (by kernel_rfl) (fun _ _ _ h => nomatch h.1) rfl (fun _ hS => by simp [execOp, go_sem, Act.eval]) S0 ?_
    simp only [zzA, zzB, zzC, Act.put, zzD, zzE, zzF]
    refine tk 21 (.pointer (some ⟨E, 0, none⟩)) rfl (by kernel_rfl) (fun _ _ _ h => nomatch h.1) rfl (fun _ hS => exec_load rfl rfl (load_rd _ _ _ _ hS.2.1)) S0 ?_
    simp only [zzA, zzB, zzC, Act.put, zzD, zzE, zzF]
    refine wpAnyH_all (rs := [16]) (by kernel_rfl) (by simp) ?_
    intro k hk
    simp only [List.mem_cons, List.mem_nil_iff, or_false] at hk
    subst hk
    refine wpOp_runw rfl rfl (wp_call_fn 25 #[.pointer (some ⟨D, 0, none⟩)] (by simp [execOp, go_sem, Act.eval, resolve, invoke, enterPV]) ?_)
    refine (Save_any M0.dct).mono ?_
    rintro e wA ⟨x1, rfl, P1, b1⟩
    have M1 := M0.next b1
    have hT1 := bytes_of_own P1
    have d1 := d0.trans (b1.mono d0.size)
    refine ⟨(HSS.out _ d1), ?_⟩
    simp only [zzA, zzB, zzC, Act.put, zzD, zzE, zzF]
    refine wpAnyH_all (rs := [17, 22]) (by kernel_rfl) (by simp) ?_
    intro k hk
    simp only [List.mem_cons, List.mem_nil_iff, or_false] at hk
    rcases hk with rfl | rfl
    · refine wpOp_runw rfl rfl (wp_conv _ rfl _ (.string ⟨(sav its).toArray⟩) rfl hT1.text ?_)
      refine ⟨(HSS.out _ d1), ?_⟩
      simp only [zzA, zzB, zzC, Act.put, zzD, zzE, zzF]
      refine wpAnyH_all (rs := [22]) (by kernel_rfl) (by simp) ?_
      intro k hk
      simp only [List.mem_cons, List.mem_nil_iff, or_false] at hk
      subst hk
      refine wpOp_runw rfl rfl (wp_call_fn 39 #[.pointer (some ⟨E, 0, none⟩)] (by simp [execOp, go_sem, Act.eval, resolve, invoke, enterQV]) ?_)
      obtain ⟨vL9, vV9, hrd9⟩ := M1.rd
      refine (QSave_any hrd9 M1.len).mono ?_
      rintro e wB ⟨x2, rfl, P2, b2⟩
      have hT2 := bytes_of_own P2
      have hT1b := hT1.below b2
      have d2 := d1.trans (b2.mono d1.size)
      refine ⟨(HSS.out _ d2), ?_⟩
      simp only [zzA, zzB, zzC, Act.put, zzD, zzE, zzF]
      refine wpAnyH_all (rs := [23]) (by kernel_rfl) (by simp) ?_
      intro k hk
      simp only [List.mem_cons, List.mem_nil_iff, or_false] at hk
      subst hk
      refine wpOp_runw rfl rfl (wp_conv _ rfl _ (.string ⟨(sav its).toArray⟩) rfl hT2.text ?_)
      refine ⟨(HSS.out _ d2), ?_⟩
      simp only [zzA, zzB, zzC, Act.put, zzD, zzE, zzF]
      refine wpAnyH_take (i := 24) (v := (.bool false)) rfl (by kernel_rfl) (by kernel_rfl) (by kernel_rfl) (fun _ _ _ h => nomatch h.1) (.inl ⟨rfl, fun _ hS => by simp [execOp, go_sem, Act.eval]⟩) (HSS.out _ d2) ?_
      simp only [zzA, zzB, zzC, Act.put, zzD, zzE, zzF]
      refine wpAnyH_take (i := 25) (v := (.bool false)) rfl (by kernel_rfl) (by kernel_rfl) (by kernel_rfl) (fun _ _ _ h => nomatch h.1) (.inl ⟨rfl, fun _ hS => by simp [execOp, go_sem, Act.eval]⟩) (HSS.out _ d2) ?_
      simp only [zzA, zzB, zzC, Act.put, zzD, zzE, zzF]
      refine wpAnyH_done (by kernel_rfl) ?_ _
      exact ⟨rfl, (x1, x2), rfl, d2⟩
    · refine wpOp_runw rfl rfl (wp_call_fn 39 #[.pointer (some ⟨E, 0, none⟩)] (by simp [execOp, go_sem, Act.eval, resolve, invoke, enterQV]) ?_)
      obtain ⟨vL9, vV9, hrd9⟩ := M1.rd
      refine (QSave_any hrd9 M1.len).mono ?_
      rintro e wB ⟨x2, rfl, P2, b2⟩
      have hT2 := bytes_of_own P2
      have hT1b := hT1.below b2
      have d2 := d1.trans (b2.mono d1.size)
      refine ⟨(HSS.out _ d2), ?_⟩
      simp only [zzA, zzB, zzC, Act.put, zzD, zzE, zzF]
      refine wpAnyH_all (rs := [17, 23]) (by kernel_rfl) (by simp) ?_
      intro k hk
      simp only [List.mem_cons, List.mem_nil_iff, or_false] at hk
      rcases hk with rfl | rfl
      · refine wpOp_runw rfl rfl (wp_conv _ rfl _ (.string ⟨(sav its).toArray⟩) rfl hT1b.text ?_)
        refine ⟨(HSS.out _ d2), ?_⟩
        simp only [zzA, zzB, zzC, Act.put, zzD, zzE, zzF]
        refine wpAnyH_all (rs := [23]) (by kernel_rfl) (by simp) ?_
        intro k hk
        simp only [List.mem_cons, List.mem_nil_iff, or_false] at hk
        subst hk
        refine wpOp_runw rfl rfl (wp_conv _ rfl _ (.string ⟨(sav its).toArray⟩) rfl hT2.text ?_)
        refine ⟨(HSS.out _ d2), ?_⟩
        simp only [zzA, zzB, zzC, Act.put, zzD, zzE, zzF]
        refine wpAnyH_take (i := 24) (v := (.bool false)) rfl (by kernel_rfl) (by kernel_rfl) (by kernel_rfl) (fun _ _ _ h => nomatch h.1) (.inl ⟨rfl, fun _ hS => by simp [execOp, go_sem, Act.eval]⟩) (HSS.out _ d2) ?_
        simp only [zzA, zzB, zzC, Act.put, zzD, zzE, zzF]
        refine wpAnyH_take (i := 25) (v := (.bool false)) rfl (by kernel_rfl) (by kernel_rfl) (by kernel_rfl) (fun _ _ _ h => nomatch h.1) (.inl ⟨rfl, fun _ hS => by simp [execOp, go_sem, Act.eval]⟩) (HSS.out _ d2) ?_
        simp only [zzA, zzB, zzC, Act.put, zzD, zzE, zzF]
        refine wpAnyH_done (by kernel_rfl) ?_ _
        exact ⟨rfl, (x1, x2), rfl, d2⟩
      · refine wpOp_runw rfl rfl (wp_conv _ rfl _ (.string ⟨(sav its).toArray⟩) rfl hT2.text ?_)
        refine ⟨(HSS.out _ d2), ?_⟩
        simp only [zzA, zzB, zzC, Act.put, zzD, zzE, zzF]
        refine wpAnyH_all (rs := [17]) (by kernel_rfl) (by simp) ?_
        intro k hk
        simp only [List.mem_cons, List.mem_nil_iff, or_false] at hk
        subst hk
        refine wpOp_runw rfl rfl (wp_conv _ rfl _ (.string ⟨(sav its).toArray⟩) rfl hT1b.text ?_)
        refine ⟨(HSS.out _ d2), ?_⟩
        simp only [zzA, zzB, zzC, Act.put, zzD, zzE, zzF]
        refine wpAnyH_take (i := 24) (v := (.bool false)) rfl (by kernel_rfl) (by kernel_rfl) (by kernel_rfl) (fun _ _ _ h => nomatch h.1) (.inl ⟨rfl, fun _ hS => by simp [execOp, go_sem, Act.eval]⟩) (HSS.out _ d2) ?_
        simp only [zzA, zzB, zzC, Act.put, zzD, zzE, zzF]
        refine wpAnyH_take (i := 25) (v := (.bool false)) rfl (by kernel_rfl) (by kernel_rfl) (by kernel_rfl) (fun _ _ _ h => nomatch h.1) (.inl ⟨rfl, fun _ hS => by simp [execOp, go_sem, Act.eval]⟩) (HSS.out _ d2) ?_
        simp only [zzA, zzB, zzC, Act.put, zzD, zzE, zzF]
        refine wpAnyH_done (by kernel_rfl) ?_ _
        exact ⟨rfl, (x1, x2), rfl, d2⟩
  rintro ⟨x1, x2⟩ w2 hD2
  simp only [Act.put, List.setIfInBounds_toArray, List.set_cons_succ, List.set_cons_zero]
  have HD2 := hidOf2 hD2
  clear hD2 S0 d0 M0 HSS
  go_wp2
  go_loopw [4] (fun s4 y => ∃ k : Nat, k ≤ its.length ∧ s4 = .int .i64 k ∧ Hid (Below w1.heap.size w1 y)) (fun s4 _ => its.length - (intOf s4).toNat)
  case atStart => exact ⟨0, Nat.zero_le _, rfl, HD2⟩
  case round =>
    clear HD2
    obtain ⟨k, hk, rfl, HB⟩ := hrel
    by_cases hkl : k < its.length
    · obtain ⟨lb3, lo3, cp', hv, hlb3, hR3⟩ := HW3.out.at0 k (by rw [List.length_map]; exact hkl)
      rw [List.length_map] at hv
      injection hv with hv1 _ hv3
      subst hv1
      subst hv3
      rw [List.getElem_map] at hR3
      have hmem := List.getElem_mem hkl
      obtain ⟨i, hi⟩ : ∃ i, its[k] = i := ⟨_, rfl⟩
      rw [hi] at hR3 hmem
      have HR3 := hidOf2 (fun y (hb : Below w1.heap.size w1 y) => rng_below hR3 hb hlb3)
      have HFI := hidOf2 (fnd_self HM1.out.dct.sorted hmem)
      have HGV := hidOf2 (show getV its i.e.ix i.e.sb = i.v by unfold getV; rw [HFI.out])
      have HGEq := hidOf2 (show getE its i.e.ix i.e.sb = 0 by unfold getE; rw [HFI.out])
      clear hR3 hmem hlb3
      generalize wr = w7 at *
      have HSS : Hid (∀ y, Below w7.heap.size w7 y → (fun y => y.cell? ⟨X, 0, none⟩ = some (.pointer (some ⟨D, 0, none⟩)) ∧ y.cell? ⟨lb3, lo3 + k * 14, none⟩ = some (.int .u16 i.e.ix) ∧ y.cell? ⟨lb3, lo3 + k * 14 + 1, none⟩ = some (.int .u8 i.e.sb)) y) := fun y hb =>
        have B := HB.out.trans (hb.mono HB.out.size)
        have r := HR3.out y B
        ⟨(HM1.out.next B).cX.1, by have := r 0 _ rfl; simpa using this, r 1 _ rfl⟩
      have HEN := hidOf2 (fun y (hb : Below w7.heap.size w7 y) => Entry_some (HM1.out.next (HB.out.trans (hb.mono HB.out.size))).dct i.e.ix i.e.sb i.e.hix i.e.hsb HFI.out)
      have c0 : Below w7.heap.size w7 w7.drew := bdr (Below.refl _ _) 1
      have S0 := HSS.out _ c0
      go_upto_region 7 with fail
      refine wp_cut (α := Nat) (fun u y => Eb u i.e y ∧ Below w7.heap.size w7 y) (fun a u => ((((((((((((((((((((a.put (some 47) (.pointer (some ⟨X, 0, none⟩))).put (some 48) (.pointer (some ⟨X, 0, none⟩))).put (some 49) (.pointer (some ⟨X, 0, none⟩))).put (some 50) (.pointer (some ⟨D, 0, none⟩))).put (some 51) (.slice (some ⟨lb3, lo3, none⟩) its.length cp3)).put (some 52) (.int .i64 (k : Int))).put (some 53) (.pointer (some ⟨lb3, lo3 + k * 14, none⟩))).put (some 54) (.pointer (some ⟨lb3, lo3 + k * 14, none⟩))).put (some 55) (.int .u16 i.e.ix)).put (some 56) (.slice (some ⟨lb3, lo3, none⟩) its.length cp3)).put (some 57) (.int .i64 (k : Int))).put (some 58) (.pointer (some ⟨lb3, lo3 + k * 14, none⟩))).put (some 59) (.pointer (some ⟨lb3, lo3 + k * 14 + 1, none⟩))).put (some 60) (.int .u8 i.e.sb)).put (some 61) (.tuple #[.agg i.e.arr, .bool true])).put (some 46) (.tuple #[.agg i.e.arr, .bool true])).put (some 62) (.agg i.e.arr)).put (some 63) (.bool true)).put (some 5) (.pointer (some ⟨u, 0, none⟩))).put (some 6) (.bool true))) ?_ ?_
      · refine wp_region_held (S := fun y => y.cell? ⟨X, 0, none⟩ = some (.pointer (some ⟨D, 0, none⟩)) ∧ y.cell? ⟨lb3, lo3 + k * 14, none⟩ = some (.int .u16 i.e.ix) ∧ y.cell? ⟨lb3, lo3 + k * 14 + 1, none⟩ = some (.int .u8 i.e.sb)) (by kernel_rfl) ?_
        change wpAnyH _ _ _ _ _ _ _ _ w7.drew
        refine tk 0 (.pointer (some ⟨X, 0, none⟩)) rfl (by kernel_rfl) (fun _ _ _ h => nomatch h.1) rfl (fun _ hS => rfl) S0 ?_
        simp only [zzA, zzB, zzC, Act.put, zzD, zzE, zzF]
        refine tk 1 (.pointer (some ⟨X, 0, none⟩)) rfl (by kernel_rfl) (fun _ _ _ h => nomatch h.1) rfl (fun _ hS => by simp [execOp, go_sem, Act.eval]) S0 ?_
        simp only [zzA, zzB, zzC, Act.put, zzD, zzE, zzF]
        refine tk 2 (.pointer (some ⟨X, 0, none⟩)) rfl (by kernel_rfl) (fun _ _ _ h => nomatch h.1) rfl (fun _ hS => by simp [execOp, go_sem, Act.eval]) S0 ?_
        simp only [zzA, zzB, zzC, Act.put, zzD, zzE, zzF]
        refine tk 3 (.pointer (some ⟨D, 0, none⟩)) rfl (by kernel_rfl) (fun _ _ _ h => nomatch h.1) rfl (fun _ hS => exec_load rfl rfl (load_pd _ _ _ _ hS.1)) S0 ?_
        simp only [zzA, zzB, zzC, Act.put, zzD, zzE, zzF]
        refine tk 4 (.slice (some ⟨lb3, lo3, none⟩) its.length cp3) rfl (by kernel_rfl) (fun _ _ _ h => nomatch h.1) rfl (fun _ hS => rfl) S0 ?_
        simp only [zzA, zzB, zzC, Act.put, zzD, zzE, zzF]
        refine tk 5 (.int .i64 (k : Int)) rfl (by kernel_rfl) (fun _ _ _ h => nomatch h.1) rfl (fun _ hS => rfl) S0 ?_
        simp only [zzA, zzB, zzC, Act.put, zzD, zzE, zzF]
        refine tk 6 (.pointer (some ⟨lb3, lo3 + k * 14, none⟩)) rfl (by kernel_rfl) (fun _ _ _ h => nomatch h.1) rfl (fun _ hS => exec_idxE rfl rfl rfl hkl _) S0 ?_
        simp only [zzA, zzB, zzC, Act.put, zzD, zzE, zzF]
        refine tk 7 (.pointer (some ⟨lb3, lo3 + k * 14, none⟩)) rfl (by kernel_rfl) (fun _ _ _ h => nomatch h.1) rfl (fun _ hS => by simp [execOp, go_sem, Act.eval]) S0 ?_
        simp only [zzA, zzB, zzC, Act.put, zzD, zzE, zzF]
        refine tk 8 (.int .u16 i.e.ix) rfl (by kernel_rfl) (fun _ _ _ h => nomatch h.1) rfl (fun _ hS => exec_load rfl rfl (load_u16 _ _ _ _ hS.2.1)) S0 ?_
        simp only [zzA, zzB, zzC, Act.put, zzD, zzE, zzF]
        refine tk 9 (.slice (some ⟨lb3, lo3, none⟩) its.length cp3) rfl (by kernel_rfl) (fun _ _ _ h => nomatch h.1) rfl (fun _ hS => rfl) S0 ?_
        simp only [zzA, zzB, zzC, Act.put, zzD, zzE, zzF]
        refine tk 10 (.int .i64 (k : Int)) rfl (by kernel_rfl) (fun _ _ _ h => nomatch h.1) rfl (fun _ hS => rfl) S0 ?_
        simp only [zzA, zzB, zzC, Act.put, zzD, zzE, zzF]
        refine tk 11 (.pointer (some ⟨lb3, lo3 + k * 14, none⟩)) rfl (by kernel_rfl) (fun _ _ _ h => nomatch h.1) rfl (fun _ hS => exec_idxE rfl rfl rfl hkl _) S0 ?_
        simp only [zzA, zzB, zzC, Act.put, zzD, zzE, zzF]
        refine tk 12 (.pointer (some ⟨lb3, lo3 + k * 14 + 1, none⟩)) rfl (by kernel_rfl) (fun _ _ _ h => nomatch h.1) rfl (fun _ hS => by simp [execOp, go_sem, Act.eval]) S0 ?_
        simp only [zzA, zzB, zzC, Act.put, zzD, zzE, zzF]
        refine tk 13 (.int .u8 i.e.sb) rfl (by kernel_rfl) (fun _ _ _ h => nomatch h.1) rfl (fun _ hS => exec_load rfl rfl (load_u8 _ _ _ _ hS.2.2)) S0 ?_
        simp only [zzA, zzB, zzC, Act.put, zzD, zzE, zzF]
        refine wpAnyH_all (rs := [14, 18]) (by kernel_rfl) (by simp) ?_
        intro k hk
        simp only [List.mem_cons, List.mem_nil_iff, or_false] at hk
        rcases hk with rfl | rfl
        · refine wpOp_run rfl rfl (wp_call_fn 40 #[.pointer (some ⟨D, 0, none⟩), .int .u16 i.e.ix, .int .u8 i.e.sb] (by simp [execOp, go_sem, Act.eval, resolve, invoke, enterPE]) ?_)
          refine (HEN.out w7.drew c0).mono ?_
          rintro e u1 ⟨rfl, b1⟩
          have c1 := c0.trans (b1.mono c0.size)
          have s1 := HSS.out _ c1
          refine ⟨s1, ?_⟩
          simp only [zzA, zzB, zzC, Act.put, zzD, zzE, zzF]
          refine tk 15 (.tuple #[.agg i.e.arr, .bool true]) rfl (by kernel_rfl) (fun _ _ _ h => nomatch h.1) rfl (fun _ hS => rfl) s1 ?_
          simp only [zzA, zzB, zzC, Act.put, zzD, zzE, zzF]
          refine tk 16 (.agg i.e.arr) rfl (by kernel_rfl) (fun _ _ _ h => nomatch h.1) rfl (fun _ hS => by simp [execOp, go_sem, Act.eval]) s1 ?_
          simp only [zzA, zzB, zzC, Act.put, zzD, zzE, zzF]
          refine tk 17 (.bool true) rfl (by kernel_rfl) (fun _ _ _ h => nomatch h.1) rfl (fun _ hS => by simp [execOp, go_sem, Act.eval]) s1 ?_
          simp only [zzA, zzB, zzC, Act.put, zzD, zzE, zzF]
          refine wpAnyH_all (rs := [18]) (by kernel_rfl) (by simp) ?_
          intro k hk
          simp only [List.mem_cons, List.mem_nil_iff, or_false] at hk
          subst hk
          refine wpOp_run rfl rfl (wp_allocE rfl ?_)
          obtain ⟨q5, hqv⟩ : ∃ q, u1.heap.size = q := ⟨_, rfl⟩
          have g2 := heap_alloc_new u1 (.cells zE14 93)
          have c2 := c1.alloc c1.size (.cells zE14 93)
          have s2 := HSS.out _ c2
          have hqr : w7.heap.size ≤ q5 := by rw [← hqv]; exact c1.size
          rw [hqv] at g2 ⊢
          generalize u1.alloc (.cells zE14 93) = u2 at *
          refine ⟨s2, ?_⟩
          simp only [zzA, zzB, zzC, Act.put, zzD, zzE, zzF]
          refine wpAnyH_all (rs := [19]) (by kernel_rfl) (by simp) ?_
          intro k hk
          simp only [List.mem_cons, List.mem_nil_iff, or_false] at hk
          subst hk
          refine wpOp_run rfl rfl (wp_store_row 93 _ _ rfl q5 (i.e).arr rfl rfl 93 zE14 g2 (by show _ = some 14; exact infoE) rfl (all_oneCell_toArray (i.e).one) ?_)
          have gZ := Eb.row g2 (i.e)
          have cZ := below_row c2 hqr c2.size (q := q5) (i.e).arr
          have sZ := HSS.out _ cZ
          refine ⟨sZ, ?_⟩
          simp only [zzA, zzB, zzC, Act.put, zzD, zzE, zzF]
          refine tk 20 (.bool true) rfl (by kernel_rfl) (fun _ _ _ h => nomatch h.1) rfl (fun _ hS => rfl) sZ ?_
          simp only [zzA, zzB, zzC, Act.put, zzD, zzE, zzF]
          refine wpAnyH_done (by kernel_rfl) ?_ _
          exact ⟨rfl, q5, rfl, gZ, cZ⟩
        · refine wpOp_run rfl rfl (wp_allocE rfl ?_)
          obtain ⟨q5, hqv⟩ : ∃ q, w7.drew.heap.size = q := ⟨_, rfl⟩
          have g1 := heap_alloc_new w7.drew (.cells zE14 93)
          have c1 := c0.alloc c0.size (.cells zE14 93)
          have s1 := HSS.out _ c1
          have hqr : w7.heap.size ≤ q5 := by rw [← hqv]; exact c0.size
          rw [hqv] at g1 ⊢
          generalize w7.drew.alloc (.cells zE14 93) = u1 at *
          refine ⟨s1, ?_⟩
          simp only [zzA, zzB, zzC, Act.put, zzD, zzE, zzF]
          refine wpAnyH_all (rs := [14]) (by kernel_rfl) (by simp) ?_
          intro k hk
          simp only [List.mem_cons, List.mem_nil_iff, or_false] at hk
          subst hk
          refine wpOp_run rfl rfl (wp_call_fn 40 #[.pointer (some ⟨D, 0, none⟩), .int .u16 i.e.ix, .int .u8 i.e.sb] (by simp [execOp, go_sem, Act.eval, resolve, invoke, enterPE]) ?_)
          refine (HEN.out u1 c1).mono ?_
          rintro e u2 ⟨rfl, b2⟩
          have c2 := c1.trans (b2.mono c1.size)
          have s2 := HSS.out _ c2
          have g2 := (b2.block q5 (Array.getElem?_eq_some_iff.1 g1).1).trans g1
          refine ⟨s2, ?_⟩
          simp only [zzA, zzB, zzC, Act.put, zzD, zzE, zzF]
          refine tk 15 (.tuple #[.agg i.e.arr, .bool true]) rfl (by kernel_rfl) (fun _ _ _ h => nomatch h.1) rfl (fun _ hS => rfl) s2 ?_
          simp only [zzA, zzB, zzC, Act.put, zzD, zzE, zzF]
          refine tk 16 (.agg i.e.arr) rfl (by kernel_rfl) (fun _ _ _ h => nomatch h.1) rfl (fun _ hS => by simp [execOp, go_sem, Act.eval]) s2 ?_
          simp only [zzA, zzB, zzC, Act.put, zzD, zzE, zzF]
          refine tk 17 (.bool true) rfl (by kernel_rfl) (fun _ _ _ h => nomatch h.1) rfl (fun _ hS => by simp [execOp, go_sem, Act.eval]) s2 ?_
          simp only [zzA, zzB, zzC, Act.put, zzD, zzE, zzF]
          refine wpAnyH_all (rs := [19]) (by kernel_rfl) (by simp) ?_
          intro k hk
          simp only [List.mem_cons, List.mem_nil_iff, or_false] at hk
          subst hk
          refine wpOp_run rfl rfl (wp_store_row 93 _ _ rfl q5 (i.e).arr rfl rfl 93 zE14 g2 (by show _ = some 14; exact infoE) rfl (all_oneCell_toArray (i.e).one) ?_)
          have gZ := Eb.row g2 (i.e)
          have cZ := below_row c2 hqr c2.size (q := q5) (i.e).arr
          have sZ := HSS.out _ cZ
          refine ⟨sZ, ?_⟩
          simp only [zzA, zzB, zzC, Act.put, zzD, zzE, zzF]
          refine tk 20 (.bool true) rfl (by kernel_rfl) (fun _ _ _ h => nomatch h.1) rfl (fun _ hS => rfl) sZ ?_
          simp only [zzA, zzB, zzC, Act.put, zzD, zzE, zzF]
          refine wpAnyH_done (by kernel_rfl) ?_ _
          exact ⟨rfl, q5, rfl, gZ, cZ⟩
      intro q5 w8 hI8
      simp only [Act.put, List.setIfInBounds_toArray, List.set_cons_succ, List.set_cons_zero]
      clear c0 S0 HSS HEN
      have HE5 := hidOf2 hI8.1
      have HB8 := hidOf2 (HB.out.trans (hI8.2.mono HB.out.size))
      clear HB hI8
      have HSS : Hid (∀ y, Below w8.heap.size w8 y → (fun y => y.cell? ⟨X, 0, none⟩ = some (.pointer (some ⟨D, 0, none⟩)) ∧ y.cell? ⟨lb3, lo3 + k * 14, none⟩ = some (.int .u16 i.e.ix) ∧ y.cell? ⟨lb3, lo3 + k * 14 + 1, none⟩ = some (.int .u8 i.e.sb)) y) := fun y hb =>
        have B := HB8.out.trans (hb.mono HB8.out.size)
        have r := HR3.out y B
        ⟨(HM1.out.next B).cX.1, by have := r 0 _ rfl; simpa using this, r 1 _ rfl⟩
      have HGE := hidOf2 (fun y (hb : Below w8.heap.size w8 y) => (Get_any (HM1.out.next (HB8.out.trans (hb.mono HB8.out.size))).dct i.e.ix i.e.sb i.e.hix i.e.hsb).mono (fun e z h => And.intro (h.1.trans (by rw [HGV.out, HGEq.out])) h.2))
      have c0 : Below w8.heap.size w8 w8.drew := bdr (Below.refl _ _) 1
      have S0 := HSS.out _ c0
      go_upto_region 8 with fail
      refine wp_cut (α := Nat) (fun u y => Va u i.v y ∧ Below w8.heap.size w8 y) (fun a u => ((((((((((((((((((((a.put (some 65) (.pointer (some ⟨X, 0, none⟩))).put (some 66) (.pointer (some ⟨X, 0, none⟩))).put (some 67) (.pointer (some ⟨X, 0, none⟩))).put (some 68) (.pointer (some ⟨D, 0, none⟩))).put (some 69) (.slice (some ⟨lb3, lo3, none⟩) its.length cp3)).put (some 70) (.int .i64 (k : Int))).put (some 71) (.pointer (some ⟨lb3, lo3 + k * 14, none⟩))).put (some 72) (.pointer (some ⟨lb3, lo3 + k * 14, none⟩))).put (some 73) (.int .u16 i.e.ix)).put (some 74) (.slice (some ⟨lb3, lo3, none⟩) its.length cp3)).put (some 75) (.int .i64 (k : Int))).put (some 76) (.pointer (some ⟨lb3, lo3 + k * 14, none⟩))).put (some 77) (.pointer (some ⟨lb3, lo3 + k * 14 + 1, none⟩))).put (some 78) (.int .u8 i.e.sb)).put (some 79) (.tuple #[.agg i.v.arr, .int .i64 0])).put (some 64) (.tuple #[.agg i.v.arr, .int .i64 0])).put (some 80) (.agg i.v.arr)).put (some 81) (.int .i64 0)).put (some 7) (.pointer (some ⟨u, 0, none⟩))).put (some 8) (.int .i64 0))) ?_ ?_
      · refine wp_region_held (S := fun y => y.cell? ⟨X, 0, none⟩ = some (.pointer (some ⟨D, 0, none⟩)) ∧ y.cell? ⟨lb3, lo3 + k * 14, none⟩ = some (.int .u16 i.e.ix) ∧ y.cell? ⟨lb3, lo3 + k * 14 + 1, none⟩ = some (.int .u8 i.e.sb)) (by kernel_rfl) ?_
        change wpAnyH _ _ _ _ _ _ _ _ w8.drew
        refine tk 0 (.pointer (some ⟨X, 0, none⟩)) rfl (by kernel_rfl) (fun _ _ _ h => nomatch h.1) rfl (fun _ hS => rfl) S0 ?_
        simp only [zzA, zzB, zzC, Act.put, zzD, zzE, zzF]
        refine tk 1 (.pointer (some ⟨X, 0, none⟩)) rfl (by kernel_rfl) (fun _ _ _ h => nomatch h.1) rfl (fun _ hS => by simp [execOp, go_sem, Act.eval]) S0 ?_
        simp only [zzA, zzB, zzC, Act.put, zzD, zzE, zzF]
        refine tk 2 (.pointer (some ⟨X, 0, none⟩)) rfl (by kernel_rfl) (fun _ _ _ h => nomatch h.1) rfl (fun _ hS => by simp [execOp, go_sem, Act.eval]) S0 ?_
        simp only [zzA, zzB, zzC, Act.put, zzD, zzE, zzF]
        refine tk 3 (.pointer (some ⟨D, 0, none⟩)) rfl (by kernel_rfl) (fun _ _ _ h => nomatch h.1) rfl (fun _ hS => exec_load rfl rfl (load_pd _ _ _ _ hS.1)) S0 ?_
        simp only [zzA, zzB, zzC, Act.put, zzD, zzE, zzF]
        refine tk 4 (.slice (some ⟨lb3, lo3, none⟩) its.length cp3) rfl (by kernel_rfl) (fun _ _ _ h => nomatch h.1) rfl (fun _ hS => rfl) S0 ?_
        simp only [zzA, zzB, zzC, Act.put, zzD, zzE, zzF]
        refine tk 5 (.int .i64 (k : Int)) rfl (by kernel_rfl) (fun _ _ _ h => nomatch h.1) rfl (fun _ hS => rfl) S0 ?_
        simp only [zzA, zzB, zzC, Act.put, zzD, zzE, zzF]
        refine tk 6 (.pointer (some ⟨lb3, lo3 + k * 14, none⟩)) rfl (by kernel_rfl) (fun _ _ _ h => nomatch h.1) rfl (fun _ hS => exec_idxE rfl rfl rfl hkl _) S0 ?_
        simp only [zzA, zzB, zzC, Act.put, zzD, zzE, zzF]
        refine tk 7 (.pointer (some ⟨lb3, lo3 + k * 14, none⟩)) rfl (by kernel_rfl) (fun _ _ _ h => nomatch h.1) rfl (fun _ hS => by simp [execOp, go_sem, Act.eval]) S0 ?_
        simp only [zzA, zzB, zzC, Act.put, zzD, zzE, zzF]
        refine tk 8 (.int .u16 i.e.ix) rfl (by kernel_rfl) (fun _ _ _ h => nomatch h.1) rfl (fun _ hS => exec_load rfl rfl (load_u16 _ _ _ _ hS.2.1)) S0 ?_
        simp only [zzA, zzB, zzC, Act.put, zzD, zzE, zzF]
        refine tk 9 (.slice (some ⟨lb3, lo3, none⟩) its.length cp3) rfl (by kernel_rfl) (fun _ _ _ h => nomatch h.1) rfl (fun _ hS => rfl) S0 ?_
        simp only [zzA, zzB, zzC, Act.put, zzD, zzE, zzF]
        refine tk 10 (.int .i64 (k : Int)) rfl (by kernel_rfl) (fun _ _ _ h => nomatch h.1) rfl (fun _ hS => rfl) S0 ?_
        simp only [zzA, zzB, zzC, Act.put, zzD, zzE, zzF]
        refine tk 11 (.pointer (some ⟨lb3, lo3 + k * 14, none⟩)) rfl (by kernel_rfl) (fun _ _ _ h => nomatch h.1) rfl (fun _ hS => exec_idxE rfl rfl rfl hkl _) S0 ?_
        simp only [zzA, zzB, zzC, Act.put, zzD, zzE, zzF]
        refine tk 12 (.pointer (some ⟨lb3, lo3 + k * 14 + 1, none⟩)) rfl (by kernel_rfl) (fun _ _ _ h => nomatch h.1) rfl (fun _ hS => by simp [execOp, go_sem, Act.eval]) S0 ?_
        simp only [zzA, zzB, zzC, Act.put, zzD, zzE, zzF]
        refine tk 13 (.int .u8 i.e.sb) rfl (by kernel_rfl) (fun _ _ _ h => nomatch h.1) rfl (fun _ hS => exec_load rfl rfl (load_u8 _ _ _ _ hS.2.2)) S0 ?_
        simp only [zzA, zzB, zzC, Act.put, zzD, zzE, zzF]
        refine wpAnyH_all (rs := [14, 18]) (by kernel_rfl) (by simp) ?_
        intro k hk
        simp only [List.mem_cons, List.mem_nil_iff, or_false] at hk
        rcases hk with rfl | rfl
        · refine wpOp_run rfl rfl (wp_call_fn 24 #[.pointer (some ⟨D, 0, none⟩), .int .u16 i.e.ix, .int .u8 i.e.sb] (by simp [execOp, go_sem, Act.eval, resolve, invoke, enterPG]) ?_)
          refine (HGE.out w8.drew c0).mono ?_
          rintro e v1 ⟨rfl, b1⟩
          have c1 := c0.trans (b1.mono c0.size)
          have s1 := HSS.out _ c1
          refine ⟨s1, ?_⟩
          simp only [zzA, zzB, zzC, Act.put, zzD, zzE, zzF]
          refine tk 15 (.tuple #[.agg i.v.arr, .int .i64 0]) rfl (by kernel_rfl) (fun _ _ _ h => nomatch h.1) rfl (fun _ hS => rfl) s1 ?_
          simp only [zzA, zzB, zzC, Act.put, zzD, zzE, zzF]
          refine tk 16 (.agg i.v.arr) rfl (by kernel_rfl) (fun _ _ _ h => nomatch h.1) rfl (fun _ hS => by simp [execOp, go_sem, Act.eval]) s1 ?_
          simp only [zzA, zzB, zzC, Act.put, zzD, zzE, zzF]
          refine tk 17 (.int .i64 0) rfl (by kernel_rfl) (fun _ _ _ h => nomatch h.1) rfl (fun _ hS => by simp [execOp, go_sem, Act.eval]) s1 ?_
          simp only [zzA, zzB, zzC, Act.put, zzD, zzE, zzF]
          refine wpAnyH_all (rs := [18]) (by kernel_rfl) (by simp) ?_
          intro k hk
          simp only [List.mem_cons, List.mem_nil_iff, or_false] at hk
          subst hk
          refine wpOp_run rfl rfl (wp_allocV rfl ?_)
          obtain ⟨q7, hqv⟩ : ∃ q, v1.heap.size = q := ⟨_, rfl⟩
          have g2 := Va.new v1 Vl.nul
          have c2 := c1.alloc c1.size (.cells Vl.nul.arr 52)
          have s2 := HSS.out _ c2
          have hqr : w8.heap.size ≤ q7 := by rw [← hqv]; exact c1.size
          rw [hqv] at g2 ⊢
          generalize v1.alloc (.cells Vl.nul.arr 52) = v2 at *
          refine ⟨s2, ?_⟩
          simp only [zzA, zzB, zzC, Act.put, zzD, zzE, zzF]
          refine wpAnyH_all (rs := [19]) (by kernel_rfl) (by simp) ?_
          intro k hk
          simp only [List.mem_cons, List.mem_nil_iff, or_false] at hk
          subst hk
          refine wpOp_run rfl rfl (wp_store_row 52 _ _ rfl q7 (i.v).arr rfl rfl 52 Vl.nul.arr g2 (by rw [Vl.arr_size]; exact infoV) (by rw [Vl.arr_size, Vl.arr_size]) (i.v).one ?_)
          have gZ := g2.row (i.v)
          have cZ := below_row c2 hqr c2.size (q := q7) (i.v).arr
          have sZ := HSS.out _ cZ
          refine ⟨sZ, ?_⟩
          simp only [zzA, zzB, zzC, Act.put, zzD, zzE, zzF]
          refine tk 20 (.int .i64 0) rfl (by kernel_rfl) (fun _ _ _ h => nomatch h.1) rfl (fun _ hS => rfl) sZ ?_
          simp only [zzA, zzB, zzC, Act.put, zzD, zzE, zzF]
          refine wpAnyH_done (by kernel_rfl) ?_ _
          exact ⟨rfl, q7, rfl, gZ, cZ⟩
        · refine wpOp_run rfl rfl (wp_allocV rfl ?_)
          obtain ⟨q7, hqv⟩ : ∃ q, w8.drew.heap.size = q := ⟨_, rfl⟩
          have g1 := Va.new w8.drew Vl.nul
          have c1 := c0.alloc c0.size (.cells Vl.nul.arr 52)
          have s1 := HSS.out _ c1
          have hqr : w8.heap.size ≤ q7 := by rw [← hqv]; exact c0.size
          rw [hqv] at g1 ⊢
          generalize w8.drew.alloc (.cells Vl.nul.arr 52) = v1 at *
          refine ⟨s1, ?_⟩
          simp only [zzA, zzB, zzC, Act.put, zzD, zzE, zzF]
          refine wpAnyH_all (rs := [14]) (by kernel_rfl) (by simp) ?_
          intro k hk
          simp only [List.mem_cons, List.mem_nil_iff, or_false] at hk
          subst hk
          refine wpOp_run rfl rfl (wp_call_fn 24 #[.pointer (some ⟨D, 0, none⟩), .int .u16 i.e.ix, .int .u8 i.e.sb] (by simp [execOp, go_sem, Act.eval, resolve, invoke, enterPG]) ?_)
          refine (HGE.out v1 c1).mono ?_
          rintro e v2 ⟨rfl, b2⟩
          have c2 := c1.trans (b2.mono c1.size)
          have s2 := HSS.out _ c2
          have g2 := g1.below b2
          refine ⟨s2, ?_⟩
          simp only [zzA, zzB, zzC, Act.put, zzD, zzE, zzF]
          refine tk 15 (.tuple #[.agg i.v.arr, .int .i64 0]) rfl (by kernel_rfl) (fun _ _ _ h => nomatch h.1) rfl (fun _ hS => rfl) s2 ?_
          simp only [zzA, zzB, zzC, Act.put, zzD, zzE, zzF]
          refine tk 16 (.agg i.v.arr) rfl (by kernel_rfl) (fun _ _ _ h => nomatch h.1) rfl (fun _ hS => by simp [execOp, go_sem, Act.eval]) s2 ?_
          simp only [zzA, zzB, zzC, Act.put, zzD, zzE, zzF]
          refine tk 17 (.int .i64 0) rfl (by kernel_rfl) (fun _ _ _ h => nomatch h.1) rfl (fun _ hS => by simp [execOp, go_sem, Act.eval]) s2 ?_
          simp only [zzA, zzB, zzC, Act.put, zzD, zzE, zzF]
          refine wpAnyH_all (rs := [19]) (by kernel_rfl) (by simp) ?_
          intro k hk
          simp only [List.mem_cons, List.mem_nil_iff, or_false] at hk
          subst hk
          refine wpOp_run rfl rfl (wp_store_row 52 _ _ rfl q7 (i.v).arr rfl rfl 52 Vl.nul.arr g2 (by rw [Vl.arr_size]; exact infoV) (by rw [Vl.arr_size, Vl.arr_size]) (i.v).one ?_)
          have gZ := g2.row (i.v)
          have cZ := below_row c2 hqr c2.size (q := q7) (i.v).arr
          have sZ := HSS.out _ cZ
          refine ⟨sZ, ?_⟩
          simp only [zzA, zzB, zzC, Act.put, zzD, zzE, zzF]
          refine tk 20 (.int .i64 0) rfl (by kernel_rfl) (fun _ _ _ h => nomatch h.1) rfl (fun _ hS => rfl) sZ ?_
          simp only [zzA, zzB, zzC, Act.put, zzD, zzE, zzF]
          refine wpAnyH_done (by kernel_rfl) ?_ _
          exact ⟨rfl, q7, rfl, gZ, cZ⟩
      intro q7 w9 hI9
      simp only [Act.put, List.setIfInBounds_toArray, List.set_cons_succ, List.set_cons_zero]
      clear c0 S0 HSS HGE
      have HV7 := hidOf2 hI9.1
      have HE6 := hidOf2 (HE5.out.below hI9.2)
      have HB9 := hidOf2 (HB8.out.trans (hI9.2.mono HB8.out.size))
      clear HB8 HE5 hI9
      obtain ⟨vL', vV', hrd⟩ := (HM1.out.next HB9.out).rd
      obtain ⟨lb, lo, cL, vb, vo, cV, g1, g2, hlb, hvb, rL, rV⟩ := hrd.atI hkl
      subst g1
      subst g2
      rw [hi] at rL rV
      have S9 := (show (fun y => y.cell? ⟨X, 1, none⟩ = some (.pointer (some ⟨E, 0, none⟩)) ∧ y.cell? ⟨E, 0, none⟩ = some (.slice (some ⟨lb, lo, none⟩) its.length cL) ∧ y.cell? ⟨E, 1, none⟩ = some (.slice (some ⟨vb, vo, none⟩) its.length cV) ∧ y.rangeAt lb3 (lo3 + k * 14) (enC i.e) ∧ y.rangeAt lb (lo + k * 14) (enC i.e) ∧ y.rangeAt vb (vo + k * 3) (vlC i.v) ∧ Eb q5 i.e y ∧ Va q7 i.v y) w9.drew from ⟨(HM1.out.next HB9.out).cX.2, hrd.c.1, hrd.c.2, HR3.out w9.drew (bdr HB9.out 1), rL, rV, HE6.out, HV7.out⟩)
      clear hrd rL rV hlb hvb
      go_upto_region 9 with fail
      refine wp_region_held (S := fun y => y.cell? ⟨X, 1, none⟩ = some (.pointer (some ⟨E, 0, none⟩)) ∧ y.cell? ⟨E, 0, none⟩ = some (.slice (some ⟨lb, lo, none⟩) its.length cL) ∧ y.cell? ⟨E, 1, none⟩ = some (.slice (some ⟨vb, vo, none⟩) its.length cV) ∧ y.rangeAt lb3 (lo3 + k * 14) (enC i.e) ∧ y.rangeAt lb (lo + k * 14) (enC i.e) ∧ y.rangeAt vb (vo + k * 3) (vlC i.v) ∧ Eb q5 i.e y ∧ Va q7 i.v y) (by kernel_rfl) ?_
      change wpAnyH _ _ _ _ _ _ _ _ w9.drew
      refine tk 0 (.slice (some ⟨lb3, lo3, none⟩) its.length cp3) rfl (by kernel_rfl) (fun _ _ _ h => h) rfl (fun _ hS => rfl) S9 ?_
      simp only [zzA, zzB, zzC, Act.put, zzD, zzE, zzF]
      refine tk 1 (.int .i64 (k : Int)) rfl (by kernel_rfl) (fun _ _ _ h => h) rfl (fun _ hS => rfl) S9 ?_
      simp only [zzA, zzB, zzC, Act.put, zzD, zzE, zzF]
      refine tk 2 (.pointer (some ⟨lb3, lo3 + k * 14, none⟩)) rfl (by kernel_rfl) (fun _ _ _ h => h) rfl (fun _ hS => exec_idxE rfl rfl rfl hkl _) S9 ?_
      simp only [zzA, zzB, zzC, Act.put, zzD, zzE, zzF]
      refine tk 3 (.agg i.e.arr) rfl (by kernel_rfl) (fun _ _ _ h => h) rfl (fun _ hS => exec_load rfl rfl (run_ldE hS.2.2.2.1)) S9 ?_
      simp only [zzA, zzB, zzC, Act.put, zzD, zzE, zzF]
      refine tk 4 (.pointer (some ⟨X, 0, none⟩)) rfl (by kernel_rfl) (fun _ _ _ h => h) rfl (fun _ hS => rfl) S9 ?_
      simp only [zzA, zzB, zzC, Act.put, zzD, zzE, zzF]
      refine tk 5 (.pointer (some ⟨X, 0, none⟩)) rfl (by kernel_rfl) (fun _ _ _ h => h) rfl (fun _ hS => by simp [execOp, go_sem, Act.eval]) S9 ?_
      simp only [zzA, zzB, zzC, Act.put, zzD, zzE, zzF]
      refine tk 6 (.pointer (some ⟨X, 1, none⟩)) rfl (by kernel_rfl) (fun _ _ _ h => h) rfl (fun _ hS => by simp [execOp, go_sem, Act.eval]) S9 ?_
      simp only [zzA, zzB, zzC, Act.put, zzD, zzE, zzF]
      refine tk 7 (.pointer (some ⟨E, 0, none⟩)) rfl (by kernel_rfl) (fun _ _ _ h => h) rfl (fun _ hS => exec_load rfl rfl (load_rd _ _ _ _ hS.1)) S9 ?_
      simp only [zzA, zzB, zzC, Act.put, zzD, zzE, zzF]
      refine tk 8 (.pointer (some ⟨E, 0, none⟩)) rfl (by kernel_rfl) (fun _ _ _ h => h) rfl (fun _ hS => by simp [execOp, go_sem, Act.eval]) S9 ?_
      simp only [zzA, zzB, zzC, Act.put, zzD, zzE, zzF]
      refine tk 9 (.pointer (some ⟨E, 0, none⟩)) rfl (by kernel_rfl) (fun _ _ _ h => h) rfl (fun _ hS => by simp [execOp, go_sem, Act.eval]) S9 ?_
      simp only [zzA, zzB, zzC, Act.put, zzD, zzE, zzF]
      refine tk 10 (.slice (some ⟨lb, lo, none⟩) its.length cL) rfl (by kernel_rfl) (fun _ _ _ h => h) rfl (fun _ hS => exec_load rfl rfl (load_ents _ _ _ _ _ _ hS.2.1)) S9 ?_
      simp only [zzA, zzB, zzC, Act.put, zzD, zzE, zzF]
      refine tk 11 (.int .i64 (k : Int)) rfl (by kernel_rfl) (fun _ _ _ h => h) rfl (fun _ hS => rfl) S9 ?_
      simp only [zzA, zzB, zzC, Act.put, zzD, zzE, zzF]
      refine tk 12 (.pointer (some ⟨lb, lo + k * 14, none⟩)) rfl (by kernel_rfl) (fun _ _ _ h => h) rfl (fun _ hS => exec_idxE rfl rfl rfl hkl _) S9 ?_
      simp only [zzA, zzB, zzC, Act.put, zzD, zzE, zzF]
      refine tk 13 (.agg i.e.arr) rfl (by kernel_rfl) (fun _ _ _ h => h) rfl (fun _ hS => exec_load rfl rfl (run_ldE hS.2.2.2.2.1)) S9 ?_
      simp only [zzA, zzB, zzC, Act.put, zzD, zzE, zzF]
      refine tk 14 (.bool false) rfl (by kernel_rfl) (fun _ _ _ h => h) rfl (fun _ hS => exec_neqE i.e rfl rfl rfl _) S9 ?_
      simp only [zzA, zzB, zzC, Act.put, zzD, zzE, zzF]
      refine tk 15 (.bool false) rfl (by kernel_rfl) (fun _ _ _ h => h) rfl (fun _ hS => rfl) S9 ?_
      simp only [zzA, zzB, zzC, Act.put, zzD, zzE, zzF]
      refine tk 16 (.agg i.e.arr) rfl (by kernel_rfl) (fun _ _ _ h => h) rfl (fun _ hS => exec_load rfl rfl (run_ldE hS.2.2.2.2.2.2.1.r0)) S9 ?_
      simp only [zzA, zzB, zzC, Act.put, zzD, zzE, zzF]
      refine tk 17 (.slice (some ⟨lb3, lo3, none⟩) its.length cp3) rfl (by kernel_rfl) (fun _ _ _ h => h) rfl (fun _ hS => rfl) S9 ?_
      simp only [zzA, zzB, zzC, Act.put, zzD, zzE, zzF]
      refine tk 18 (.int .i64 (k : Int)) rfl (by kernel_rfl) (fun _ _ _ h => h) rfl (fun _ hS => rfl) S9 ?_
      simp only [zzA, zzB, zzC, Act.put, zzD, zzE, zzF]
      refine tk 19 (.pointer (some ⟨lb3, lo3 + k * 14, none⟩)) rfl (by kernel_rfl) (fun _ _ _ h => h) rfl (fun _ hS => exec_idxE rfl rfl rfl hkl _) S9 ?_
      simp only [zzA, zzB, zzC, Act.put, zzD, zzE, zzF]
      refine tk 20 (.agg i.e.arr) rfl (by kernel_rfl) (fun _ _ _ h => h) rfl (fun _ hS => exec_load rfl rfl (run_ldE hS.2.2.2.1)) S9 ?_
      simp only [zzA, zzB, zzC, Act.put, zzD, zzE, zzF]
      refine tk 21 (.bool false) rfl (by kernel_rfl) (fun _ _ _ h => h) rfl (fun _ hS => exec_neqE i.e rfl rfl rfl _) S9 ?_
      simp only [zzA, zzB, zzC, Act.put, zzD, zzE, zzF]
      refine tk 22 (.bool false) rfl (by kernel_rfl) (fun _ _ _ h => h) rfl (fun _ hS => by simp [execOp, go_sem, Act.eval]) S9 ?_
      simp only [zzA, zzB, zzC, Act.put, zzD, zzE, zzF]
      refine tk 23 (.bool false) rfl (by kernel_rfl) (fun _ _ _ h => h) rfl (fun _ hS => rfl) S9 ?_
      simp only [zzA, zzB, zzC, Act.put, zzD, zzE, zzF]
      refine tk 24 (.bool true) rfl (by kernel_rfl) (fun _ _ _ h => h) rfl (fun _ hS => rfl) S9 ?_
      simp only [zzA, zzB, zzC, Act.put, zzD, zzE, zzF]
      refine tk 25 (.bool false) rfl (by kernel_rfl) (fun _ _ _ h => h) rfl (fun _ hS => by simp [execOp, go_sem, Act.eval]) S9 ?_
      simp only [zzA, zzB, zzC, Act.put, zzD, zzE, zzF]
      refine tk 26 (.bool false) rfl (by kernel_rfl) (fun _ _ _ h => h) rfl (fun _ hS => by simp [execOp, go_sem, Act.eval]) S9 ?_
      simp only [zzA, zzB, zzC, Act.put, zzD, zzE, zzF]
      refine tk 27 (.bool false) rfl (by kernel_rfl) (fun _ _ _ h => h) rfl (fun _ hS => rfl) S9 ?_
      simp only [zzA, zzB, zzC, Act.put, zzD, zzE, zzF]
      refine tk 28 (.agg i.v.arr) rfl (by kernel_rfl) (fun _ _ _ h => h) rfl (fun _ hS => exec_load rfl rfl hS.2.2.2.2.2.2.2.load) S9 ?_
      simp only [zzA, zzB, zzC, Act.put, zzD, zzE, zzF]
      refine tk 29 (.pointer (some ⟨X, 0, none⟩)) rfl (by kernel_rfl) (fun _ _ _ h => h) rfl (fun _ hS => rfl) S9 ?_
      simp only [zzA, zzB, zzC, Act.put, zzD, zzE, zzF]
      refine tk 30 (.pointer (some ⟨X, 0, none⟩)) rfl (by kernel_rfl) (fun _ _ _ h => h) rfl (fun _ hS => by simp [execOp, go_sem, Act.eval]) S9 ?_
      simp only [zzA, zzB, zzC, Act.put, zzD, zzE, zzF]
      refine tk 31 (.pointer (some ⟨X, 1, none⟩)) rfl (by kernel_rfl) (fun _ _ _ h => h) rfl (fun _ hS => by simp [execOp, go_sem, Act.eval]) S9 ?_
      simp only [zzA, zzB, zzC, Act.put, zzD, zzE, zzF]
      refine tk 32 (.pointer (some ⟨E, 0, none⟩)) rfl (by kernel_rfl) (fun _ _ _ h => h) rfl (fun _ hS => exec_load rfl rfl (load_rd _ _ _ _ hS.1)) S9 ?_
      simp only [zzA, zzB, zzC, Act.put, zzD, zzE, zzF]
      refine tk 33 (.pointer (some ⟨E, 0, none⟩)) rfl (by kernel_rfl) (fun _ _ _ h => h) rfl (fun _ hS => by simp [execOp, go_sem, Act.eval]) S9 ?_
      simp only [zzA, zzB, zzC, Act.put, zzD, zzE, zzF]
      refine tk 34 (.pointer (some ⟨E, 1, none⟩)) rfl (by kernel_rfl) (fun _ _ _ h => h) rfl (fun _ hS => by simp [execOp, go_sem, Act.eval]) S9 ?_
      simp only [zzA, zzB, zzC, Act.put, zzD, zzE, zzF]
      refine tk 35 (.slice (some ⟨vb, vo, none⟩) its.length cV) rfl (by kernel_rfl) (fun _ _ _ h => h) rfl (fun _ hS => exec_load rfl rfl (load_vals _ _ _ _ _ _ hS.2.2.1)) S9 ?_
      simp only [zzA, zzB, zzC, Act.put, zzD, zzE, zzF]
      refine tk 36 (.int .i64 (k : Int)) rfl (by kernel_rfl) (fun _ _ _ h => h) rfl (fun _ hS => rfl) S9 ?_
      simp only [zzA, zzB, zzC, Act.put, zzD, zzE, zzF]
      refine tk 37 (.pointer (some ⟨vb, vo + k * 3, none⟩)) rfl (by kernel_rfl) (fun _ _ _ h => h) rfl (fun _ hS => exec_idxV rfl rfl rfl hkl _) S9 ?_
      simp only [zzA, zzB, zzC, Act.put, zzD, zzE, zzF]
      refine tk 38 (.agg i.v.arr) rfl (by kernel_rfl) (fun _ _ _ h => h) rfl (fun _ hS => exec_load rfl rfl (run_ldV hS.2.2.2.2.2.1)) S9 ?_
      simp only [zzA, zzB, zzC, Act.put, zzD, zzE, zzF]
      refine tk 39 (.bool false) rfl (by kernel_rfl) (fun _ _ _ h => h) rfl (fun _ hS => exec_neqV i.v rfl rfl rfl _) S9 ?_
      simp only [zzA, zzB, zzC, Act.put, zzD, zzE, zzF]
      refine tk 40 (.bool false) rfl (by kernel_rfl) (fun _ _ _ h => h) rfl (fun _ hS => by simp [execOp, go_sem, Act.eval]) S9 ?_
      simp only [zzA, zzB, zzC, Act.put, zzD, zzE, zzF]
      refine tk 41 (.bool false) rfl (by kernel_rfl) (fun _ _ _ h => h) rfl (fun _ hS => rfl) S9 ?_
      simp only [zzA, zzB, zzC, Act.put, zzD, zzE, zzF]
      refine tk 42 (.int .i64 0) rfl (by kernel_rfl) (fun _ _ _ h => h) rfl (fun _ hS => rfl) S9 ?_
      simp only [zzA, zzB, zzC, Act.put, zzD, zzE, zzF]
      refine tk 43 (.bool false) rfl (by kernel_rfl) (fun _ _ _ h => h) rfl (fun _ hS => by simp [execOp, go_sem, Act.eval]) S9 ?_
      simp only [zzA, zzB, zzC, Act.put, zzD, zzE, zzF]
      refine tk 44 (.bool false) rfl (by kernel_rfl) (fun _ _ _ h => h) rfl (fun _ hS => by simp [execOp, go_sem, Act.eval]) S9 ?_
      simp only [zzA, zzB, zzC, Act.put, zzD, zzE, zzF]
      refine wpAnyH_done (by kernel_rfl) ?_ _
      have HBZ := hidOf2 (bdr HB9.out 1)
      have HBZ2 := hidOf2 (show Below w1.heap.size w1 w9.drew from HBZ.out)
      clear S9 HBZ HB9 HE6 HV7
      generalize w9.drew = wz at *
      go_wp2
      go_roundw
      case rel => exact ⟨k + 1, by omega, by go_num, HBZ2⟩
      case measure => simp [intOf]; omega
    · have HF := hidOf2 (HBX.out.trans (HB.out.mono HBX.out.size))
      go_wp2
      go_ret
      exact ⟨rfl, HF.out⟩
end Go.Proofs.YtahfnknbmikmkaaGreat
