/- Contracts: weigh. -/
import Derived.Test.YthalhidebkhclaaO10
namespace Go.Proofs.Ythalhidebkhclaa
open Go.RowKit Go.Proofs.Ty Go.Sort Go.Lib
set_option linter.unusedVariables false
set_option maxRecDepth 1000000
set_option linter.unusedSimpArgs false
theorem enterBy : ∀ args x, (callFunc 57 args).run Try.prog x = .ok (.enter 57 args) x := fun _ _ => by rfl
theorem wg_results {Q : Nat} {v : Vl} {p : Value} {c : Int} {w : World} (h : Va Q v w) (tmps : Array Value) (h8 : tmps[8]?.getD undef = p) (h9 : tmps[9]?.getD undef = .pointer (some ⟨Q, 0, none⟩)) (h10 : tmps[10]?.getD undef = .int .u32 c) :
    (results Try.f37 tmps).run Try.prog w = .ok (.tuple #[p, .agg v.arr, .int .u32 c]) w := by
  have l0 := h.load
  simp [Go.results, Try.results37, h8, h9, h10, asAddr, l0]
/-- The code by which an item refuses bytes. -/
def wcode (i : Im) (l : List UInt8) : Nat := if i.e.ac ≠ 1 ∧ i.e.ac ≠ 2 then 100728834 else if decE i.e.df.t l = 0 then bey i.e (decW i.e.df.t l) else if decE i.e.df.t l = 3 then 101122067 else if decE i.e.df.t l = 2 then 101122066 else 101253168
def wc (its : List Im) (ix sb : Nat) (l : List UInt8) : Nat := match fnd its ix sb with
  | none => noc its ix
  | some i => wcode i l
theorem noc_ne (its : List Im) (ix : Nat) : noc its ix ≠ 0 := by unfold noc; split <;> decide
theorem fnd_mem {its : List Im} {ix sb : Nat} {i : Im} (h : fnd its ix sb = some i) : i ∈ its := List.mem_of_find?_eq_some h
/-- What is told of bytes that would be written. -/
def Wg (its : List Im) (ix sb : Nat) (l : List UInt8) (w : World) (e : Ending) (w' : World) : Prop :=
  ∃ (p : Value) (v : Vl), e = .returned (.tuple #[p, .agg v.arr, .int .u32 (wc its ix sb l)]) ∧ Below w.heap.size w w' ∧ (wc its ix sb l = 0 → ∃ i, fnd its ix sb = some i ∧ p = .pointer (some ⟨i.b, 0, none⟩) ∧ v = decW i.e.df.t l ∧ (i.e.ac = 1 ∨ i.e.ac = 2) ∧ decE i.e.df.t l = 0 ∧ bey i.e (decW i.e.df.t l) = 0)
set_option maxHeartbeats 4000000 in
theorem weigh_none {D R : Nat} {its : List Im} {w : World} (h : Dct D R its w) (ix sb : Nat) (h1 : ix < 65536) (h2 : sb < 256) (vb : Value) (l : List UInt8) (hB : Bytes w vb l) (hf : fnd its ix sb = none) :
    Calls Try.prog 37 #[.pointer (some ⟨D, 0, none⟩), .int .u16 ix, .int .u8 sb, vb] w (Wg its ix sb l w) := by
  have fA : Va w.heap.size Vl.nul (w.alloc (.cells #[.int .i64 0, .int .u64 0, .string ⟨#[]⟩] 42)) := Va.new w Vl.nul
  have bA : Below w.heap.size w (w.alloc (.cells #[.int .i64 0, .int .u64 0, .string ⟨#[]⟩] 42)) := (Below.refl _ _).alloc (Nat.le_refl _) _
  have HC := hidOf2 (show wc its ix sb l = noc its ix by unfold wc; rw [hf])
  have HN := hidOf2 (noc_ne its ix)
  have hF := find_none (h.below bA) ix sb h1 h2 hf
  have d1 : ((noc its ix : Int) != 0) = true := by have := noc_ne its ix; simp; omega
  have hx : ∃ ao cap, vb = .slice ao l.length cap := by obtain ⟨ao, cap, h, _⟩ := hB; exact ⟨ao, cap, h⟩
  obtain ⟨ao, cap, rfl⟩ := hx
  clear hB h hf
  generalize noc its ix = C at *
  obtain ⟨q, hq⟩ : ∃ q, w.heap.size = q := ⟨_, rfl⟩
  have s0 := bA.size
  go_enter Try.func37, Try.ntmps37
  go_upto_region 1 with fail
  generalize w.alloc (.cells #[.int .i64 0, .int .u64 0, .string ⟨#[]⟩] 42) = W at *
  simp only [hq] at fA ⊢
  go_wp2_with fail
  refine hF.mono ?_
  rintro e w1 ⟨rfl, b1⟩
  have f1 := fA.below b1
  have f2 := f1.row Vl.nul
  have B1 := bA.trans (b1.mono s0)
  have B2 : Below w.heap.size w (w1.setRow q Vl.nul.arr) := below_row B1 (by omega) B1.size Vl.nul.arr
  clear fA bA b1 hF
  go_wp2_with (first | (refine f1.sd Vl.nul rfl _ _ rfl rfl rfl ?_))
  exact bodyPost_ret (wg_results f2 _ rfl rfl rfl) rfl ⟨_, _, by rw [HC.out], B2, fun hz => absurd (HC.out ▸ hz) HN.out⟩
set_option maxHeartbeats 8000000 in
theorem weigh_some {D R : Nat} {its : List Im} {w : World} (h : Dct D R its w) (ix sb : Nat) (h1 : ix < 65536) (h2 : sb < 256) (vb : Value) (l : List UInt8) (hB : Bytes w vb l) {i : Im} (hf : fnd its ix sb = some i) :
    Calls Try.prog 37 #[.pointer (some ⟨D, 0, none⟩), .int .u16 ix, .int .u8 sb, vb] w (Wg its ix sb l w) := by
  have fA : Va w.heap.size Vl.nul (w.alloc (.cells #[.int .i64 0, .int .u64 0, .string ⟨#[]⟩] 42)) := Va.new w Vl.nul
  have bA : Below w.heap.size w (w.alloc (.cells #[.int .i64 0, .int .u64 0, .string ⟨#[]⟩] 42)) := (Below.refl _ _).alloc (Nat.le_refl _) _
  have HC := hidOf2 (show wc its ix sb l = wcode i l by unfold wc; rw [hf])
  have HCC : Hid (wcode i l = if i.e.ac ≠ 1 ∧ i.e.ac ≠ 2 then 100728834 else if decE i.e.df.t l = 0 then bey i.e (decW i.e.df.t l) else if decE i.e.df.t l = 3 then 101122067 else if decE i.e.df.t l = 2 then 101122066 else 101253168) := rfl
  have hF := find_some (h.below bA) ix sb h1 h2 hf
  unfold ptrI at hF
  have h0 := (h.items i (fnd_mem hf)).below bA
  have BY := hB.below bA
  have HFI := hidOf2 hf
  have hx : ∃ ao cap, vb = .slice ao l.length cap := by obtain ⟨ao, cap, h, _⟩ := hB; exact ⟨ao, cap, h⟩
  obtain ⟨ao, cap, rfl⟩ := hx
  clear hB h hf
  unfold Wg
  rw [HFI.out]
  generalize wc its ix sb l = CC at *
  obtain ⟨q9, hq⟩ : ∃ q, w.heap.size = q := ⟨_, rfl⟩
  have s0 := bA.size
  have hTr := i.e.df.ht
  go_enter Try.func37, Try.ntmps37
  go_upto_region 1 with fail
  generalize w.alloc (.cells #[.int .i64 0, .int .u64 0, .string ⟨#[]⟩] 42) = W at *
  simp only [hq] at fA ⊢
  go_wp2_with fail
  refine hF.mono ?_
  rintro e w1 ⟨rfl, b1⟩
  have f1 := fA.below b1
  have f2 := f1.row Vl.nul
  have h1 := h0.below b1
  have BY1 := BY.below b1
  have B1 := bA.trans (b1.mono s0)
  have B2 : Below w.heap.size w (w1.setRow q9 Vl.nul.arr) := below_row B1 (by omega) B1.size Vl.nul.arr
  clear fA bA b1 hF BY h0
  obtain ⟨c0, c1, c2, c3, c4, c11⟩ := h1.c
  have H1 := hidOf2 h1
  clear h1 c0 c1 c3 c4
  by_cases hac : i.e.ac ≠ 1 ∧ i.e.ac ≠ 2
  · have d1 : (i.e.ac != 1) = true := by simpa using hac.1
    have d2 : (i.e.ac != 2) = true := by simpa using hac.2
    have e1 := hidOf2 (show CC = 100728834 by rw [HC.out, HCC.out, if_pos hac])
    clear HC HCC
    generalize i.e.ac = A at *
    go_wp2_with (first | (refine f1.sd Vl.nul rfl _ _ rfl rfl rfl ?_))
    exact bodyPost_ret (wg_results f2 _ rfl rfl rfl) rfl ⟨_, _, by rw [e1.out]; rfl, B2, fun hz => absurd (e1.out ▸ hz) (by decide)⟩
  · rw [if_neg hac] at HCC
    have HAC := hidOf2 (show i.e.ac = 1 ∨ i.e.ac = 2 by omega)
    have hD := Decode_v i.e.df.t hTr _ l w1 BY1
    clear hac
    rcases HAC.out with ha | ha
    · rw [ha] at c2
      go_wp2_with fail
      refine hD.mono ?_
      rintro e w2 ⟨rfl, b2⟩
      have B2 := B1.trans (b2.mono B1.size)
      have f3 := f1.below b2
      have h3 := H1.out.below b2
      obtain ⟨q13, hq13⟩ : ∃ q, w2.heap.size = q := ⟨_, rfl⟩
      have g0 : Va q13 Vl.nul (w2.alloc (.cells #[.int .i64 0, .int .u64 0, .string ⟨#[]⟩] 42)) := hq13 ▸ Va.new w2 Vl.nul
      have g1 := g0.row (decW i.e.df.t l)
      have hlt9 : q9 < q13 := by have := f3.lt; omega
      have hlti : i.b < q13 := by have := h3.lt; omega
      have f4 : Va q9 Vl.nul ((w2.alloc (.cells #[.int .i64 0, .int .u64 0, .string ⟨#[]⟩] 42)).setRow q13 (decW i.e.df.t l).arr) := (setRow_other _ q13 q9 _ (by omega)).trans (f3.alloc _)
      have h4 : Ib i.b i.e i.v ((w2.alloc (.cells #[.int .i64 0, .int .u64 0, .string ⟨#[]⟩] 42)).setRow q13 (decW i.e.df.t l).arr) := (h3.same (Lib.alloc_old w2 _ i.b h3.lt)).same (setRow_other _ q13 i.b _ (by omega))
      have BA3 := B2.alloc B2.size (.cells #[.int .i64 0, .int .u64 0, .string ⟨#[]⟩] 42)
      have B3 := below_row BA3 (by have := B2.size; omega) BA3.size (q := q13) (decW i.e.df.t l).arr
      clear hD f1 f2 H1 BY1 B1 b2 f3 h3 c2 c11 BA3 B2
      go_upto_region 7 with (first | (refine g0.sd (decW i.e.df.t l) rfl _ _ rfl rfl rfl ?_))
      generalize ((w2.alloc (.cells #[.int .i64 0, .int .u64 0, .string ⟨#[]⟩] 42)).setRow q13 (decW i.e.df.t l).arr) = w3 at *
      clear g0 hq13
      have f5 := f4.row Vl.nul
      have B5 : Below w.heap.size w (w3.setRow q9 Vl.nul.arr) := below_row B3 (by omega) B3.size Vl.nul.arr
      by_cases hE0 : decE i.e.df.t l = 0
      · have HDE := hidOf2 hE0
        have HC9 := hidOf2 (show CC = bey i.e (decW i.e.df.t l) by rw [HC.out, HCC.out, if_pos hE0])
        rw [hE0]
        have hBY : Hid (∀ x, Ib i.b i.e i.v x → Calls Try.prog 57 #[.pointer (some ⟨i.b, 0, none⟩), .agg (decW i.e.df.t l).arr] x fun y w' => y = .returned (.int .u32 (bey i.e (decW i.e.df.t l))) ∧ Below x.heap.size x w') := fun x hx => beyond_any hx _
        have HZ := hidOf2 f4
        have HB3 := hidOf2 B3
        have D3 : Ib i.b i.e i.v w3.drew := h4
        have S3 : Va q13 (decW i.e.df.t l) w3.drew := g1
        clear f4 B3 f5 B5 HC HCC hE0 h4 g1
        go_upto_region 9 with fail
        refine wp_region_held (S := Va q13 (decW i.e.df.t l)) (by kernel_rfl) ?_
        change wpAnyH _ _ _ _ _ _ _ _ w3.drew
        refine wpAnyH_take (i := 0) (v := (.pointer (some ⟨i.b, 0, none⟩))) rfl (by kernel_rfl) (by kernel_rfl) (by kernel_rfl) (fun _ _ _ h => h) (.inl ⟨rfl, fun _ hS => rfl⟩) S3 ?_
        simp only [List.getElem_toArray, List.getElem_cons_succ, List.getElem_cons_zero, Act.put, List.setIfInBounds_toArray, List.set_cons_succ, List.set_cons_zero]
        refine wpAnyH_take (i := 1) (v := (.agg (decW i.e.df.t l).arr)) rfl (by kernel_rfl) (by kernel_rfl) (by kernel_rfl) (fun _ _ _ h => h) (.inl ⟨rfl, fun _ hS => exec_load rfl rfl hS.load⟩) S3 ?_
        simp only [List.getElem_toArray, List.getElem_cons_succ, List.getElem_cons_zero, Act.put, List.setIfInBounds_toArray, List.set_cons_succ, List.set_cons_zero]
        refine wpAnyH_take (i := 2) (v := (.pointer (some ⟨i.b, 0, none⟩))) rfl (by kernel_rfl) (by kernel_rfl) (by kernel_rfl) (fun _ _ _ h => h) (.inl ⟨rfl, fun _ hS => rfl⟩) S3 ?_
        simp only [List.getElem_toArray, List.getElem_cons_succ, List.getElem_cons_zero, Act.put, List.setIfInBounds_toArray, List.set_cons_succ, List.set_cons_zero]
        refine wpAnyH_take (i := 3) (v := (.agg (decW i.e.df.t l).arr)) rfl (by kernel_rfl) (by kernel_rfl) (by kernel_rfl) (fun _ _ _ h => h) (.inl ⟨rfl, fun _ hS => exec_load rfl rfl hS.load⟩) S3 ?_
        simp only [List.getElem_toArray, List.getElem_cons_succ, List.getElem_cons_zero, Act.put, List.setIfInBounds_toArray, List.set_cons_succ, List.set_cons_zero]
        refine wpAnyH_all (rs := [4]) (by kernel_rfl) (by simp) ?_
        intro k hk
        simp only [List.mem_cons, List.mem_nil_iff, or_false] at hk
        subst hk
        refine wpOp_run rfl rfl (wp_call_fn 57 #[.pointer (some ⟨i.b, 0, none⟩), .agg (decW i.e.df.t l).arr] (by simp [execOp, go_sem, Act.eval, resolve, invoke, enterBy]) ?_)
        refine (hBY.out w3.drew D3).mono ?_
        rintro e w4 ⟨rfl, b4⟩
        have s4 : Va q13 (decW i.e.df.t l) w4 := S3.below b4
        refine ⟨s4, ?_⟩
        simp only [List.getElem_toArray, List.getElem_cons_succ, List.getElem_cons_zero, Act.put, List.setIfInBounds_toArray, List.set_cons_succ, List.set_cons_zero]
        refine wpAnyH_take (i := 5) (v := (.pointer (some ⟨i.b, 0, none⟩))) rfl (by kernel_rfl) (by kernel_rfl) (by kernel_rfl) (fun _ _ _ h => h) (.inl ⟨rfl, fun _ hS => rfl⟩) s4 ?_
        simp only [List.getElem_toArray, List.getElem_cons_succ, List.getElem_cons_zero, Act.put, List.setIfInBounds_toArray, List.set_cons_succ, List.set_cons_zero]
        refine wpAnyH_all (rs := [6]) (by kernel_rfl) (by simp) ?_
        intro k hk
        simp only [List.mem_cons, List.mem_nil_iff, or_false] at hk
        subst hk
        have z4 : Va q9 Vl.nul w4 := (HZ.out.below (bdrw b4))
        refine wpOp_run rfl rfl (wp_store_row 42 _ _ rfl q9 (decW i.e.df.t l).arr rfl rfl 42 Vl.nul.arr z4 (by rw [Vl.arr_size]; exact infoV) (by rw [Vl.arr_size, Vl.arr_size]) (decW i.e.df.t l).one ?_)
        have s5 : Va q13 (decW i.e.df.t l) (w4.setRow q9 (decW i.e.df.t l).arr) := (setRow_other w4 q9 q13 _ (by omega)).trans s4
        refine ⟨s5, ?_⟩
        simp only [List.getElem_toArray, List.getElem_cons_succ, List.getElem_cons_zero, Act.put, List.setIfInBounds_toArray, List.set_cons_succ, List.set_cons_zero]
        refine wpAnyH_take (i := 7) (v := (.int .u32 (bey i.e (decW i.e.df.t l)))) rfl (by kernel_rfl) (by kernel_rfl) (by kernel_rfl) (fun _ _ _ h => h) (.inl ⟨rfl, fun _ hS => rfl⟩) s5 ?_
        simp only [List.getElem_toArray, List.getElem_cons_succ, List.getElem_cons_zero, Act.put, List.setIfInBounds_toArray, List.set_cons_succ, List.set_cons_zero]
        refine wpAnyH_done (by kernel_rfl) ?_ _
        have V5 : Va q9 (decW i.e.df.t l) (w4.setRow q9 (decW i.e.df.t l).arr) := z4.row _
        have B5 : Below w.heap.size w (w4.setRow q9 (decW i.e.df.t l).arr) := below_row (HB3.out.trans ((bdrw b4).mono HB3.out.size)) (by omega) (Nat.le_trans HB3.out.size (bdrw b4).size) _
        clear hBY HZ s5 s4 z4 b4 HB3
        generalize (w4.setRow q9 (decW i.e.df.t l).arr) = w5 at *
        go_wp2
        exact bodyPost_ret (wg_results V5 _ rfl rfl rfl) rfl ⟨_, _, by rw [HC9.out]; rfl, B5, fun hz => ⟨i, rfl, rfl, rfl, HAC.out, HDE.out, HC9.out ▸ hz⟩⟩
      · rw [if_neg hE0] at HCC
        have d0 : ((decE i.e.df.t l : Int) == 0) = false := by simpa using hE0
        by_cases hE3 : decE i.e.df.t l = 3
        · have e1 := hidOf2 (show CC = 101122067 by rw [HC.out, HCC.out, if_pos hE3])
          rw [hE3]
          clear HC HCC d0 hE3
          go_wp2_with (first | (refine f4.sd Vl.nul rfl _ _ rfl rfl rfl ?_))
          exact bodyPost_ret (wg_results f5 _ rfl rfl rfl) rfl ⟨_, _, by rw [e1.out]; rfl, B5, fun hz => absurd (e1.out ▸ hz) (by decide)⟩
        · have d3 : ((decE i.e.df.t l : Int) == 3) = false := by simp; omega
          rw [if_neg hE3] at HCC
          by_cases hE2 : decE i.e.df.t l = 2
          · have e1 := hidOf2 (show CC = 101122066 by rw [HC.out, HCC.out, if_pos hE2])
            rw [hE2]
            clear HC HCC d0 hE3 d3 hE2
            go_wp2_with (first | (refine f4.sd Vl.nul rfl _ _ rfl rfl rfl ?_))
            exact bodyPost_ret (wg_results f5 _ rfl rfl rfl) rfl ⟨_, _, by rw [e1.out]; rfl, B5, fun hz => absurd (e1.out ▸ hz) (by decide)⟩
          · have d2 : ((decE i.e.df.t l : Int) == 2) = false := by simp; omega
            have e1 := hidOf2 (show CC = 101253168 by rw [HC.out, HCC.out, if_neg hE2])
            clear HC HCC hE3 hE2 hE0
            generalize decE i.e.df.t l = E at *
            go_wp2_with (first | (refine f4.sd Vl.nul rfl _ _ rfl rfl rfl ?_))
            exact bodyPost_ret (wg_results f5 _ rfl rfl rfl) rfl ⟨_, _, by rw [e1.out]; rfl, B5, fun hz => absurd (e1.out ▸ hz) (by decide)⟩
    · rw [ha] at c2
      go_wp2_with fail
      refine hD.mono ?_
      rintro e w2 ⟨rfl, b2⟩
      have B2 := B1.trans (b2.mono B1.size)
      have f3 := f1.below b2
      have h3 := H1.out.below b2
      obtain ⟨q13, hq13⟩ : ∃ q, w2.heap.size = q := ⟨_, rfl⟩
      have g0 : Va q13 Vl.nul (w2.alloc (.cells #[.int .i64 0, .int .u64 0, .string ⟨#[]⟩] 42)) := hq13 ▸ Va.new w2 Vl.nul
      have g1 := g0.row (decW i.e.df.t l)
      have hlt9 : q9 < q13 := by have := f3.lt; omega
      have hlti : i.b < q13 := by have := h3.lt; omega
      have f4 : Va q9 Vl.nul ((w2.alloc (.cells #[.int .i64 0, .int .u64 0, .string ⟨#[]⟩] 42)).setRow q13 (decW i.e.df.t l).arr) := (setRow_other _ q13 q9 _ (by omega)).trans (f3.alloc _)
      have h4 : Ib i.b i.e i.v ((w2.alloc (.cells #[.int .i64 0, .int .u64 0, .string ⟨#[]⟩] 42)).setRow q13 (decW i.e.df.t l).arr) := (h3.same (Lib.alloc_old w2 _ i.b h3.lt)).same (setRow_other _ q13 i.b _ (by omega))
      have BA3 := B2.alloc B2.size (.cells #[.int .i64 0, .int .u64 0, .string ⟨#[]⟩] 42)
      have B3 := below_row BA3 (by have := B2.size; omega) BA3.size (q := q13) (decW i.e.df.t l).arr
      clear hD f1 f2 H1 BY1 B1 b2 f3 h3 c2 c11 BA3 B2
      go_upto_region 7 with (first | (refine g0.sd (decW i.e.df.t l) rfl _ _ rfl rfl rfl ?_))
      generalize ((w2.alloc (.cells #[.int .i64 0, .int .u64 0, .string ⟨#[]⟩] 42)).setRow q13 (decW i.e.df.t l).arr) = w3 at *
      clear g0 hq13
      have f5 := f4.row Vl.nul
      have B5 : Below w.heap.size w (w3.setRow q9 Vl.nul.arr) := below_row B3 (by omega) B3.size Vl.nul.arr
      by_cases hE0 : decE i.e.df.t l = 0
      · have HDE := hidOf2 hE0
        have HC9 := hidOf2 (show CC = bey i.e (decW i.e.df.t l) by rw [HC.out, HCC.out, if_pos hE0])
        rw [hE0]
        have hBY : Hid (∀ x, Ib i.b i.e i.v x → Calls Try.prog 57 #[.pointer (some ⟨i.b, 0, none⟩), .agg (decW i.e.df.t l).arr] x fun y w' => y = .returned (.int .u32 (bey i.e (decW i.e.df.t l))) ∧ Below x.heap.size x w') := fun x hx => beyond_any hx _
        have HZ := hidOf2 f4
        have HB3 := hidOf2 B3
        have D3 : Ib i.b i.e i.v w3.drew := h4
        have S3 : Va q13 (decW i.e.df.t l) w3.drew := g1
        clear f4 B3 f5 B5 HC HCC hE0 h4 g1
        go_upto_region 9 with fail
        refine wp_region_held (S := Va q13 (decW i.e.df.t l)) (by kernel_rfl) ?_
        change wpAnyH _ _ _ _ _ _ _ _ w3.drew
        refine wpAnyH_take (i := 0) (v := (.pointer (some ⟨i.b, 0, none⟩))) rfl (by kernel_rfl) (by kernel_rfl) (by kernel_rfl) (fun _ _ _ h => h) (.inl ⟨rfl, fun _ hS => rfl⟩) S3 ?_
        simp only [List.getElem_toArray, List.getElem_cons_succ, List.getElem_cons_zero, Act.put, List.setIfInBounds_toArray, List.set_cons_succ, List.set_cons_zero]
        refine wpAnyH_take (i := 1) (v := (.agg (decW i.e.df.t l).arr)) rfl (by kernel_rfl) (by kernel_rfl) (by kernel_rfl) (fun _ _ _ h => h) (.inl ⟨rfl, fun _ hS => exec_load rfl rfl hS.load⟩) S3 ?_
        simp only [List.getElem_toArray, List.getElem_cons_succ, List.getElem_cons_zero, Act.put, List.setIfInBounds_toArray, List.set_cons_succ, List.set_cons_zero]
        refine wpAnyH_take (i := 2) (v := (.pointer (some ⟨i.b, 0, none⟩))) rfl (by kernel_rfl) (by kernel_rfl) (by kernel_rfl) (fun _ _ _ h => h) (.inl ⟨rfl, fun _ hS => rfl⟩) S3 ?_
        simp only [List.getElem_toArray, List.getElem_cons_succ, List.getElem_cons_zero, Act.put, List.setIfInBounds_toArray, List.set_cons_succ, List.set_cons_zero]
        refine wpAnyH_take (i := 3) (v := (.agg (decW i.e.df.t l).arr)) rfl (by kernel_rfl) (by kernel_rfl) (by kernel_rfl) (fun _ _ _ h => h) (.inl ⟨rfl, fun _ hS => exec_load rfl rfl hS.load⟩) S3 ?_
        simp only [List.getElem_toArray, List.getElem_cons_succ, List.getElem_cons_zero, Act.put, List.setIfInBounds_toArray, List.set_cons_succ, List.set_cons_zero]
        refine wpAnyH_all (rs := [4]) (by kernel_rfl) (by simp) ?_
        intro k hk
        simp only [List.mem_cons, List.mem_nil_iff, or_false] at hk
        subst hk
        refine wpOp_run rfl rfl (wp_call_fn 57 #[.pointer (some ⟨i.b, 0, none⟩), .agg (decW i.e.df.t l).arr] (by simp [execOp, go_sem, Act.eval, resolve, invoke, enterBy]) ?_)
        refine (hBY.out w3.drew D3).mono ?_
        rintro e w4 ⟨rfl, b4⟩
        have s4 : Va q13 (decW i.e.df.t l) w4 := S3.below b4
        refine ⟨s4, ?_⟩
        simp only [List.getElem_toArray, List.getElem_cons_succ, List.getElem_cons_zero, Act.put, List.setIfInBounds_toArray, List.set_cons_succ, List.set_cons_zero]
        refine wpAnyH_take (i := 5) (v := (.pointer (some ⟨i.b, 0, none⟩))) rfl (by kernel_rfl) (by kernel_rfl) (by kernel_rfl) (fun _ _ _ h => h) (.inl ⟨rfl, fun _ hS => rfl⟩) s4 ?_
        simp only [List.getElem_toArray, List.getElem_cons_succ, List.getElem_cons_zero, Act.put, List.setIfInBounds_toArray, List.set_cons_succ, List.set_cons_zero]
        refine wpAnyH_all (rs := [6]) (by kernel_rfl) (by simp) ?_
        intro k hk
        simp only [List.mem_cons, List.mem_nil_iff, or_false] at hk
        subst hk
        have z4 : Va q9 Vl.nul w4 := (HZ.out.below (bdrw b4))
        refine wpOp_run rfl rfl (wp_store_row 42 _ _ rfl q9 (decW i.e.df.t l).arr rfl rfl 42 Vl.nul.arr z4 (by rw [Vl.arr_size]; exact infoV) (by rw [Vl.arr_size, Vl.arr_size]) (decW i.e.df.t l).one ?_)
        have s5 : Va q13 (decW i.e.df.t l) (w4.setRow q9 (decW i.e.df.t l).arr) := (setRow_other w4 q9 q13 _ (by omega)).trans s4
        refine ⟨s5, ?_⟩
        simp only [List.getElem_toArray, List.getElem_cons_succ, List.getElem_cons_zero, Act.put, List.setIfInBounds_toArray, List.set_cons_succ, List.set_cons_zero]
        refine wpAnyH_take (i := 7) (v := (.int .u32 (bey i.e (decW i.e.df.t l)))) rfl (by kernel_rfl) (by kernel_rfl) (by kernel_rfl) (fun _ _ _ h => h) (.inl ⟨rfl, fun _ hS => rfl⟩) s5 ?_
        simp only [List.getElem_toArray, List.getElem_cons_succ, List.getElem_cons_zero, Act.put, List.setIfInBounds_toArray, List.set_cons_succ, List.set_cons_zero]
        refine wpAnyH_done (by kernel_rfl) ?_ _
        have V5 : Va q9 (decW i.e.df.t l) (w4.setRow q9 (decW i.e.df.t l).arr) := z4.row _
        have B5 : Below w.heap.size w (w4.setRow q9 (decW i.e.df.t l).arr) := below_row (HB3.out.trans ((bdrw b4).mono HB3.out.size)) (by omega) (Nat.le_trans HB3.out.size (bdrw b4).size) _
        clear hBY HZ s5 s4 z4 b4 HB3
        generalize (w4.setRow q9 (decW i.e.df.t l).arr) = w5 at *
        go_wp2
        exact bodyPost_ret (wg_results V5 _ rfl rfl rfl) rfl ⟨_, _, by rw [HC9.out]; rfl, B5, fun hz => ⟨i, rfl, rfl, rfl, HAC.out, HDE.out, HC9.out ▸ hz⟩⟩
      · rw [if_neg hE0] at HCC
        have d0 : ((decE i.e.df.t l : Int) == 0) = false := by simpa using hE0
        by_cases hE3 : decE i.e.df.t l = 3
        · have e1 := hidOf2 (show CC = 101122067 by rw [HC.out, HCC.out, if_pos hE3])
          rw [hE3]
          clear HC HCC d0 hE3
          go_wp2_with (first | (refine f4.sd Vl.nul rfl _ _ rfl rfl rfl ?_))
          exact bodyPost_ret (wg_results f5 _ rfl rfl rfl) rfl ⟨_, _, by rw [e1.out]; rfl, B5, fun hz => absurd (e1.out ▸ hz) (by decide)⟩
        · have d3 : ((decE i.e.df.t l : Int) == 3) = false := by simp; omega
          rw [if_neg hE3] at HCC
          by_cases hE2 : decE i.e.df.t l = 2
          · have e1 := hidOf2 (show CC = 101122066 by rw [HC.out, HCC.out, if_pos hE2])
            rw [hE2]
            clear HC HCC d0 hE3 d3 hE2
            go_wp2_with (first | (refine f4.sd Vl.nul rfl _ _ rfl rfl rfl ?_))
            exact bodyPost_ret (wg_results f5 _ rfl rfl rfl) rfl ⟨_, _, by rw [e1.out]; rfl, B5, fun hz => absurd (e1.out ▸ hz) (by decide)⟩
          · have d2 : ((decE i.e.df.t l : Int) == 2) = false := by simp; omega
            have e1 := hidOf2 (show CC = 101253168 by rw [HC.out, HCC.out, if_neg hE2])
            clear HC HCC hE3 hE2 hE0
            generalize decE i.e.df.t l = E at *
            go_wp2_with (first | (refine f4.sd Vl.nul rfl _ _ rfl rfl rfl ?_))
            exact bodyPost_ret (wg_results f5 _ rfl rfl rfl) rfl ⟨_, _, by rw [e1.out]; rfl, B5, fun hz => absurd (e1.out ▸ hz) (by decide)⟩
end Go.Proofs.Ythalhidebkhclaa
