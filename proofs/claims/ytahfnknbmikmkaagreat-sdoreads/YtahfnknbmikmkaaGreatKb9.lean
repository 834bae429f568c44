/- Contracts: weigh. Contracts: Write, Get, Set, Read. Contracts: bytes, Read, Save: what is laid down. Contracts: Encode, whose bytes are new. append to a row of one's own: its block is the old one, or a new one. -/
import Derived.Test.YtahfnknbmikmkaaGreatZs
import Derived.Test.YtahfnknbmikmkaaGreatKb8
import Derived.Test.YtahfnknbmikmkaaGreatKb3
import Derived.Test.YtahfnknbmikmkaaGreatKb4
namespace Go.Proofs.YtahfnknbmikmkaaGreat
open Go.RowKit Go.Proofs.Ty Go.Sort Go.Lib
set_option linter.unusedVariables false
set_option maxRecDepth 1000000
set_option linter.unusedSimpArgs false
theorem enterBy : ∀ args x, (callFunc 135 args).run Tryz.prog x = .ok (.enter 135 args) x := fun _ _ => by rfl
theorem wg_results {Q : Nat} {v : Vl} {p : Value} {c : Int} {w : World} (h : Va Q v w) (tmps : Array Value) (h8 : tmps[8]?.getD undef = p) (h9 : tmps[9]?.getD undef = .pointer (some ⟨Q, 0, none⟩)) (h10 : tmps[10]?.getD undef = .int .u32 c) :
    (results Tryz.f128 tmps).run Tryz.prog w = .ok (.tuple #[p, .agg v.arr, .int .u32 c]) w := by
  have l0 := h.load
  simp [Go.results, Tryz.results128, h8, h9, h10, asAddr, l0]
/-- The code by which an item refuses bytes. -/
def wcode (i : Im) (l : List UInt8) : Nat := if i.e.ac ≠ 1 ∧ i.e.ac ≠ 2 then 100728834 else if decE i.e.df.t l = 0 then bey i.e (decW i.e.df.t l) else if decE i.e.df.t l = 3 then 101122067 else if decE i.e.df.t l = 2 then 101122066 else 101253168
def wc (its : List Im) (ix sb : Nat) (l : List UInt8) : Nat := match fnd its ix sb with
  | none => noc its ix
  | some i => wcode i l
theorem noc_ne (its : List Im) (ix : Nat) : noc its ix ≠ 0 := by unfold noc; split <;> decide
theorem fnd_mem {its : List Im} {ix sb : Nat} {i : Im} (h : fnd its ix sb = some i) : i ∈ its := List.mem_of_find?_eq_some h
/-- What is told of bytes that would be written. -/
def Wg (its : List Im) (ix sb : Nat) (l : List UInt8) (w : World) (e : Ending) (w' : World) : Prop :=
  ∃ (p : Value) (v : Vl), e = .returned (.tuple #[p, .agg v.arr, .int .u32 (wc its ix sb l)]) ∧ Below w.heap.size w w' ∧ (wc its ix sb l = 0 → ∃ i, fnd its ix sb = some i ∧ p = .pointer (some ⟨i.b, 0, none⟩) ∧ v = decW i.e.df.t l ∧ (i.e.ac = 1 ∨ i.e.ac = 2) ∧ decE i.e.df.t l = 0 ∧ bey i.e (decW i.e.df.t l) = 0)
set_option maxHeartbeats 4000000 in
theorem weigh_none {D R : Nat} {its : List Im} {w : World} (h : Dct D R its w) (ix sb : Nat) (h1 : ix < 65536) (h2 : sb < 256) (vb : Value) (l : List UInt8) (hB : Bytes w vb l) (hf : fnd its ix sb = none) :
    Calls Tryz.prog 128 #[.pointer (some ⟨D, 0, none⟩), .int .u16 ix, .int .u8 sb, vb] w (Wg its ix sb l w) := by
  have fA : Va w.heap.size Vl.nul (w.alloc (.cells #[.int .i64 0, .int .u64 0, .string ⟨#[]⟩] 52)) := Va.new w Vl.nul
  have bA : Below w.heap.size w (w.alloc (.cells #[.int .i64 0, .int .u64 0, .string ⟨#[]⟩] 52)) := (Below.refl _ _).alloc (Nat.le_refl _) _
  have HC := hidOf2 (show wc its ix sb l = noc its ix by unfold wc; rw [hf])
  have HN := hidOf2 (noc_ne its ix)
  have hF := find_none (h.below bA) ix sb h1 h2 hf
  have d1 : ((noc its ix : Int) != 0) = true := by have := noc_ne its ix; simp; omega
  have hx : ∃ ao cap, vb = .slice ao l.length cap := by obtain ⟨ao, cap, h, _⟩ := hB; exact ⟨ao, cap, h⟩
  obtain ⟨ao, cap, rfl⟩ := hx
  clear hB h hf
  generalize noc its ix = C at *
  obtain ⟨q, hq⟩ : ∃ q, w.heap.size = q := ⟨_, rfl⟩
  have s0 := bA.size
  go_enter Tryz.func128, Tryz.ntmps128
  go_upto_region 1 with fail
  generalize w.alloc (.cells #[.int .i64 0, .int .u64 0, .string ⟨#[]⟩] 52) = W at *
  simp only [hq] at fA ⊢
  go_wp2_with fail
  refine hF.mono ?_
  rintro e w1 ⟨rfl, b1⟩
  have f1 := fA.below b1
  have f2 := f1.row Vl.nul
  have B1 := bA.trans (b1.mono s0)
  have B2 : Below w.heap.size w (w1.setRow q Vl.nul.arr) := below_row B1 (by omega) B1.size Vl.nul.arr
  clear fA bA b1 hF
  go_wp2_with (first | (refine f1.sd Vl.nul rfl _ _ rfl rfl rfl ?_))
  exact bodyPost_ret (wg_results f2 _ rfl rfl rfl) rfl ⟨_, _, by rw [HC.out], B2, fun hz => absurd (HC.out ▸ hz) HN.out⟩
set_option maxHeartbeats 8000000 in
theorem weigh_some {D R : Nat} {its : List Im} {w : World} (h : Dct D R its w) (ix sb : Nat) (h1 : ix < 65536) (h2 : sb < 256) (vb : Value) (l : List UInt8) (hB : Bytes w vb l) {i : Im} (hf : fnd its ix sb = some i) :
    Calls Tryz.prog 128 #[.pointer (some ⟨D, 0, none⟩), .int .u16 ix, .int .u8 sb, vb] w (Wg its ix sb l w) := by
  have fA : Va w.heap.size Vl.nul (w.alloc (.cells #[.int .i64 0, .int .u64 0, .string ⟨#[]⟩] 52)) := Va.new w Vl.nul
  have bA : Below w.heap.size w (w.alloc (.cells #[.int .i64 0, .int .u64 0, .string ⟨#[]⟩] 52)) := (Below.refl _ _).alloc (Nat.le_refl _) _
  have HC := hidOf2 (show wc its ix sb l = wcode i l by unfold wc; rw [hf])
  have HCC : Hid (wcode i l = if i.e.ac ≠ 1 ∧ i.e.ac ≠ 2 then 100728834 else if decE i.e.df.t l = 0 then bey i.e (decW i.e.df.t l) else if decE i.e.df.t l = 3 then 101122067 else if decE i.e.df.t l = 2 then 101122066 else 101253168) := rfl
  have hF := find_some (h.below bA) ix sb h1 h2 hf
  unfold ptrI at hF
  have h0 := (h.items i (fnd_mem hf)).below bA
  have BY := hB.below bA
  have HFI := hidOf2 hf
  have hx : ∃ ao cap, vb = .slice ao l.length cap := by obtain ⟨ao, cap, h, _⟩ := hB; exact ⟨ao, cap, h⟩
  obtain ⟨ao, cap, rfl⟩ := hx
  clear hB h hf
  unfold Wg
  rw [HFI.out]
  generalize wc its ix sb l = CC at *
  obtain ⟨q9, hq⟩ : ∃ q, w.heap.size = q := ⟨_, rfl⟩
  have s0 := bA.size
  have hTr := i.e.df.ht
  go_enter Tryz.func128, Tryz.ntmps128
  go_upto_region 1 with fail
  generalize w.alloc (.cells #[.int .i64 0, .int .u64 0, .string ⟨#[]⟩] 52) = W at *
  simp only [hq] at fA ⊢
  go_wp2_with fail
  refine hF.mono ?_
  rintro e w1 ⟨rfl, b1⟩
  have f1 := fA.below b1
  have f2 := f1.row Vl.nul
  have h1 := h0.below b1
  have BY1 := BY.below b1
  have B1 := bA.trans (b1.mono s0)
  have B2 : Below w.heap.size w (w1.setRow q9 Vl.nul.arr) := below_row B1 (by omega) B1.size Vl.nul.arr
  clear fA bA b1 hF BY h0
  obtain ⟨c0, c1, c2, c3, c4, c11⟩ := h1.c
  have H1 := hidOf2 h1
  clear h1 c0 c1 c3 c4
  by_cases hac : i.e.ac ≠ 1 ∧ i.e.ac ≠ 2
  · have d1 : (i.e.ac != 1) = true := by simpa using hac.1
    have d2 : (i.e.ac != 2) = true := by simpa using hac.2
    have e1 := hidOf2 (show CC = 100728834 by rw [HC.out, HCC.out, if_pos hac])
    clear HC HCC
    generalize i.e.ac = A at *
    go_wp2_with (first | (refine f1.sd Vl.nul rfl _ _ rfl rfl rfl ?_))
    exact bodyPost_ret (wg_results f2 _ rfl rfl rfl) rfl ⟨_, _, by rw [e1.out]; rfl, B2, fun hz => absurd (e1.out ▸ hz) (by decide)⟩
  · rw [if_neg hac] at HCC
    have HAC := hidOf2 (show i.e.ac = 1 ∨ i.e.ac = 2 by omega)
    have hD := Decode_v i.e.df.t hTr _ l w1 BY1
    clear hac
    rcases HAC.out with ha | ha
    · rw [ha] at c2
      go_wp2_with fail
      refine hD.mono ?_
      rintro e w2 ⟨rfl, b2⟩
      have B2 := B1.trans (b2.mono B1.size)
      have f3 := f1.below b2
      have h3 := H1.out.below b2
      obtain ⟨q13, hq13⟩ : ∃ q, w2.heap.size = q := ⟨_, rfl⟩
      have g0 : Va q13 Vl.nul (w2.alloc (.cells #[.int .i64 0, .int .u64 0, .string ⟨#[]⟩] 52)) := hq13 ▸ Va.new w2 Vl.nul
      have g1 := g0.row (decW i.e.df.t l)
      have hlt9 : q9 < q13 := by have := f3.lt; omega
      have hlti : i.b < q13 := by have := h3.lt; omega
      have f4 : Va q9 Vl.nul ((w2.alloc (.cells #[.int .i64 0, .int .u64 0, .string ⟨#[]⟩] 52)).setRow q13 (decW i.e.df.t l).arr) := (setRow_other _ q13 q9 _ (by omega)).trans (f3.alloc _)
      have h4 : Ib i.b i.e i.v ((w2.alloc (.cells #[.int .i64 0, .int .u64 0, .string ⟨#[]⟩] 52)).setRow q13 (decW i.e.df.t l).arr) := (h3.same (Lib.alloc_old w2 _ i.b h3.lt)).same (setRow_other _ q13 i.b _ (by omega))
      have BA3 := B2.alloc B2.size (.cells #[.int .i64 0, .int .u64 0, .string ⟨#[]⟩] 52)
      have B3 := below_row BA3 (by have := B2.size; omega) BA3.size (q := q13) (decW i.e.df.t l).arr
      clear hD f1 f2 H1 BY1 B1 b2 f3 h3 c2 c11 BA3 B2
      go_upto_region 7 with (first | (refine g0.sd (decW i.e.df.t l) rfl _ _ rfl rfl rfl ?_))
      generalize ((w2.alloc (.cells #[.int .i64 0, .int .u64 0, .string ⟨#[]⟩] 52)).setRow q13 (decW i.e.df.t l).arr) = w3 at *
      clear g0 hq13
      have f5 := f4.row Vl.nul
      have B5 : Below w.heap.size w (w3.setRow q9 Vl.nul.arr) := below_row B3 (by omega) B3.size Vl.nul.arr
      by_cases hE0 : decE i.e.df.t l = 0
      · have HDE := hidOf2 hE0
        have HC9 := hidOf2 (show CC = bey i.e (decW i.e.df.t l) by rw [HC.out, HCC.out, if_pos hE0])
        rw [hE0]
        have hBY : Hid (∀ x, Ib i.b i.e i.v x → Calls Tryz.prog 135 #[.pointer (some ⟨i.b, 0, none⟩), .agg (decW i.e.df.t l).arr] x fun y w' => y = .returned (.int .u32 (bey i.e (decW i.e.df.t l))) ∧ Below x.heap.size x w') := fun x hx => beyond_any hx _
        have HZ := hidOf2 f4
        have HB3 := hidOf2 B3
        have D3 : Ib i.b i.e i.v w3.drew := h4
        have S3 : Va q13 (decW i.e.df.t l) w3.drew := g1
        clear f4 B3 f5 B5 HC HCC hE0 h4 g1
        go_upto_region 9 with fail
        refine wp_region_held (S := Va q13 (decW i.e.df.t l)) (by kernel_rfl) ?_
        change wpAnyH _ _ _ _ _ _ _ _ w3.drew
        refine tk 0 (.pointer (some ⟨i.b, 0, none⟩)) rfl (by kernel_rfl) (fun _ _ _ h => h) rfl (fun _ hS => rfl) S3 ?_
        simp only [zzA, zzB, zzC, Act.put, zzD, zzE, zzF]
        refine tk 1 (.agg (decW i.e.df.t l).arr) rfl (by kernel_rfl) (fun _ _ _ h => h) rfl (fun _ hS => exec_load rfl rfl hS.load) S3 ?_
        simp only [zzA, zzB, zzC, Act.put, zzD, zzE, zzF]
        refine tk 2 (.pointer (some ⟨i.b, 0, none⟩)) rfl (by kernel_rfl) (fun _ _ _ h => h) rfl (fun _ hS => rfl) S3 ?_
        simp only [zzA, zzB, zzC, Act.put, zzD, zzE, zzF]
        refine tk 3 (.agg (decW i.e.df.t l).arr) rfl (by kernel_rfl) (fun _ _ _ h => h) rfl (fun _ hS => exec_load rfl rfl hS.load) S3 ?_
        simp only [zzA, zzB, zzC, Act.put, zzD, zzE, zzF]
        refine wpAnyH_all (rs := [4]) (by kernel_rfl) (by simp) ?_
        intro k hk
        simp only [List.mem_cons, List.mem_nil_iff, or_false] at hk
        subst hk
        refine wpOp_run rfl rfl (wp_call_fn 135 #[.pointer (some ⟨i.b, 0, none⟩), .agg (decW i.e.df.t l).arr] (by simp [execOp, go_sem, Act.eval, resolve, invoke, enterBy]) ?_)
        refine (hBY.out w3.drew D3).mono ?_
        rintro e w4 ⟨rfl, b4⟩
        have s4 : Va q13 (decW i.e.df.t l) w4 := S3.below b4
        refine ⟨s4, ?_⟩
        simp only [zzA, zzB, zzC, Act.put, zzD, zzE, zzF]
        refine tk 5 (.pointer (some ⟨i.b, 0, none⟩)) rfl (by kernel_rfl) (fun _ _ _ h => h) rfl (fun _ hS => rfl) s4 ?_
        simp only [zzA, zzB, zzC, Act.put, zzD, zzE, zzF]
        refine wpAnyH_all (rs := [6]) (by kernel_rfl) (by simp) ?_
        intro k hk
        simp only [List.mem_cons, List.mem_nil_iff, or_false] at hk
        subst hk
        have z4 : Va q9 Vl.nul w4 := (HZ.out.below (bdrw b4))
        refine wpOp_run rfl rfl (wp_store_row 52 _ _ rfl q9 (decW i.e.df.t l).arr rfl rfl 52 Vl.nul.arr z4 (by rw [Vl.arr_size]; exact infoV) (by rw [Vl.arr_size, Vl.arr_size]) (decW i.e.df.t l).one ?_)
        have s5 : Va q13 (decW i.e.df.t l) (w4.setRow q9 (decW i.e.df.t l).arr) := (setRow_other w4 q9 q13 _ (by omega)).trans s4
        refine ⟨s5, ?_⟩
        simp only [zzA, zzB, zzC, Act.put, zzD, zzE, zzF]
        refine tk 7 (.int .u32 (bey i.e (decW i.e.df.t l))) rfl (by kernel_rfl) (fun _ _ _ h => h) rfl (fun _ hS => rfl) s5 ?_
        simp only [zzA, zzB, zzC, Act.put, zzD, zzE, zzF]
        refine wpAnyH_done (by kernel_rfl) ?_ _
        have V5 : Va q9 (decW i.e.df.t l) (w4.setRow q9 (decW i.e.df.t l).arr) := z4.row _
        have B5 : Below w.heap.size w (w4.setRow q9 (decW i.e.df.t l).arr) := below_row (HB3.out.trans ((bdrw b4).mono HB3.out.size)) (by omega) (Nat.le_trans HB3.out.size (bdrw b4).size) _
        clear hBY HZ s5 s4 z4 b4 HB3
        generalize (w4.setRow q9 (decW i.e.df.t l).arr) = w5 at *
        go_wp2
        exact bodyPost_ret (wg_results V5 _ rfl rfl rfl) rfl ⟨_, _, by rw [HC9.out]; rfl, B5, fun hz => ⟨i, rfl, rfl, rfl, HAC.out, HDE.out, HC9.out ▸ hz⟩⟩
      · rw [if_neg hE0] at HCC
        have d0 : ((decE i.e.df.t l : Int) == 0) = false := by simpa using hE0
        by_cases hE3 : decE i.e.df.t l = 3
        · have e1 := hidOf2 (show CC = 101122067 by rw [HC.out, HCC.out, if_pos hE3])
          rw [hE3]
          clear HC HCC d0 hE3
          go_wp2_with (first | (refine f4.sd Vl.nul rfl _ _ rfl rfl rfl ?_))
          exact bodyPost_ret (wg_results f5 _ rfl rfl rfl) rfl ⟨_, _, by rw [e1.out]; rfl, B5, fun hz => absurd (e1.out ▸ hz) (by decide)⟩
        · have d3 : ((decE i.e.df.t l : Int) == 3) = false := by simp; omega
          rw [if_neg hE3] at HCC
          by_cases hE2 : decE i.e.df.t l = 2
          · have e1 := hidOf2 (show CC = 101122066 by rw [HC.out, HCC.out, if_pos hE2])
            rw [hE2]
            clear HC HCC d0 hE3 d3 hE2
            go_wp2_with (first | (refine f4.sd Vl.nul rfl _ _ rfl rfl rfl ?_))
            exact bodyPost_ret (wg_results f5 _ rfl rfl rfl) rfl ⟨_, _, by rw [e1.out]; rfl, B5, fun hz => absurd (e1.out ▸ hz) (by decide)⟩
          · have d2 : ((decE i.e.df.t l : Int) == 2) = false := by simp; omega
            have e1 := hidOf2 (show CC = 101253168 by rw [HC.out, HCC.out, if_neg hE2])
            clear HC HCC hE3 hE2 hE0
            generalize decE i.e.df.t l = E at *
            go_wp2_with (first | (refine f4.sd Vl.nul rfl _ _ rfl rfl rfl ?_))
            exact bodyPost_ret (wg_results f5 _ rfl rfl rfl) rfl ⟨_, _, by rw [e1.out]; rfl, B5, fun hz => absurd (e1.out ▸ hz) (by decide)⟩
    · rw [ha] at c2
      go_wp2_with fail
      refine hD.mono ?_
      rintro e w2 ⟨rfl, b2⟩
      have B2 := B1.trans (b2.mono B1.size)
      have f3 := f1.below b2
      have h3 := H1.out.below b2
      obtain ⟨q13, hq13⟩ : ∃ q, w2.heap.size = q := ⟨_, rfl⟩
      have g0 : Va q13 Vl.nul (w2.alloc (.cells #[.int .i64 0, .int .u64 0, .string ⟨#[]⟩] 52)) := hq13 ▸ Va.new w2 Vl.nul
      have g1 := g0.row (decW i.e.df.t l)
      have hlt9 : q9 < q13 := by have := f3.lt; omega
      have hlti : i.b < q13 := by have := h3.lt; omega
      have f4 : Va q9 Vl.nul ((w2.alloc (.cells #[.int .i64 0, .int .u64 0, .string ⟨#[]⟩] 52)).setRow q13 (decW i.e.df.t l).arr) := (setRow_other _ q13 q9 _ (by omega)).trans (f3.alloc _)
      have h4 : Ib i.b i.e i.v ((w2.alloc (.cells #[.int .i64 0, .int .u64 0, .string ⟨#[]⟩] 52)).setRow q13 (decW i.e.df.t l).arr) := (h3.same (Lib.alloc_old w2 _ i.b h3.lt)).same (setRow_other _ q13 i.b _ (by omega))
      have BA3 := B2.alloc B2.size (.cells #[.int .i64 0, .int .u64 0, .string ⟨#[]⟩] 52)
      have B3 := below_row BA3 (by have := B2.size; omega) BA3.size (q := q13) (decW i.e.df.t l).arr
      clear hD f1 f2 H1 BY1 B1 b2 f3 h3 c2 c11 BA3 B2
      go_upto_region 7 with (first | (refine g0.sd (decW i.e.df.t l) rfl _ _ rfl rfl rfl ?_))
      generalize ((w2.alloc (.cells #[.int .i64 0, .int .u64 0, .string ⟨#[]⟩] 52)).setRow q13 (decW i.e.df.t l).arr) = w3 at *
      clear g0 hq13
      have f5 := f4.row Vl.nul
      have B5 : Below w.heap.size w (w3.setRow q9 Vl.nul.arr) := below_row B3 (by omega) B3.size Vl.nul.arr
      by_cases hE0 : decE i.e.df.t l = 0
      · have HDE := hidOf2 hE0
        have HC9 := hidOf2 (show CC = bey i.e (decW i.e.df.t l) by rw [HC.out, HCC.out, if_pos hE0])
        rw [hE0]
        have hBY : Hid (∀ x, Ib i.b i.e i.v x → Calls Tryz.prog 135 #[.pointer (some ⟨i.b, 0, none⟩), .agg (decW i.e.df.t l).arr] x fun y w' => y = .returned (.int .u32 (bey i.e (decW i.e.df.t l))) ∧ Below x.heap.size x w') := fun x hx => beyond_any hx _
        have HZ := hidOf2 f4
        have HB3 := hidOf2 B3
        have D3 : Ib i.b i.e i.v w3.drew := h4
        have S3 : Va q13 (decW i.e.df.t l) w3.drew := g1
        clear f4 B3 f5 B5 HC HCC hE0 h4 g1
        go_upto_region 9 with fail
        refine wp_region_held (S := Va q13 (decW i.e.df.t l)) (by kernel_rfl) ?_
        change wpAnyH _ _ _ _ _ _ _ _ w3.drew
        refine tk 0 (.pointer (some ⟨i.b, 0, none⟩)) rfl (by kernel_rfl) (fun _ _ _ h => h) rfl (fun _ hS => rfl) S3 ?_
        simp only [zzA, zzB, zzC, Act.put, zzD, zzE, zzF]
        refine tk 1 (.agg (decW i.e.df.t l).arr) rfl (by kernel_rfl) (fun _ _ _ h => h) rfl (fun _ hS => exec_load rfl rfl hS.load) S3 ?_
        simp only [zzA, zzB, zzC, Act.put, zzD, zzE, zzF]
        refine tk 2 (.pointer (some ⟨i.b, 0, none⟩)) rfl (by kernel_rfl) (fun _ _ _ h => h) rfl (fun _ hS => rfl) S3 ?_
        simp only [zzA, zzB, zzC, Act.put, zzD, zzE, zzF]
        refine tk 3 (.agg (decW i.e.df.t l).arr) rfl (by kernel_rfl) (fun _ _ _ h => h) rfl (fun _ hS => exec_load rfl rfl hS.load) S3 ?_
        simp only [zzA, zzB, zzC, Act.put, zzD, zzE, zzF]
        refine wpAnyH_all (rs := [4]) (by kernel_rfl) (by simp) ?_
        intro k hk
        simp only [List.mem_cons, List.mem_nil_iff, or_false] at hk
        subst hk
        refine wpOp_run rfl rfl (wp_call_fn 135 #[.pointer (some ⟨i.b, 0, none⟩), .agg (decW i.e.df.t l).arr] (by simp [execOp, go_sem, Act.eval, resolve, invoke, enterBy]) ?_)
        refine (hBY.out w3.drew D3).mono ?_
        rintro e w4 ⟨rfl, b4⟩
        have s4 : Va q13 (decW i.e.df.t l) w4 := S3.below b4
        refine ⟨s4, ?_⟩
        simp only [zzA, zzB, zzC, Act.put, zzD, zzE, zzF]
        refine tk 5 (.pointer (some ⟨i.b, 0, none⟩)) rfl (by kernel_rfl) (fun _ _ _ h => h) rfl (fun _ hS => rfl) s4 ?_
        simp only [zzA, zzB, zzC, Act.put, zzD, zzE, zzF]
        refine wpAnyH_all (rs := [6]) (by kernel_rfl) (by simp) ?_
        intro k hk
        simp only [List.mem_cons, List.mem_nil_iff, or_false] at hk
        subst hk
        have z4 : Va q9 Vl.nul w4 := (HZ.out.below (bdrw b4))
        refine wpOp_run rfl rfl (wp_store_row 52 _ _ rfl q9 (decW i.e.df.t l).arr rfl rfl 52 Vl.nul.arr z4 (by rw [Vl.arr_size]; exact infoV) (by rw [Vl.arr_size, Vl.arr_size]) (decW i.e.df.t l).one ?_)
        have s5 : Va q13 (decW i.e.df.t l) (w4.setRow q9 (decW i.e.df.t l).arr) := (setRow_other w4 q9 q13 _ (by omega)).trans s4
        refine ⟨s5, ?_⟩
        simp only [zzA, zzB, zzC, Act.put, zzD, zzE, zzF]
        refine tk 7 (.int .u32 (bey i.e (decW i.e.df.t l))) rfl (by kernel_rfl) (fun _ _ _ h => h) rfl (fun _ hS => rfl) s5 ?_
        simp only [zzA, zzB, zzC, Act.put, zzD, zzE, zzF]
        refine wpAnyH_done (by kernel_rfl) ?_ _
        have V5 : Va q9 (decW i.e.df.t l) (w4.setRow q9 (decW i.e.df.t l).arr) := z4.row _
        have B5 : Below w.heap.size w (w4.setRow q9 (decW i.e.df.t l).arr) := below_row (HB3.out.trans ((bdrw b4).mono HB3.out.size)) (by omega) (Nat.le_trans HB3.out.size (bdrw b4).size) _
        clear hBY HZ s5 s4 z4 b4 HB3
        generalize (w4.setRow q9 (decW i.e.df.t l).arr) = w5 at *
        go_wp2
        exact bodyPost_ret (wg_results V5 _ rfl rfl rfl) rfl ⟨_, _, by rw [HC9.out]; rfl, B5, fun hz => ⟨i, rfl, rfl, rfl, HAC.out, HDE.out, HC9.out ▸ hz⟩⟩
      · rw [if_neg hE0] at HCC
        have d0 : ((decE i.e.df.t l : Int) == 0) = false := by simpa using hE0
        by_cases hE3 : decE i.e.df.t l = 3
        · have e1 := hidOf2 (show CC = 101122067 by rw [HC.out, HCC.out, if_pos hE3])
          rw [hE3]
          clear HC HCC d0 hE3
          go_wp2_with (first | (refine f4.sd Vl.nul rfl _ _ rfl rfl rfl ?_))
          exact bodyPost_ret (wg_results f5 _ rfl rfl rfl) rfl ⟨_, _, by rw [e1.out]; rfl, B5, fun hz => absurd (e1.out ▸ hz) (by decide)⟩
        · have d3 : ((decE i.e.df.t l : Int) == 3) = false := by simp; omega
          rw [if_neg hE3] at HCC
          by_cases hE2 : decE i.e.df.t l = 2
          · have e1 := hidOf2 (show CC = 101122066 by rw [HC.out, HCC.out, if_pos hE2])
            rw [hE2]
            clear HC HCC d0 hE3 d3 hE2
            go_wp2_with (first | (refine f4.sd Vl.nul rfl _ _ rfl rfl rfl ?_))
            exact bodyPost_ret (wg_results f5 _ rfl rfl rfl) rfl ⟨_, _, by rw [e1.out]; rfl, B5, fun hz => absurd (e1.out ▸ hz) (by decide)⟩
          · have d2 : ((decE i.e.df.t l : Int) == 2) = false := by simp; omega
            have e1 := hidOf2 (show CC = 101253168 by rw [HC.out, HCC.out, if_neg hE2])
            clear HC HCC hE3 hE2 hE0
            generalize decE i.e.df.t l = E at *
            go_wp2_with (first | (refine f4.sd Vl.nul rfl _ _ rfl rfl rfl ?_))
            exact bodyPost_ret (wg_results f5 _ rfl rfl rfl) rfl ⟨_, _, by rw [e1.out]; rfl, B5, fun hz => absurd (e1.out ▸ hz) (by decide)⟩
end Go.Proofs.YtahfnknbmikmkaaGreat
namespace Go.Proofs.YtahfnknbmikmkaaGreat
open Go.RowKit Go.Proofs.Ty Go.Sort Go.Lib
set_option linter.unusedVariables false
set_option maxRecDepth 1000000
set_option linter.unusedSimpArgs false
/-- Only these blocks, of those that were there, may be others now. -/
structure Kp (bs : List Nat) (w x : World) : Prop where
  os : x.os = w.os
  tape : x.tape = w.tape
  output : x.output = w.output
  size : w.heap.size ≤ x.heap.size
  block : ∀ k, k < w.heap.size → k ∉ bs → x.heap[k]? = w.heap[k]?
theorem Kp.refl (bs : List Nat) (w : World) : Kp bs w w := ⟨rfl, rfl, rfl, Nat.le_refl _, fun _ _ _ => rfl⟩
theorem Kp.trans {bs : List Nat} {w x y : World} (h : Kp bs w x) (g : Kp bs x y) : Kp bs w y :=
  ⟨g.os.trans h.os, g.tape.trans h.tape, g.output.trans h.output, Nat.le_trans h.size g.size, fun k hk hn => (g.block k (Nat.lt_of_lt_of_le hk h.size) hn).trans (h.block k hk hn)⟩
theorem Kp.of_below {bs : List Nat} {w x : World} (h : Below w.heap.size w x) : Kp bs w x := ⟨h.os, h.tape, h.output, h.size, fun k hk _ => h.block k hk⟩
theorem Kp.below {bs : List Nat} {a w x : World} {B : Nat} (h : Kp bs w x) (hb : Below B a w) (hB : B ≤ w.heap.size) (hl : ∀ b ∈ bs, B ≤ b) : Below B a x :=
  ⟨h.os.trans hb.os, h.tape.trans hb.tape, h.output.trans hb.output, Nat.le_trans hb.size h.size, fun k hk => (h.block k (by omega) (fun hm => by have := hl k hm; omega)).trans (hb.block k hk)⟩
theorem Kp.wide {bs : List Nat} {w x : World} {c : Nat} {α : Type} {dec : α → List Value} {v : Value} {l : List α} (h : Kp bs w x) (hW : Wide c dec w v l) (hn : ∀ b, v.ownBlock = some b → b ∉ bs) : Wide c dec x v l :=
  hW.same h.size (fun b hb hl => h.block b hl (hn b hb))
/-- The items, that at b having another value. -/
def setV (its : List Im) (b : Nat) (v : Vl) : List Im := its.map (fun x => if x.b = b then ⟨x.b, x.e, v⟩ else x)
theorem setV_len (its : List Im) (b : Nat) (v : Vl) : (setV its b v).length = its.length := List.length_map _
theorem setV_b (its : List Im) (b : Nat) (v : Vl) : (setV its b v).map Im.b = its.map Im.b := by
  unfold setV
  rw [List.map_map]
  apply List.map_congr_left
  intro x _
  simp only [Function.comp]
  split <;> rfl
theorem setV_e (its : List Im) (b : Nat) (v : Vl) : (setV its b v).map Im.e = its.map Im.e := by
  unfold setV
  rw [List.map_map]
  apply List.map_congr_left
  intro x _
  simp only [Function.comp]
  split <;> rfl
theorem ptrs_b (a b : List Im) (h : a.map Im.b = b.map Im.b) : ptrs a = ptrs b := by
  have : ∀ l : List Im, ptrs l = (l.map Im.b).map ptrI := fun l => by unfold ptrs; rw [List.map_map]; rfl
  rw [this, this, h]
theorem Dct.set {D R : Nat} {its : List Im} {w : World} (h : Dct D R its w) {i : Im} (hi : i ∈ its) (v : Vl) : Dct D R (setV its i.b v) (w.setCells i.b 14 (vlC v)) := by
  refine ⟨?_, ?_, ?_, by rw [setV_b]; exact h.apart, ?_, by rw [setV_len]; exact h.len⟩
  · rw [setCells_heap _ _ _ _ _ (fun e => (h.ne i hi).2 e.symm), setV_len]; exact h.head
  · rw [setCells_heap _ _ _ _ _ (fun e => (h.ne i hi).1 e.symm), ptrs_b _ _ (setV_b its i.b v)]; exact h.row
  · intro x hx
    obtain ⟨y, hy, rfl⟩ := List.mem_map.1 hx
    by_cases e : y.b = i.b
    · rw [if_pos e]
      show Ib y.b y.e v _
      rw [← e]
      exact (h.items y hy).set v
    · rw [if_neg e]
      exact (h.items y hy).same (setCells_heap w i.b 14 _ y.b e)
  · have hs := h.sorted
    have : (its.map Im.e).Pairwise (fun a b => a.pl < b.pl) := List.pairwise_map.2 hs
    rw [← setV_e its i.b v] at this
    exact (List.pairwise_map (f := Im.e) (R := fun a b : En => a.pl < b.pl)).1 this
theorem Kp.set {w : World} {bs : List Nat} {b : Nat} (hb : b ∈ bs) (o : Nat) (cs : List Value) : Kp bs w (w.setCells b o cs) := by
  have h := setCells_kept w b o cs
  exact ⟨h.os, h.tape, h.output, h.size, fun k hk hn => setCells_heap w b o cs k (fun e => hn (e ▸ hb))⟩
/-- The items behind a Write. -/
def wrt (its : List Im) (ix sb : Nat) (l : List UInt8) : List Im := if wc its ix sb l = 0 then (match fnd its ix sb with
  | none => its
  | some i => setV its i.b (decW i.e.df.t l)) else its
theorem Va.store {q : Nat} {v : Vl} {w : World} (h : Va q v w) (u : Vl) : w.there q 0 3 := fun j hj => ⟨by
  rw [Lib.cell_of_heap h]
  match j, hj with
  | 0, _ => rfl
  | 1, _ => rfl
  | 2, _ => rfl, h.frozen _⟩
theorem weigh_any {D R : Nat} {its : List Im} {w : World} (h : Dct D R its w) (ix sb : Nat) (h1 : ix < 65536) (h2 : sb < 256) (vb : Value) (l : List UInt8) (hB : Bytes w vb l) :
    Calls Tryz.prog 128 #[.pointer (some ⟨D, 0, none⟩), .int .u16 ix, .int .u8 sb, vb] w (Wg its ix sb l w) := by
  cases hf : fnd its ix sb with
  | none => exact weigh_none h ix sb h1 h2 vb l hB hf
  | some i => exact weigh_some h ix sb h1 h2 vb l hB hf
set_option maxHeartbeats 4000000 in
theorem Write_any {D R : Nat} {its : List Im} {w : World} (h : Dct D R its w) (ix sb : Nat) (h1 : ix < 65536) (h2 : sb < 256) (vb : Value) (l : List UInt8) (hB : Bytes w vb l) :
    Calls Tryz.prog 109 #[.pointer (some ⟨D, 0, none⟩), .int .u16 ix, .int .u8 sb, vb] w fun e w' => e = .returned (.int .u32 (wc its ix sb l)) ∧ Dct D R (wrt its ix sb l) w' ∧ Kp (its.map Im.b) w w' := by
  have hG := weigh_any h ix sb h1 h2 vb l hB
  have HD := hidOf2 h
  have hx : ∃ ao cap, vb = .slice ao l.length cap := by obtain ⟨ao, cap, h, _⟩ := hB; exact ⟨ao, cap, h⟩
  obtain ⟨ao, cap, rfl⟩ := hx
  clear h hB
  unfold Wg at hG
  have HW : Hid (wrt its ix sb l = if wc its ix sb l = 0 then (match fnd its ix sb with
    | none => its
    | some i => setV its i.b (decW i.e.df.t l)) else its) := rfl
  generalize wrt its ix sb l = ws at *
  generalize wc its ix sb l = C at *
  go_enter Tryz.func109, Tryz.ntmps109
  go_wp2_with fail
  refine hG.mono ?_
  rintro e w1 ⟨p, v, rfl, b1, hz⟩
  have HZ := hidOf2 hz
  clear hz hG
  obtain ⟨q, hq⟩ : ∃ q, w1.heap.size = q := ⟨_, rfl⟩
  have g0 : Va q Vl.nul (w1.alloc (.cells #[.int .i64 0, .int .u64 0, .string ⟨#[]⟩] 52)) := hq ▸ Va.new w1 Vl.nul
  have g1 := g0.row v
  have BA := b1.alloc b1.size (.cells #[.int .i64 0, .int .u64 0, .string ⟨#[]⟩] 52)
  have B2 := below_row BA (by have := b1.size; omega) BA.size (q := q) v.arr
  by_cases hc : C = 0
  · obtain ⟨i, hf, rfl, rfl, _⟩ := HZ.out hc
    subst hc
    rw [if_pos rfl, hf] at HW
    have hi := fnd_mem hf
    have D2 := HD.out.below B2
    go_upto_region 3 with (first | (refine g0.sd (decW i.e.df.t l) rfl _ _ rfl rfl rfl ?_))
    generalize ((w1.alloc (.cells #[.int .i64 0, .int .u64 0, .string ⟨#[]⟩] 52)).setRow q (decW i.e.df.t l).arr) = w2 at *
    have hI := D2.items i hi
    have ht := hI.there
    have D3 := hidOf2 (D2.set hi (decW i.e.df.t l))
    have K3 := hidOf2 ((Kp.of_below (bs := its.map Im.b) B2).trans (Kp.set (List.mem_map.2 ⟨i, hi, rfl⟩) 14 (vlC (decW i.e.df.t l))))
    clear HD HZ hf g0 BA b1 D2 hI hi
    go_wp2_with (first | (refine g1.ld rfl _ rfl rfl ?_) | (refine sdV ht (decW i.e.df.t l) rfl _ _ rfl rfl rfl ?_))
    go_ret
    exact ⟨rfl, by rw [HW.out]; exact D3.out, K3.out⟩
  · have d1 : ((C : Int) == 0) = false := by simpa using hc
    rw [if_neg hc] at HW
    have D2 := hidOf2 (HD.out.below B2)
    have K2 := hidOf2 (Kp.of_below (bs := its.map Im.b) B2)
    clear HZ HD BA b1 B2
    go_wp2_with (first | (refine g0.sd v rfl _ _ rfl rfl rfl ?_))
    go_ret
    exact ⟨rfl, by rw [HW.out]; exact D2.out, K2.out⟩
theorem get_results {Q : Nat} {v : Vl} {c : Int} {w : World} (h : Va Q v w) (tmps : Array Value) (h6 : tmps[6]?.getD undef = .pointer (some ⟨Q, 0, none⟩)) (h7 : tmps[7]?.getD undef = .int .i64 c) :
    (results Tryz.f24 tmps).run Tryz.prog w = .ok (.tuple #[.agg v.arr, .int .i64 c]) w := by
  have l0 := h.load
  simp [Go.results, Tryz.results24, h6, h7, asAddr, l0]
/-- What Get tells. -/
def getV (its : List Im) (ix sb : Nat) : Vl := match fnd its ix sb with
  | none => Vl.nul
  | some i => i.v
def getE (its : List Im) (ix sb : Nat) : Nat := match fnd its ix sb with
  | none => 4
  | some i => 0
set_option maxHeartbeats 4000000 in
theorem Get_any {D R : Nat} {its : List Im} {w : World} (h : Dct D R its w) (ix sb : Nat) (h1 : ix < 65536) (h2 : sb < 256) :
    Calls Tryz.prog 24 #[.pointer (some ⟨D, 0, none⟩), .int .u16 ix, .int .u8 sb] w fun e w' => e = .returned (.tuple #[.agg (getV its ix sb).arr, .int .i64 (getE its ix sb)]) ∧ Below w.heap.size w w' := by
  have bA : Below w.heap.size w (w.alloc (.cells #[.int .i64 0, .int .u64 0, .string ⟨#[]⟩] 52)) := (Below.refl _ _).alloc (Nat.le_refl _) _
  have h0 := h.below bA
  have s0 := bA.size
  obtain ⟨q, hq⟩ : ∃ q, w.heap.size = q := ⟨_, rfl⟩
  have fA : Va q Vl.nul (w.alloc (.cells #[.int .i64 0, .int .u64 0, .string ⟨#[]⟩] 52)) := hq ▸ Va.new w Vl.nul
  have HV : Hid (getV its ix sb = match fnd its ix sb with
    | none => Vl.nul
    | some i => i.v) := rfl
  have HE : Hid (getE its ix sb = match fnd its ix sb with
    | none => 4
    | some i => 0) := rfl
  generalize getV its ix sb = V at *
  generalize getE its ix sb = E at *
  cases hf : fnd its ix sb with
  | none =>
    rw [hf] at HV HE
    have hF := find_none h0 ix sb h1 h2 hf
    have d1 : ((noc its ix : Int) != 0) = true := by have := noc_ne its ix; simp; omega
    generalize noc its ix = C at *
    clear h h0 hf
    go_enter Tryz.func24, Tryz.ntmps24
    go_upto_region 1 with fail
    generalize (w.alloc (.cells #[.int .i64 0, .int .u64 0, .string ⟨#[]⟩] 52)) = W at *
    try simp only [hq]
    go_wp2_with fail
    refine hF.mono ?_
    rintro e w1 ⟨rfl, b1⟩
    have f1 := fA.below b1
    have f2 := f1.row Vl.nul
    have B1 := bA.trans (b1.mono s0)
    have B2 : Below w.heap.size w (w1.setRow q Vl.nul.arr) := below_row B1 (by omega) B1.size Vl.nul.arr
    clear hF fA bA b1 B1
    go_wp2_with (first | (refine f1.sd Vl.nul rfl _ _ rfl rfl rfl ?_))
    exact bodyPost_ret (get_results f2 _ rfl rfl) rfl ⟨by rw [HV.out, HE.out]; rfl, by first | exact B2 | (rw [← hq]; exact B2)⟩
  | some i =>
    rw [hf] at HV HE
    have hF := find_some h0 ix sb h1 h2 hf
    have hI := h0.items i (fnd_mem hf)
    unfold ptrI at hF
    clear h h0 hf
    go_enter Tryz.func24, Tryz.ntmps24
    go_upto_region 1 with fail
    generalize (w.alloc (.cells #[.int .i64 0, .int .u64 0, .string ⟨#[]⟩] 52)) = W at *
    try simp only [hq]
    go_wp2_with fail
    refine hF.mono ?_
    rintro e w1 ⟨rfl, b1⟩
    have f1 := fA.below b1
    have f2 := f1.row i.v
    have r1 := (hI.below b1).r14
    have B1 := bA.trans (b1.mono s0)
    have B2 : Below w.heap.size w (w1.setRow q i.v.arr) := below_row B1 (by omega) B1.size i.v.arr
    clear hF fA bA b1 B1 hI
    go_wp2_with (first | (refine ldV r1 rfl _ rfl rfl ?_) | (refine f1.sd i.v rfl _ _ rfl rfl rfl ?_))
    exact bodyPost_ret (get_results f2 _ rfl rfl) rfl ⟨by rw [HV.out, HE.out]; rfl, by first | exact B2 | (rw [← hq]; exact B2)⟩
end Go.Proofs.YtahfnknbmikmkaaGreat
namespace Go.Proofs.YtahfnknbmikmkaaGreat
open Go.RowKit Go.Proofs.Ty Go.Sort Go.Lib
set_option linter.unusedVariables false
set_option maxRecDepth 1000000
set_option linter.unusedSimpArgs false
theorem bytes_shape {w : World} {v : Value} {l : List UInt8} (h : Bytes w v l) : ∃ ao cap, v = .slice ao l.length cap := by obtain ⟨ao, cap, h, _⟩ := h; exact ⟨ao, cap, h⟩
/-- What Read tells. -/
def rdC (its : List Im) (ix sb : Nat) : Nat := match fnd its ix sb with
  | none => noc its ix
  | some i => if i.e.ac = 1 then 100728833 else 0
def rdL (its : List Im) (ix sb : Nat) : List UInt8 := match fnd its ix sb with
  | none => []
  | some i => if i.e.ac = 1 then [] else i.v.enc
theorem bytes_nil (w : World) : Bytes w (.slice none 0 0) [] := ⟨none, 0, rfl, fun _ => ⟨rfl, rfl⟩, fun k hk => by simp at hk⟩
end Go.Proofs.YtahfnknbmikmkaaGreat
namespace Go.Proofs.YtahfnknbmikmkaaGreat
open Go.RowKit Go.Proofs.Ty
set_option linter.unusedVariables false
set_option maxRecDepth 1000000
end Go.Proofs.YtahfnknbmikmkaaGreat
namespace Go.Proofs.YtahfnknbmikmkaaGreat
open Go.RowKit Go.Proofs.Ty
set_option linter.unusedVariables false
set_option maxRecDepth 1000000
theorem own_base {w : World} {B : Nat} {e : TypeId} {c n : Nat} {v : Value} {xs : List Value} (h : w.ownsRow B e c v n xs) {g : Nat} (hg : v.ownBlock = some g) : B ≤ g := by
  rcases h.2 with ⟨rfl, _⟩ | ⟨g', cap, cur, rfl, hB, hcur, _⟩
  · cases hg
  · cases hg; exact hB
theorem run_append_own2 {P : Program} (w : World) (base : Nat) (t ty e : TypeId) (i : TypeInfo) (z : Value) (size bytes : Nat) (ht : P.underlying t = some (.slice e)) (hi : P.info? e = some i) (hz : i.zero = some z)
    (hsize : i.size = size) (hby : i.bytes = bytes) (hzs : z.cells.size = size) (hsz : 0 < size)
    (v : Value) (n : Nat) (xs : List Value) (hown : w.ownsRow base e size v n xs)
    (a : Addr) (m c : Nat) (news : List Value) (hl : news.length = m * size) (hnews : ∀ j u, news[j]? = some u → w.cell? (a.add j) = some u) (h1 : ∀ u ∈ news, u.oneCell' = true)
    (h63 : n + m ≤ maxLen) (hbytes : (n + m) * bytes ≤ 140737488355328) (hbase : base ≤ w.heap.size) :
    ∃ v' w', (Builtin.append_ #[t, t] ty #[v, .slice (some a) m c]).run P w = .ok v' w' ∧ w'.ownsRow base e size v' (n + m) (xs ++ news) ∧ w.grownBy w' v.ownBlock ∧
      (v' = .slice none 0 0 ↔ v = .slice none 0 0 ∧ m = 0) ∧ ∀ k, k < w.heap.size → v'.ownBlock = some k → v.ownBlock = some k := by
  obtain ⟨v', w', hr, h2, h3, h4⟩ := run_append_own (P := P) w base t ty e i z size bytes ht hi hz hsize hby hzs hsz v n xs hown a m c news hl hnews h1 h63 hbytes hbase
  refine ⟨v', w', hr, h2, h3, h4, fun k hk hv => ?_⟩
  subst hsize hby
  rcases hown.2 with ⟨rfl, rfl⟩ | ⟨g, cap, cur, rfl, hbg, hg, hnc, hcm, hcs, htake⟩
  · have hx : xs = [] := List.eq_nil_of_length_eq_zero (by simpa using hown.1)
    subst hx
    obtain ⟨v2, w2, hr2, h5, _⟩ := run_append_own (P := P) w w.heap.size t ty e i z i.size i.bytes ht hi hz rfl rfl hzs hsz _ 0 [] (World.ownsRow_nil _ _ _ _) a m c news hl hnews h1 h63 hbytes (Nat.le_refl _)
    rw [hr] at hr2
    injection hr2 with e1 e2
    subst e1 e2
    have := own_base h5 hv
    omega
  · by_cases hroom : n + m ≤ cap
    · have hfit : n * i.size + news.length ≤ cur.size := by rw [hl, hcs, ← Nat.add_mul]; exact Nat.mul_le_mul_right _ hroom
      have hr2 := run_append_room (P := P) w t ty e i ht hi g n cap cur hg a m c news hl hnews h1 hroom hfit
      rw [hr] at hr2
      injection hr2 with e1 e2
      rw [e1] at hv
      exact hv
    · have holds : ∀ j u, xs[j]? = some u → w.cell? ((⟨g, 0, none⟩ : Addr).add j) = some u := hown.cells (g := g) rfl
      have hr2 := run_append_grow (P := P) w t ty e i z ht hi hz ⟨g, 0, none⟩ n cap xs hown.1 holds a m c news hl hnews (by omega) (by simp only [maxLen] at h63; omega) (growslice_fits (by omega) hbytes)
      rw [hr] at hr2
      injection hr2 with e1 e2
      rw [e1] at hv
      injection hv with hv
      have : w.heap.size = k := hv
      omega
theorem wp_append_own2 {P : Program} (w : World) {o : Oper} {a : Act} {K : Act → World → Prop} {Q : Exit → Act → World → Prop} (s x : Operand) (t : TypeId)
    (ho : o.op = .call { callee := .builtin .append, args := #[s, x], argTypes := #[t, t] })
    (base : Nat) (e : TypeId) (i : TypeInfo) (z : Value) (size bytes : Nat) (ht : P.underlying t = some (.slice e)) (hi : P.info? e = some i) (hz : i.zero = some z)
    (hsize : i.size = size) (hby : i.bytes = bytes) (hzs : z.cells.size = size) (hsz : 0 < size)
    (v : Value) (n : Nat) (xs : List Value) (hs : a.eval s = v) (hown : w.ownsRow base e size v n xs)
    (ad : Addr) (m c : Nat) (news : List Value) (hx : a.eval x = .slice (some ad) m c) (hl : news.length = m * size) (hnews : ∀ j u, news[j]? = some u → w.cell? (ad.add j) = some u) (h1 : ∀ u ∈ news, u.oneCell' = true)
    (h63 : n + m ≤ maxLen) (hbytes : (n + m) * bytes ≤ 140737488355328) (hbase : base ≤ w.heap.size)
    (h : ∀ v' w', w'.ownsRow base e size v' (n + m) (xs ++ news) → w.grownBy w' v.ownBlock → (∀ k, k < w.heap.size → v'.ownBlock = some k → v.ownBlock = some k) → K (a.put o.dst v') w') : o.wp P a w K Q := by
  obtain ⟨v', w', hr, h2, h3, _, h5⟩ := run_append_own2 (P := P) w base t o.type e i z size bytes ht hi hz hsize hby hzs hsz v n xs hown ad m c news hl hnews h1 h63 hbytes hbase
  unfold Oper.wp execOp
  simp only [ho, resolve, invoke, builtin, Sem.run_bind, Sem.run_pure, Result.andThen_ok, List.map_toArray, List.map_cons, List.map_nil, hs, hx, hr]
  exact h v' w' h2 h3 h5
end Go.Proofs.YtahfnknbmikmkaaGreat
