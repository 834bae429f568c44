/- Contracts: leave, count. Contracts: awaited. -/
import Derived.Test.YtahfnknbmikmkaaGreatZs
import Derived.Test.YtahfnknbmikmkaaGreatKa16
import Derived.Test.YtahfnknbmikmkaaGreatKa19
namespace Go.Proofs.YtahfnknbmikmkaaGreat
open Go.RowKit Go.Proofs.Ty
set_option linter.unusedVariables false
set_option maxRecDepth 1000000
set_option linter.unusedSimpArgs false
def En.nul : En := ⟨0, 0, 0, false, false, Vl.nul, Vl.nul, Vl.nul, by decide, by decide, by decide⟩
/-- What Entry tells. -/
def entO (its : List Im) (ix sb : Nat) : En × Bool := match fnd its ix sb with
  | none => (En.nul, false)
  | some i => (i.e, true)
set_option maxHeartbeats 4000000 in
theorem Entry_any {D R : Nat} {its : List Im} {w : World} (h : Dct D R its w) (ix sb : Nat) (h1 : ix < 65536) (h2 : sb < 256) :
    Calls Tryz.prog 40 #[.pointer (some ⟨D, 0, none⟩), .int .u16 (ix : Int), .int .u8 (sb : Int)] w fun e w' => e = .returned (.tuple #[.agg (entO its ix sb).1.arr, .bool (entO its ix sb).2]) ∧ Below w.heap.size w w' := by
  cases hf : fnd its ix sb with
  | some i =>
    have e : entO its ix sb = (i.e, true) := by unfold entO; rw [hf]
    rw [e]
    exact Entry_some h ix sb h1 h2 hf
  | none =>
    have e : entO its ix sb = (En.nul, false) := by unfold entO; rw [hf]
    rw [e]
    show Calls Tryz.prog 40 #[.pointer (some ⟨D, 0, none⟩), .int .u16 (ix : Int), .int .u8 (sb : Int)] w fun e w' => e = .returned (.tuple #[.agg En.nul.arr, .bool false]) ∧ Below w.heap.size w w'
    obtain ⟨q, hq⟩ : ∃ q, w.heap.size = q := ⟨_, rfl⟩
    have hh : (w.alloc (.cells zE14 93)).heap[q]? = some (.cells zE14 93 (0, 0)) := by rw [← hq]; exact heap_alloc_new w _
    have bA : Below w.heap.size w (w.alloc (.cells zE14 93)) := (Below.refl _ _).alloc (Nat.le_refl _) _
    have h0 := h.below bA
    have hF := find_none h0 ix sb h1 h2 hf
    have d1 : ((noc its ix : Int) != 0) = true := by have := noc_ne its ix; simp; omega
    have s0 := bA.size
    generalize noc its ix = C at *
    clear h h0 hf e
    go_enter Tryz.func40, Tryz.ntmps40
    go_upto_region 1 with fail
    change Code.wp Tryz.prog _ _ _ (w.alloc (.cells zE14 93))
    generalize (w.alloc (.cells zE14 93)) = W at *
    try simp only [hq]
    go_wp2_with fail
    refine hF.mono ?_
    rintro e w1 ⟨rfl, b1⟩
    have hh1 : w1.heap[q]? = some (.cells zE14 93 (0, 0)) := (b1.block q (Array.getElem?_eq_some_iff.1 hh).1).trans hh
    have B1 := bA.trans (b1.mono s0)
    have hE := Eb.row hh1 En.nul
    have B2 := below_row B1 (by omega) B1.size (q := q) En.nul.arr
    clear hF bA b1 B1 hh
    go_wp2_with (first | (refine sdE hh1 rfl En.nul rfl _ _ rfl rfl rfl ?_))
    exact bodyPost_ret (ent_results hE _ rfl rfl) rfl ⟨rfl, by first | exact B2 | (rw [← hq] at B2 ⊢; exact B2)⟩
section
variable {S D R : Nat} {s : Ss} {ao : Option Addr} {cp : Nat} {its : List Im} {w : World}
set_option maxHeartbeats 4000000 in
theorem leave_any (h : Pb S D s ao cp w) (hd : Dct D R its w) (ix sb : Nat) (h1 : ix < 65536) (h2 : sb < 256) : Calls Tryz.prog 129 #[.pointer (some ⟨S, 0, none⟩), .agg (spA ix sb)] w fun e w' => e = .returned (.int .u32 (leaC its ix sb : Nat)) ∧ Below w.heap.size w w' := by
  obtain ⟨q, hq⟩ : ∃ q, w.heap.size = q := ⟨_, rfl⟩
  obtain ⟨W, hW⟩ : ∃ W, w.alloc (.cells (spA ix sb) 87) = W := ⟨_, rfl⟩
  have b0 : Below w.heap.size w W := hW ▸ (Below.refl _ _).alloc (Nat.le_refl _) _
  have p0 : Sp q ix sb W := by rw [← hq, ← hW]; exact Sp.new w ix sb
  have k0 : ∀ y : Later W, y.now.cell? ⟨q, 0, none⟩ = some (.int .u16 (ix : Int)) := fun y => (p0.below y.below).c0
  have k1 : ∀ y : Later W, y.now.cell? ⟨q, 1, none⟩ = some (.int .u8 (sb : Int)) := fun y => (p0.below y.below).c1
  have k2 : ∀ y : Later W, y.now.cell? ⟨S, 0, none⟩ = some (.pointer (some ⟨D, 0, none⟩)) := fun y => ((h.below b0).below y.below).c.1
  have HC : Hid (leaC its ix sb = if wc its ix sb [] = 100794368 ∨ wc its ix sb [] = 101253137 ∨ wc its ix sb [] = 100728834 then wc its ix sb [] else 0) := rfl
  have hM : ∀ y : Later W, Calls Tryz.prog 136 #[.pointer (some ⟨D, 0, none⟩), .int .u16 (ix : Int), .int .u8 (sb : Int), .slice none 0 0] y.now fun e w'' => e = .returned (.int .u32 (wc its ix sb [] : Nat)) ∧ ∃ z : Later W, w'' = z.now := fun y => later (May_any ((hd.below b0).below y.below) ix sb h1 h2 _ [] (bytes_nil _))
  have hLq := Later.some W
  have HB := hidOf2 b0
  generalize leaC its ix sb = L at *
  generalize wc its ix sb [] = C at *
  clear h hd p0 b0
  go_enter Tryz.func129, Tryz.ntmps129
  go_upto_region 1 with fail
  refine wp_region_later (by kernel_rfl) (by kernel_rfl) ?_
  repeat (go_big_quiet_step (first | (go_at_call 136; with_reducible exact hM _)))
  refine wpQuiet_nil ?_
  rintro _ ⟨x1, rfl⟩
  have HB1 := hidOf2 (HB.out.trans (x1.below.mono HB.out.size))
  clear k0 k1 k2 hM HB
  generalize x1.now = Y at *
  by_cases e1 : C = 100794368
  · have d1 : ((C : Int) == 100794368) = true := by simp; omega
    go_wp2
    go_ret
    exact ⟨ret_int (by rw [HC.out, if_pos (.inl e1)]), HB1.out⟩
  · have d1 : ((C : Int) == 100794368) = false := by simp; omega
    by_cases e2 : C = 101253137
    · have d2 : ((C : Int) == 101253137) = true := by simp; omega
      go_wp2
      go_ret
      exact ⟨ret_int (by rw [HC.out, if_pos (.inr (.inl e2))]), HB1.out⟩
    · have d2 : ((C : Int) == 101253137) = false := by simp; omega
      by_cases e3 : C = 100728834
      · have d3 : ((C : Int) == 100728834) = true := by simp; omega
        go_wp2
        go_ret
        exact ⟨ret_int (by rw [HC.out, if_pos (.inr (.inr e3))]), HB1.out⟩
      · have d3 : ((C : Int) == 100728834) = false := by simp; omega
        go_wp2
        go_ret
        exact ⟨ret_int (by rw [HC.out, if_neg (by rintro (h | h | h); exact e1 h; exact e2 h; exact e3 h)]; rfl), HB1.out⟩
theorem and1 : ∀ n < 256, bits .and .u8 ((n : Nat) : Int) 1 = ((n % 2 : Nat) : Int) := by decide +kernel
theorem and3 : ∀ n < 256, bits .and .u8 (((n : Nat) : Int) / 4) 3 = ((n / 4 % 4 : Nat) : Int) := by decide +kernel
theorem enterEn : ∀ args x, (callFunc 40 args).run Tryz.prog x = .ok (.enter 40 args) x := fun _ _ => by rfl
set_option maxHeartbeats 8000000 in
theorem count_any (h : Pb S D s ao cp w) (hd : Dct D R its w) (q : F8) : Calls Tryz.prog 110 #[.pointer (some ⟨S, 0, none⟩), .agg q.arr] w fun e w' => e = .returned (.int .i64 (cnt its q : Nat)) ∧ Below w.heap.size w w' := by
  obtain ⟨k, hk⟩ : ∃ k, w.heap.size = k := ⟨_, rfl⟩
  obtain ⟨W, hW⟩ : ∃ W, w.alloc (.cells q.arr 32) = W := ⟨_, rfl⟩
  have b0 : Below w.heap.size w W := hW ▸ (Below.refl _ _).alloc (Nat.le_refl _) _
  have q0 : Qb k q W := by rw [← hk, ← hW]; exact Qb.new w q
  have c0 := q0.c0
  have l0 := q0.load
  have hb0 := q.b0.toNat_lt
  have a1 := and1 _ hb0
  have a3 := and3 _ hb0
  have hso : ∀ V, Calls Tryz.prog 67 #[.agg q.arr] V fun e w' => e = .returned (.agg (spA (pix q) (psb q))) ∧ Below V.heap.size V w' := spotOf_any q
  have HB0 := hidOf2 b0
  have h0 := hidOf2 (h.below b0)
  have d0 := hidOf2 (hd.below b0)
  have hix := pix_lt q
  have hsb := psb_lt q
  have hcn : cnt its q = if q.b0.toNat % 2 = 1 then 4 - q.b0.toNat / 4 % 4 else if 0 < siz (entO its (pix q) (psb q)).1.df.t ∧ siz (entO its (pix q) (psb q)).1.df.t ≤ 4 then siz (entO its (pix q) (psb q)).1.df.t else 4 := by
    unfold cnt entO
    split
    · rfl
    · cases fnd its (pix q) (psb q) with
      | none => rfl
      | some i => rfl
  have HCN := hidOf2 hcn
  generalize cnt its q = C at *
  generalize pix q = ix at *
  generalize psb q = sb at *
  generalize q.b0.toNat = n at *
  clear h hd b0 hcn
  by_cases hn : n % 2 = 1
  · have d1 : (((n % 2 : Nat) : Int) != 0) = true := by simp; omega
    obtain ⟨m, hm⟩ : ∃ m, n % 2 = m := ⟨_, rfl⟩
    obtain ⟨m2, hm2⟩ : ∃ m, n / 4 % 4 = m := ⟨_, rfl⟩
    have hm4 : m2 < 4 := by omega
    rw [hm] at a1 d1
    rw [hm2] at a3
    go_enter Tryz.func110, Tryz.ntmps110
    go_wp2
    go_ret
    exact ⟨ret_int (by rw [HCN.out, if_pos hn, hm2]; omega), HB0.out⟩
  · have d1 : (((n % 2 : Nat) : Int) != 0) = false := by simp; omega
    obtain ⟨m, hm⟩ : ∃ m, n % 2 = m := ⟨_, rfl⟩
    rw [hm] at a1 d1
    go_enter Tryz.func110, Tryz.ntmps110
    go_wp2_with (first | (refine ldG l0 rfl _ rfl rfl ?_))
    refine (hso _).mono ?_
    rintro e w1 ⟨rfl, b1⟩
    obtain ⟨p, hp⟩ : ∃ p, w1.heap.size = p := ⟨_, rfl⟩
    have z1 : Sp p 0 0 (w1.alloc (.cells (spA 0 0) 87)) := by rw [← hp]; exact Sp.new w1 0 0
    have bz : Below w1.heap.size w1 (w1.alloc (.cells (spA 0 0) 87)) := (Below.refl _ _).alloc (Nat.le_refl _) _
    have bz2 := below_row bz (by omega) (by rw [size_alloc]; omega) (q := p) (spA ix sb)
    have z2 := z1.row ix sb
    have HZ : Hid (∀ X, X = (w1.alloc (.cells (spA 0 0) 87)).setRow p (spA ix sb) → Sp p ix sb X ∧ Below w1.heap.size w1 X) := fun X hX => by subst hX; exact ⟨z2, bz2⟩
    clear z2 bz2 bz l0 c0 q0
    go_upto_region 4 with (first | (refine sdS (jx := ix) (tb := sb) z1 rfl _ _ rfl rfl rfl ?_))
    change Code.wp Tryz.prog _ _ _ ((w1.alloc (.cells (spA 0 0) 87)).setRow p (spA ix sb))
    generalize hX : (w1.alloc (.cells (spA 0 0) 87)).setRow p (spA ix sb) = wb
    obtain ⟨p2, b2⟩ := HZ.out wb hX.symm
    have b12 := b1.trans (b2.mono b1.size)
    have HB2 := hidOf2 (HB0.out.trans (b12.mono HB0.out.size))
    have H2 := hidOf2 (h0.out.below b12)
    have D2 := hidOf2 (d0.out.below b12)
    clear HZ hX z1 hso b1 b2 b12 h0 d0 HB0
    obtain ⟨en, hen⟩ : ∃ en, entO its ix sb = en := ⟨_, rfl⟩
    have HEN : Hid (∀ y, Below wb.heap.size wb y → Calls Tryz.prog 40 #[.pointer (some ⟨D, 0, none⟩), .int .u16 (ix : Int), .int .u8 (sb : Int)] y fun e w' => e = .returned (.tuple #[.agg en.1.arr, .bool en.2]) ∧ Below y.heap.size y w') := fun y hb => hen ▸ Entry_any (D2.out.below hb) ix sb hix hsb
    rw [hen] at HCN
    have HSS : Hid (∀ y, Below wb.heap.size wb y → (fun y => y.cell? ⟨S, 0, none⟩ = some (.pointer (some ⟨D, 0, none⟩)) ∧ y.cell? ⟨p, 0, none⟩ = some (.int .u16 (ix : Int)) ∧ y.cell? ⟨p, 1, none⟩ = some (.int .u8 (sb : Int))) y) := fun y hb => ⟨(H2.out.below hb).c.1, (p2.below hb).c0, (p2.below hb).c1⟩
    have c0 : Below wb.heap.size wb wb.drew := bdr (Below.refl _ _) 1
    have S0 := HSS.out _ c0
    clear p2 H2 D2
    refine wp_cut (α := Nat) (fun u y => Eb u en.1 y ∧ Below wb.heap.size wb y) (fun a u => ((((((((((((((a.put (some 23) (.pointer (some ⟨S, 0, none⟩))).put (some 24) (.pointer (some ⟨S, 0, none⟩))).put (some 25) (.pointer (some ⟨S, 0, none⟩))).put (some 26) (.pointer (some ⟨D, 0, none⟩))).put (some 27) (.pointer (some ⟨p, 0, none⟩))).put (some 28) (.int .u16 (ix : Int))).put (some 29) (.pointer (some ⟨p, 1, none⟩))).put (some 30) (.int .u8 (sb : Int))).put (some 31) (.tuple #[.agg (en.1).arr, .bool en.2])).put (some 22) (.tuple #[.agg (en.1).arr, .bool en.2])).put (some 32) (.agg (en.1).arr)).put (some 33) (.bool en.2)).put (some 6) (.pointer (some ⟨u, 0, none⟩))).put (some 7) (.bool en.2))) ?_ ?_
    · refine wp_region_held (S := fun y => y.cell? ⟨S, 0, none⟩ = some (.pointer (some ⟨D, 0, none⟩)) ∧ y.cell? ⟨p, 0, none⟩ = some (.int .u16 (ix : Int)) ∧ y.cell? ⟨p, 1, none⟩ = some (.int .u8 (sb : Int))) (by kernel_rfl) ?_
      change wpAnyH _ _ _ _ _ _ _ _ wb.drew
      refine tk 0 (.pointer (some ⟨S, 0, none⟩)) rfl (by kernel_rfl) (fun _ _ _ h => nomatch h.1) rfl (fun _ hS => rfl) S0 ?_
      simp only [zzA, zzB, zzC, Act.put, zzD, zzE, zzF]
      refine tk 1 (.pointer (some ⟨S, 0, none⟩)) rfl (by kernel_rfl) (fun _ _ _ h => nomatch h.1) rfl (fun _ hS => by simp [execOp, go_sem, Act.eval]) S0 ?_
      simp only [zzA, zzB, zzC, Act.put, zzD, zzE, zzF]
      refine tk 2 (.pointer (some ⟨S, 0, none⟩)) rfl (by kernel_rfl) (fun _ _ _ h => nomatch h.1) rfl (fun _ hS => by simp [execOp, go_sem, Act.eval]) S0 ?_
      simp only [zzA, zzB, zzC, Act.put, zzD, zzE, zzF]
      refine tk 3 (.pointer (some ⟨D, 0, none⟩)) rfl (by kernel_rfl) (fun _ _ _ h => nomatch h.1) rfl (fun _ hS => exec_load rfl rfl (load_pd _ _ _ _ hS.1)) S0 ?_
      simp only [zzA, zzB, zzC, Act.put, zzD, zzE, zzF]
      refine tk 4 (.pointer (some ⟨p, 0, none⟩)) rfl (by kernel_rfl) (fun _ _ _ h => nomatch h.1) rfl (fun _ hS => by simp [execOp, go_sem, Act.eval]) S0 ?_
      simp only [zzA, zzB, zzC, Act.put, zzD, zzE, zzF]
      refine tk 5 (.int .u16 (ix : Int)) rfl (by kernel_rfl) (fun _ _ _ h => nomatch h.1) rfl (fun _ hS => exec_load rfl rfl (load_u16 _ _ _ _ hS.2.1)) S0 ?_
      simp only [zzA, zzB, zzC, Act.put, zzD, zzE, zzF]
      refine tk 6 (.pointer (some ⟨p, 1, none⟩)) rfl (by kernel_rfl) (fun _ _ _ h => nomatch h.1) rfl (fun _ hS => by simp [execOp, go_sem, Act.eval]) S0 ?_
      simp only [zzA, zzB, zzC, Act.put, zzD, zzE, zzF]
      refine tk 7 (.int .u8 (sb : Int)) rfl (by kernel_rfl) (fun _ _ _ h => nomatch h.1) rfl (fun _ hS => exec_load rfl rfl (load_u8 _ _ _ _ hS.2.2)) S0 ?_
      simp only [zzA, zzB, zzC, Act.put, zzD, zzE, zzF]
      refine wpAnyH_all (rs := [8, 12]) (by kernel_rfl) (by simp) ?_
      intro k hk
      simp only [List.mem_cons, List.mem_nil_iff, or_false] at hk
      rcases hk with rfl | rfl
      · refine wpOp_run rfl rfl (wp_call_fn 40 #[.pointer (some ⟨D, 0, none⟩), .int .u16 (ix : Int), .int .u8 (sb : Int)] (by simp [execOp, go_sem, Act.eval, resolve, invoke, enterEn]) ?_)
        refine (HEN.out wb.drew c0).mono ?_
        rintro e u1 ⟨rfl, b1⟩
        have c1 := c0.trans (b1.mono c0.size)
        have s1 := HSS.out _ c1
        refine ⟨s1, ?_⟩
        simp only [zzA, zzB, zzC, Act.put, zzD, zzE, zzF]
        refine tk 9 (.tuple #[.agg (en.1).arr, .bool en.2]) rfl (by kernel_rfl) (fun _ _ _ h => nomatch h.1) rfl (fun _ hS => rfl) s1 ?_
        simp only [zzA, zzB, zzC, Act.put, zzD, zzE, zzF]
        refine tk 10 (.agg (en.1).arr) rfl (by kernel_rfl) (fun _ _ _ h => nomatch h.1) rfl (fun _ hS => by simp [execOp, go_sem, Act.eval]) s1 ?_
        simp only [zzA, zzB, zzC, Act.put, zzD, zzE, zzF]
        refine tk 11 (.bool en.2) rfl (by kernel_rfl) (fun _ _ _ h => nomatch h.1) rfl (fun _ hS => by simp [execOp, go_sem, Act.eval]) s1 ?_
        simp only [zzA, zzB, zzC, Act.put, zzD, zzE, zzF]
        refine wpAnyH_all (rs := [12]) (by kernel_rfl) (by simp) ?_
        intro k hk
        simp only [List.mem_cons, List.mem_nil_iff, or_false] at hk
        subst hk
        refine wpOp_run rfl rfl (wp_allocE rfl ?_)
        obtain ⟨qv, hqv⟩ : ∃ q, u1.heap.size = q := ⟨_, rfl⟩
        have g2 := heap_alloc_new u1 (.cells zE14 93)
        have c2 := c1.alloc c1.size (.cells zE14 93)
        have s2 := HSS.out _ c2
        have hqr : wb.heap.size ≤ qv := by rw [← hqv]; exact c1.size
        rw [hqv] at g2 ⊢
        generalize u1.alloc (.cells zE14 93) = u2 at *
        refine ⟨s2, ?_⟩
        simp only [zzA, zzB, zzC, Act.put, zzD, zzE, zzF]
        refine wpAnyH_all (rs := [13]) (by kernel_rfl) (by simp) ?_
        intro k hk
        simp only [List.mem_cons, List.mem_nil_iff, or_false] at hk
        subst hk
        refine wpOp_run rfl rfl (wp_store_row 93 _ _ rfl qv (en.1).arr rfl rfl 93 zE14 g2 (by show _ = some 14; exact infoE) rfl (all_oneCell_toArray (en.1).one) ?_)
        have gZ := Eb.row g2 (en.1)
        have cZ := below_row c2 hqr c2.size (q := qv) (en.1).arr
        have sZ := HSS.out _ cZ
        refine ⟨sZ, ?_⟩
        simp only [zzA, zzB, zzC, Act.put, zzD, zzE, zzF]
        refine tk 14 (.bool en.2) rfl (by kernel_rfl) (fun _ _ _ h => nomatch h.1) rfl (fun _ hS => rfl) sZ ?_
        simp only [zzA, zzB, zzC, Act.put, zzD, zzE, zzF]
        refine wpAnyH_done (by kernel_rfl) ?_ _
        exact ⟨rfl, qv, rfl, gZ, cZ⟩
      · refine wpOp_run rfl rfl (wp_allocE rfl ?_)
        obtain ⟨qv, hqv⟩ : ∃ q, wb.drew.heap.size = q := ⟨_, rfl⟩
        have g1 := heap_alloc_new wb.drew (.cells zE14 93)
        have c1 := c0.alloc c0.size (.cells zE14 93)
        have s1 := HSS.out _ c1
        have hqr : wb.heap.size ≤ qv := by rw [← hqv]; exact c0.size
        rw [hqv] at g1 ⊢
        generalize wb.drew.alloc (.cells zE14 93) = u1 at *
        refine ⟨s1, ?_⟩
        simp only [zzA, zzB, zzC, Act.put, zzD, zzE, zzF]
        refine wpAnyH_all (rs := [8]) (by kernel_rfl) (by simp) ?_
        intro k hk
        simp only [List.mem_cons, List.mem_nil_iff, or_false] at hk
        subst hk
        refine wpOp_run rfl rfl (wp_call_fn 40 #[.pointer (some ⟨D, 0, none⟩), .int .u16 (ix : Int), .int .u8 (sb : Int)] (by simp [execOp, go_sem, Act.eval, resolve, invoke, enterEn]) ?_)
        refine (HEN.out u1 c1).mono ?_
        rintro e u2 ⟨rfl, b2⟩
        have c2 := c1.trans (b2.mono c1.size)
        have s2 := HSS.out _ c2
        have g2 := (b2.block qv (Array.getElem?_eq_some_iff.1 g1).1).trans g1
        refine ⟨s2, ?_⟩
        simp only [zzA, zzB, zzC, Act.put, zzD, zzE, zzF]
        refine tk 9 (.tuple #[.agg (en.1).arr, .bool en.2]) rfl (by kernel_rfl) (fun _ _ _ h => nomatch h.1) rfl (fun _ hS => rfl) s2 ?_
        simp only [zzA, zzB, zzC, Act.put, zzD, zzE, zzF]
        refine tk 10 (.agg (en.1).arr) rfl (by kernel_rfl) (fun _ _ _ h => nomatch h.1) rfl (fun _ hS => by simp [execOp, go_sem, Act.eval]) s2 ?_
        simp only [zzA, zzB, zzC, Act.put, zzD, zzE, zzF]
        refine tk 11 (.bool en.2) rfl (by kernel_rfl) (fun _ _ _ h => nomatch h.1) rfl (fun _ hS => by simp [execOp, go_sem, Act.eval]) s2 ?_
        simp only [zzA, zzB, zzC, Act.put, zzD, zzE, zzF]
        refine wpAnyH_all (rs := [13]) (by kernel_rfl) (by simp) ?_
        intro k hk
        simp only [List.mem_cons, List.mem_nil_iff, or_false] at hk
        subst hk
        refine wpOp_run rfl rfl (wp_store_row 93 _ _ rfl qv (en.1).arr rfl rfl 93 zE14 g2 (by show _ = some 14; exact infoE) rfl (all_oneCell_toArray (en.1).one) ?_)
        have gZ := Eb.row g2 (en.1)
        have cZ := below_row c2 hqr c2.size (q := qv) (en.1).arr
        have sZ := HSS.out _ cZ
        refine ⟨sZ, ?_⟩
        simp only [zzA, zzB, zzC, Act.put, zzD, zzE, zzF]
        refine tk 14 (.bool en.2) rfl (by kernel_rfl) (fun _ _ _ h => nomatch h.1) rfl (fun _ hS => rfl) sZ ?_
        simp only [zzA, zzB, zzC, Act.put, zzD, zzE, zzF]
        refine wpAnyH_done (by kernel_rfl) ?_ _
        exact ⟨rfl, qv, rfl, gZ, cZ⟩
    intro u y hI
    simp only [Act.put, List.setIfInBounds_toArray, List.set_cons_succ, List.set_cons_zero]
    obtain ⟨e3, b3⟩ := hI
    have HB3 := hidOf2 (HB2.out.trans (b3.mono HB2.out.size))
    have ct : y.cell? ⟨u, 11, none⟩ = some (.int .i64 en.1.df.t) := Lib.cell_of_heap e3 11
    have hSz : ∀ V, Calls Tryz.prog 118 #[.int .i64 en.1.df.t] V fun e w' => e = .returned (.tuple #[.int .i64 (siz en.1.df.t), .bool (decide (0 < siz en.1.df.t))]) ∧ w' = V := fun V => Size_any _ V
    clear c0 S0 HSS HEN e3 b3 HB2 hen
    generalize siz en.1.df.t = z at *
    generalize en.1.df.t = tt at *
    go_wp2_with fail
    refine (hSz _).mono ?_
    rintro e w4 ⟨rfl, rfl⟩
    clear hSz
    by_cases g1 : 0 < z
    · have d2 : decide (0 < z) = true := by simpa using g1
      rw [d2]
      by_cases g2 : z ≤ 4
      · have d3 : decide ((z : Int) ≤ 4) = true := by simp; omega
        go_wp2
        go_ret
        exact ⟨ret_int (by rw [HCN.out, if_neg hn, if_pos ⟨g1, g2⟩]), HB3.out⟩
      · have d3 : decide ((z : Int) ≤ 4) = false := by simp; omega
        go_wp2
        go_ret
        exact ⟨ret_int (by rw [HCN.out, if_neg hn, if_neg (fun h => g2 h.2)]; rfl), HB3.out⟩
    · have d2 : decide (0 < z) = false := by simpa using g1
      rw [d2]
      go_wp2
      go_ret
      exact ⟨ret_int (by rw [HCN.out, if_neg hn, if_neg (fun h => g1 h.1)]; rfl), HB3.out⟩
end
end Go.Proofs.YtahfnknbmikmkaaGreat
namespace Go.Proofs.YtahfnknbmikmkaaGreat
open Go.RowKit Go.Proofs.Ty
set_option linter.unusedVariables false
set_option maxRecDepth 1000000
set_option linter.unusedSimpArgs false
theorem awaited_results {Q : Nat} {s : Ss} {ao : Option Addr} {cp : Nat} {w : World} (h : Tb Q s ao cp w) (tmps : Array Value) (h2 : tmps[4]?.getD undef = .pointer (some ⟨Q, 0, none⟩)) :
    (results Tryz.f111 tmps).run Tryz.prog w = .ok (.agg (trA s ao cp)) w := by
  have l0 := h.load
  simp [Go.results, Tryz.results111, h2, asAddr, l0]
/-- A write that begins. -/
def s1 (ix sb : Nat) : Ss := ⟨1, ix, sb, 0, [], none⟩
theorem run_ldSp {w : World} {b o ix sb : Nat} (h : w.rangeAt b o [.int .u16 (ix : Int), .int .u8 (sb : Int)]) : (loadVar 87 ⟨b, o, none⟩).run Tryz.prog w = .ok (.agg (spA ix sb)) w :=
  run_loadVar_mid w b o 87 [.int .u16 (ix : Int), .int .u8 (sb : Int)] _ h Tryz.underlying87 rfl (by rw [infoSp]; rfl)
theorem enterLv : ∀ args x, (callFunc 129 args).run Tryz.prog x = .ok (.enter 129 args) x := fun _ _ => by rfl
theorem enterPs : ∀ args x, (callFunc 105 args).run Tryz.prog x = .ok (.enter 105 args) x := fun _ _ => by rfl
/-- What awaited ends with. -/
def awaE (its : List Im) (q : F8) : Ending :=
  if leaC its (pix q) (psb q) ≠ 0 then flE (pix q) (psb q) (leaC its (pix q) (psb q))
  else if q.b0.toNat % 2 = 1 ∧ 65536 < num4 q then flE (pix q) (psb q) 84148229
  else .returned (.agg (trA ⟨1, pix q, psb q, 0, [], if q.b0.toNat % 2 = 1 then some (num4 q) else none⟩ none 0))
theorem Tb.said {p : Nat} {s : Ss} {ao : Option Addr} {cp : Nat} {w : World} (h : Tb p s ao cp w) (n : Nat) : Tb p { s with sz := some n } ao cp ((w.setCell ⟨p, 5, none⟩ (.bool true)).setCell ⟨p, 6, none⟩ (.int .u32 (n : Int))) := by
  have h : w.heap[p]? = some (.cells (trA s ao cp) 89 (0, 0)) := h
  unfold Tb
  simp [World.setCell, Array.getElem?_modify, h, trA, trC]
section
variable {S D R : Nat} {s : Ss} {ao : Option Addr} {cp : Nat} {its : List Im} {w : World}
set_option maxHeartbeats 8000000 in
theorem awaited_any (h : Pb S D s ao cp w) (hd : Dct D R its w) (q : F8) : Calls Tryz.prog 111 #[.pointer (some ⟨S, 0, none⟩), .agg q.arr] w fun e w' => e = awaE its q ∧ Below w.heap.size w w' := by
  obtain ⟨W, hW⟩ : ∃ W, w.alloc (.cells q.arr 32) = W := ⟨_, rfl⟩
  obtain ⟨k, hk⟩ : ∃ k, w.heap.size = k := ⟨_, rfl⟩
  have hWs : W.heap.size = k + 1 := by rw [← hW, size_alloc, hk]
  have b0 : Below w.heap.size w (W.alloc (.cells zTA 89)) := (hW ▸ (Below.refl _ _).alloc (Nat.le_refl _) _).alloc (by rw [hWs, hk]; omega) _
  have q0 : Qb k q (W.alloc (.cells zTA 89)) := (Lib.alloc_old W _ k (by omega)).trans (by rw [← hk, ← hW]; exact Qb.new w q)
  have t0 : Tb (k + 1) Ss.nul none 0 (W.alloc (.cells zTA 89)) := by rw [← hWs]; exact heap_alloc_new W _
  have hso : ∀ V, Calls Tryz.prog 67 #[.agg q.arr] V fun e w' => e = .returned (.agg #[.int .u16 (pix q : Int), .int .u8 (psb q : Int)]) ∧ Below V.heap.size V w' := spotOf_any q
  have hnu : ∀ V, Calls Tryz.prog 130 #[.agg q.arr] V fun e w' => e = .returned (.int .u32 (num4 q : Nat)) ∧ Below V.heap.size V w' := number_any q
  have hb0 := q.b0.toNat_lt
  have a1 := and1 _ hb0
  have hix := pix_lt q
  have hsb := psb_lt q
  have hn4 := num4_lt q
  have HH := hidOf2 h
  have HD := hidOf2 hd
  have HAW : Hid (awaE its q = if leaC its (pix q) (psb q) ≠ 0 then flE (pix q) (psb q) (leaC its (pix q) (psb q))
    else if q.b0.toNat % 2 = 1 ∧ 65536 < num4 q then flE (pix q) (psb q) 84148229
    else .returned (.agg (trA ⟨1, pix q, psb q, 0, [], if q.b0.toNat % 2 = 1 then some (num4 q) else none⟩ none 0))) := rfl
  generalize awaE its q = AW at *
  generalize pix q = ix at *
  generalize psb q = sb at *
  generalize num4 q = N at *
  obtain ⟨n, hn⟩ : ∃ n, q.b0.toNat = n := ⟨_, rfl⟩
  rw [hn] at hb0 a1 HAW
  have HB0 := hidOf2 b0
  clear h hd b0
  go_enter Tryz.func111, Tryz.ntmps111
  go_upto_region 1 with fail
  change Code.wp Tryz.prog _ _ _ (W.alloc (.cells zTA 89))
  obtain ⟨V, hV⟩ : ∃ V, W.alloc (.cells zTA 89) = V := ⟨_, rfl⟩
  have hVs : V.heap.size = k + 2 := by rw [← hV, size_alloc, hWs]
  rw [hV] at q0 t0 HB0 ⊢
  have l0 := q0.load
  go_wp2_with (first | (refine ldG l0 rfl _ rfl rfl ?_))
  refine (hso _).mono ?_
  rintro e w1 ⟨rfl, b1⟩
  obtain ⟨p, hp⟩ : ∃ p, w1.heap.size = p := ⟨_, rfl⟩
  have z1 : Tb p Ss.nul none 0 (w1.alloc (.cells zTA 89)) := by rw [← hp]; exact heap_alloc_new w1 _
  have bz : Below w1.heap.size w1 (w1.alloc (.cells zTA 89)) := (Below.refl _ _).alloc (Nat.le_refl _) _
  have bz2 := below_row bz (by omega) (by rw [size_alloc]; omega) (q := p) (trA (s1 ix sb) none 0)
  have z2 := z1.row (t := s1 ix sb) (ap := none) (cq := 0)
  have HZ : Hid (∀ X, X = (w1.alloc (.cells zTA 89)).setRow p (trA (s1 ix sb) none 0) → Tb p (s1 ix sb) none 0 X ∧ Below w1.heap.size w1 X) := fun X hX => by subst hX; exact ⟨z2, bz2⟩
  clear z2 bz2 bz
  go_upto_region 2 with (first | (refine sdTb (t := s1 ix sb) (ap := none) (cq := 0) z1 rfl _ _ rfl rfl rfl ?_))
  change Code.wp Tryz.prog _ _ _ ((w1.alloc (.cells zTA 89)).setRow p (trA (s1 ix sb) none 0))
  generalize hX : (w1.alloc (.cells zTA 89)).setRow p (trA (s1 ix sb) none 0) = wb
  obtain ⟨p2, b2⟩ := HZ.out wb hX.symm
  have b12 := b1.trans (b2.mono b1.size)
  have HB2 := hidOf2 (HB0.out.trans (b12.mono HB0.out.size))
  have hkp : k + 1 < p := by have := t0.lt; have := b1.size; omega
  have Q2 := hidOf2 (q0.below b12)
  have T2 := hidOf2 (t0.below b12)
  have H2 := hidOf2 (HH.out.below HB2.out)
  have D2 := hidOf2 (HD.out.below HB2.out)
  clear HZ hX z1 hso b1 b2 b12 HB0 q0 t0 l0 HH HD
  obtain ⟨lc, hlv⟩ : ∃ lc, leaC its ix sb = lc := ⟨_, rfl⟩
  have HLV : Hid (∀ y, Below wb.heap.size wb y → Calls Tryz.prog 129 #[.pointer (some ⟨S, 0, none⟩), .agg (spA ix sb)] y fun e w' => e = .returned (.int .u32 (lc : Int)) ∧ Below y.heap.size y w') := fun y hb => hlv ▸ leave_any (H2.out.below hb) (D2.out.below hb) ix sb hix hsb
  rw [hlv] at HAW
  have c0 : Below wb.heap.size wb wb.drew := bdr (Below.refl _ _) 1
  have S0 : (fun y => Tb p (s1 ix sb) none 0 y) wb.drew := p2.below c0
  have t0 := p2
  by_cases hlc : lc ≠ 0
  · have HPS : Hid (∀ y, Calls Tryz.prog 105 #[.agg (spA ix sb), .int .u32 (lc : Int)] y fun e w' => e = flE ix sb lc ∧ Below y.heap.size y w') := fun y => pass_bad _ _ lc hlc y
    refine wp_region_held (S := fun y => Tb p (s1 ix sb) none 0 y) (by kernel_rfl) ?_
    change wpAnyH _ _ _ _ _ _ _ _ wb.drew
    refine tk 0 (.pointer (some ⟨p, 0, none⟩)) rfl (by kernel_rfl) (fun _ _ _ h => h) rfl (fun _ hS => by simp [execOp, go_sem, Act.eval]) S0 ?_
    simp only [zzA, zzB, zzC, Act.put, zzD, zzE, zzF]
    refine tk 1 (.agg (spA ix sb)) rfl (by kernel_rfl) (fun _ _ _ h => h) rfl (fun _ hS => exec_load rfl rfl (run_ldSp hS.sp)) S0 ?_
    simp only [zzA, zzB, zzC, Act.put, zzD, zzE, zzF]
    refine tk 2 (.pointer (some ⟨S, 0, none⟩)) rfl (by kernel_rfl) (fun _ _ _ h => h) rfl (fun _ hS => rfl) S0 ?_
    simp only [zzA, zzB, zzC, Act.put, zzD, zzE, zzF]
    refine tk 3 (.pointer (some ⟨p, 0, none⟩)) rfl (by kernel_rfl) (fun _ _ _ h => h) rfl (fun _ hS => by simp [execOp, go_sem, Act.eval]) S0 ?_
    simp only [zzA, zzB, zzC, Act.put, zzD, zzE, zzF]
    refine tk 4 (.agg (spA ix sb)) rfl (by kernel_rfl) (fun _ _ _ h => h) rfl (fun _ hS => exec_load rfl rfl (run_ldSp hS.sp)) S0 ?_
    simp only [zzA, zzB, zzC, Act.put, zzD, zzE, zzF]
    refine wpAnyH_all (rs := [5]) (by kernel_rfl) (by simp) ?_
    intro k hk
    simp only [List.mem_cons, List.mem_nil_iff, or_false] at hk
    subst hk
    refine wpOp_run rfl rfl (wp_call_fn 129 #[.pointer (some ⟨S, 0, none⟩), .agg (spA ix sb)] (by simp [execOp, go_sem, Act.eval, resolve, invoke, enterLv]) ?_)
    refine (HLV.out wb.drew c0).mono ?_
    rintro e u1 ⟨rfl, b1⟩
    have c1 := c0.trans (b1.mono c0.size)
    have s1 := t0.below c1
    refine ⟨s1, ?_⟩
    simp only [zzA, zzB, zzC, Act.put, zzD, zzE, zzF]
    refine wpAnyH_all (rs := [6]) (by kernel_rfl) (by simp) ?_
    intro k hk
    simp only [List.mem_cons, List.mem_nil_iff, or_false] at hk
    subst hk
    refine wpOp_run rfl rfl (wp_call_fn 105 #[.agg (spA ix sb), .int .u32 (lc : Int)] (by simp [execOp, go_sem, Act.eval, resolve, invoke, enterPs]) ?_)
    refine (HPS.out u1).mono ?_
    rintro e u2 ⟨rfl, b2⟩
    have c2 := c1.trans (b2.mono c1.size)
    exact ⟨rfl, by rw [HAW.out, if_pos hlc]; rfl, HB2.out.trans (c2.mono HB2.out.size)⟩
  · have hlc0 : lc = 0 := by omega
    have HPS : Hid (∀ y, Calls Tryz.prog 105 #[.agg (spA ix sb), .int .u32 (lc : Int)] y fun e w' => e = .returned (.tuple #[]) ∧ Below y.heap.size y w') := fun y => by rw [hlc0]; exact pass_ok _ _ y
    refine wp_cut (α := Nat) (fun u y => Below wb.heap.size wb y) (fun a u => (((((((a.put (some 9) (.pointer (some ⟨p, 0, none⟩))).put (some 10) (.agg (spA ix sb))).put (some 11) (.pointer (some ⟨S, 0, none⟩))).put (some 12) (.pointer (some ⟨p, 0, none⟩))).put (some 13) (.agg (spA ix sb))).put (some 14) (.int .u32 (lc : Int))).put (some 15) (.tuple #[]))) ?_ ?_
    · refine wp_region_held (S := fun y => Tb p (s1 ix sb) none 0 y) (by kernel_rfl) ?_
      change wpAnyH _ _ _ _ _ _ _ _ wb.drew
      refine tk 0 (.pointer (some ⟨p, 0, none⟩)) rfl (by kernel_rfl) (fun _ _ _ h => nomatch h.1) rfl (fun _ hS => by simp [execOp, go_sem, Act.eval]) S0 ?_
      simp only [zzA, zzB, zzC, Act.put, zzD, zzE, zzF]
      refine tk 1 (.agg (spA ix sb)) rfl (by kernel_rfl) (fun _ _ _ h => nomatch h.1) rfl (fun _ hS => exec_load rfl rfl (run_ldSp hS.sp)) S0 ?_
      simp only [zzA, zzB, zzC, Act.put, zzD, zzE, zzF]
      refine tk 2 (.pointer (some ⟨S, 0, none⟩)) rfl (by kernel_rfl) (fun _ _ _ h => nomatch h.1) rfl (fun _ hS => rfl) S0 ?_
      simp only [zzA, zzB, zzC, Act.put, zzD, zzE, zzF]
      refine tk 3 (.pointer (some ⟨p, 0, none⟩)) rfl (by kernel_rfl) (fun _ _ _ h => nomatch h.1) rfl (fun _ hS => by simp [execOp, go_sem, Act.eval]) S0 ?_
      simp only [zzA, zzB, zzC, Act.put, zzD, zzE, zzF]
      refine tk 4 (.agg (spA ix sb)) rfl (by kernel_rfl) (fun _ _ _ h => nomatch h.1) rfl (fun _ hS => exec_load rfl rfl (run_ldSp hS.sp)) S0 ?_
      simp only [zzA, zzB, zzC, Act.put, zzD, zzE, zzF]
      refine wpAnyH_all (rs := [5]) (by kernel_rfl) (by simp) ?_
      intro k hk
      simp only [List.mem_cons, List.mem_nil_iff, or_false] at hk
      subst hk
      refine wpOp_run rfl rfl (wp_call_fn 129 #[.pointer (some ⟨S, 0, none⟩), .agg (spA ix sb)] (by simp [execOp, go_sem, Act.eval, resolve, invoke, enterLv]) ?_)
      refine (HLV.out wb.drew c0).mono ?_
      rintro e u1 ⟨rfl, b1⟩
      have c1 := c0.trans (b1.mono c0.size)
      have s1 := t0.below c1
      refine ⟨s1, ?_⟩
      simp only [zzA, zzB, zzC, Act.put, zzD, zzE, zzF]
      refine wpAnyH_all (rs := [6]) (by kernel_rfl) (by simp) ?_
      intro k hk
      simp only [List.mem_cons, List.mem_nil_iff, or_false] at hk
      subst hk
      refine wpOp_run rfl rfl (wp_call_fn 105 #[.agg (spA ix sb), .int .u32 (lc : Int)] (by simp [execOp, go_sem, Act.eval, resolve, invoke, enterPs]) ?_)
      refine (HPS.out u1).mono ?_
      rintro e u2 ⟨rfl, b2⟩
      have c2 := c1.trans (b2.mono c1.size)
      have s2 := t0.below c2
      refine ⟨s2, ?_⟩
      simp only [zzA, zzB, zzC, Act.put, zzD, zzE, zzF]
      refine wpAnyH_done (by kernel_rfl) ?_ _
      exact ⟨rfl, 0, rfl, c2⟩
    intro u y hI
    simp only [Act.put, List.setIfInBounds_toArray, List.set_cons_succ, List.set_cons_zero]
    have q3 := Q2.out.below hI
    have t3 := T2.out.below hI
    have p3 := p2.below hI
    have HB3 := hidOf2 (HB2.out.trans (hI.mono HB2.out.size))
    have l3 := q3.load
    have c03 := q3.c0
    rw [hn] at c03
    have c6 := p3.c.2.2.2.2.2.2
    have c6 : y.cell? ⟨p, 6, none⟩ = some (.int .u32 0) := c6
    have l4 := p3.load
    have hs1 : (if n % 2 = 1 then some N else none) = none ∨ n % 2 = 1 := by by_cases h : n % 2 = 1; exact .inr h; exact .inl (if_neg h)
    have t4 := t3.row (t := s1 ix sb) (ap := none) (cq := 0)
    have B4 := below_row HB3.out (by rw [hk]; omega) HB3.out.size (q := k + 1) (trA (s1 ix sb) none 0)
    clear c0 S0 HLV HPS Q2 T2 H2 D2 HB2 t0 hI hlv
    by_cases hn1 : n % 2 = 1
    · have d1 : (((n % 2 : Nat) : Int) != 0) = true := by simp; omega
      obtain ⟨m, hm⟩ : ∃ m, n % 2 = m := ⟨_, rfl⟩
      rw [hm] at a1 d1
      rw [if_neg (by simp [hlc0])] at HAW
      go_wp2_with (first | (refine ldG l3 rfl _ rfl rfl ?_))
      refine (hnu _).mono ?_
      rintro e w4 ⟨rfl, b4⟩
      have p4 := p3.below b4
      have x5 := p4.c.2.2.2.2.2.1
      have x6 := p4.c.2.2.2.2.2.2
      have z5 : w4.frozen? ⟨p, 5, none⟩ = false := Lib.frozen_of_heap p4 5
      have z6 : w4.frozen? ⟨p, 6, none⟩ = false := Lib.frozen_of_heap p4 6
      have p5 := p4.said N
      have t5 := t3.below b4
      have B5 := HB3.out.trans (b4.mono HB3.out.size)
      have b5 : Below w.heap.size w ((w4.setCell ⟨p, 5, none⟩ (.bool true)).setCell ⟨p, 6, none⟩ (.int .u32 (N : Int))) := (B5.setCell (p := ⟨p, 5, none⟩) (by rw [hk]; show k ≤ p; omega) _).setCell (p := ⟨p, 6, none⟩) (by rw [hk]; show k ≤ p; omega) _
      have t6 : Tb (k + 1) Ss.nul none 0 ((w4.setCell ⟨p, 5, none⟩ (.bool true)).setCell ⟨p, 6, none⟩ (.int .u32 (N : Int))) := by
        have e1 := Below.heap_setCell (w4.setCell ⟨p, 5, none⟩ (.bool true)) ⟨p, 6, none⟩ (.int .u32 (N : Int)) (k + 1) (by show k + 1 ≠ p; omega)
        have e2 := Below.heap_setCell w4 ⟨p, 5, none⟩ (.bool true) (k + 1) (by show k + 1 ≠ p; omega)
        exact (e1.trans e2).trans t5
      have HX : Hid (∀ X, X = (w4.setCell ⟨p, 5, none⟩ (.bool true)).setCell ⟨p, 6, none⟩ (.int .u32 (N : Int)) → Tb p { s1 ix sb with sz := some N } none 0 X ∧ Tb (k + 1) Ss.nul none 0 X ∧ Below w.heap.size w X) := fun X hX => by subst hX; exact ⟨p5, t6, b5⟩
      clear p5 t6 b5 B5 t5 p4 b4 hnu t4 B4 l4 p3 t3 q3 l3 c03 c6
      go_upto_region 5 with fail
      generalize hX : (w4.setCell ⟨p, 5, none⟩ (.bool true)).setCell ⟨p, 6, none⟩ (.int .u32 (N : Int)) = X
      obtain ⟨p5, t5, b5⟩ := HX.out X hX.symm
      clear HX hX x5 x6 z5 z6
      have c6 : X.cell? ⟨p, 6, none⟩ = some (.int .u32 (N : Int)) := p5.c.2.2.2.2.2.2
      have r5 := p5.sp
      have l5 := p5.load
      have t6 := t5.row (t := { s1 ix sb with sz := some N }) (ap := none) (cq := 0)
      have B6 := below_row b5 (by rw [hk]; omega) b5.size (q := k + 1) (trA { s1 ix sb with sz := some N } none 0)
      by_cases hN : 65536 < N
      · have d2 : decide ((65536 : Int) < (N : Int)) = true := by simp; omega
        have hP := pass_bad ix sb 84148229 (by decide) X
        have HB5 := hidOf2 b5
        go_wp2_with (first | (refine ldSp (ix := ix) (sb := sb) r5 rfl _ rfl rfl ?_))
        refine hP.mono ?_
        rintro e w6 ⟨rfl, b6⟩
        exact ⟨rfl, by rw [HAW.out, if_pos ⟨hn1, hN⟩]; rfl, HB5.out.trans (b6.mono HB5.out.size)⟩
      · have d2 : decide ((65536 : Int) < (N : Int)) = false := by simp; omega
        have HB6 := hidOf2 B6
        clear B6 b5
        go_wp2_with (first | (refine ldG l5 rfl _ rfl rfl ?_) | (refine sdTb (t := { s1 ix sb with sz := some N }) (ap := none) (cq := 0) t5 rfl _ _ rfl rfl rfl ?_))
        exact bodyPost_ret (awaited_results t6 _ rfl) rfl ⟨by rw [HAW.out, if_neg (fun h => hN h.2), if_pos hn1]; rfl, by first | exact HB6.out | (have z := HB6.out; rw [hk] at z; exact z)⟩
    · have d1 : (((n % 2 : Nat) : Int) != 0) = false := by simp; omega
      obtain ⟨m, hm⟩ : ∃ m, n % 2 = m := ⟨_, rfl⟩
      rw [hm] at a1 d1
      have HB4 := hidOf2 B4
      clear B4
      rw [if_neg (by simp [hlc0]), if_neg (fun h => hn1 h.1), if_neg hn1] at HAW
      go_wp2_with (first | (refine ldG l4 rfl _ rfl rfl ?_) | (refine sdTb (t := s1 ix sb) (ap := none) (cq := 0) t3 rfl _ _ rfl rfl rfl ?_))
      exact bodyPost_ret (awaited_results t4 _ rfl) rfl ⟨by rw [HAW.out]; rfl, by first | exact HB4.out | (have z := HB4.out; rw [hk] at z; exact z)⟩
end
end Go.Proofs.YtahfnknbmikmkaaGreat
