/- Contracts: beginWrite. Contracts: Read of both dictionaries, whose bytes are new. copy into a frame. -/
import Derived.Test.YtahfnknbmikmkaaGreatZs
import Derived.Test.YtahfnknbmikmkaaGreatKb19
import Derived.Test.YtahfnknbmikmkaaGreatKb17
import Derived.Test.YtahfnknbmikmkaaGreatKb10
import Derived.Laws.CopyRow
namespace Go.Proofs.YtahfnknbmikmkaaGreat
open Go.RowKit Go.Proofs.Ty
set_option linter.unusedVariables false
set_option maxRecDepth 1000000
set_option linter.unusedSimpArgs false
theorem bw_results {Q : Nat} {f : F8} {w : World} (h : Qb Q f w) (tmps : Array Value) (h2 : tmps[4]?.getD undef = .pointer (some ⟨Q, 0, none⟩)) :
    (results Tryz.f64 tmps).run Tryz.prog w = .ok (.agg f.arr) w := by
  have l0 := h.load
  simp [Go.results, Tryz.results64, h2, asAddr, l0]
theorem enterCt : ∀ args x, (callFunc 110 args).run Tryz.prog x = .ok (.enter 110 args) x := fun _ _ => by rfl
theorem enterWr : ∀ args x, (callFunc 109 args).run Tryz.prog x = .ok (.enter 109 args) x := fun _ _ => by rfl
theorem and2 : ∀ n < 256, bits .and .u8 ((n : Nat) : Int) 2 = ((2 * (n / 2 % 2) : Nat) : Int) := by decide +kernel
theorem Kp.mono {bs cs : List Nat} {w x : World} (h : Kp bs w x) (hs : ∀ b ∈ bs, b ∈ cs) : Kp cs w x := ⟨h.os, h.tape, h.output, h.size, fun k hk hn => h.block k hk (fun hb => hn (hs k hb))⟩
/-- A first frame's answer, its dictionary, its state. -/
theorem wrtO_at (its : List Im) (q : F8) (h : q.b0.toNat / 2 % 2 = 1) : wrtO its q = (if wc its (pix q) (psb q) ((q.l.drop 4).take (cnt its q)) = 0 then .ok (frm 96 (pix q) (psb q) 0) else .bad (pix q) (psb q) (wc its (pix q) (psb q) ((q.l.drop 4).take (cnt its q))), wrt its (pix q) (psb q) ((q.l.drop 4).take (cnt its q)), Ss.nul) := by unfold wrtO; rw [if_pos h]
theorem Dct.b {D R : Nat} {its : List Im} {w : World} {i : Im} (h : Dct D R its w) (hi : i ∈ its) : w.heap[i.b]? = some (.cells (imC i.e i.v).toArray 106 (0, 0)) := h.items i hi
section
variable {S D R : Nat} {s : Ss} {ao : Option Addr} {cp : Nat} {its : List Im} {w : World}
set_option maxHeartbeats 8000000 in
theorem beginWrite_any (h : Pb S D s ao cp w) (hd : Dct D R its w) (q : F8) : Calls Tryz.prog 64 #[.pointer (some ⟨S, 0, none⟩), .agg q.arr] w fun e w' => e = (wrtO its q).1.e ∧ Pb S D (wrtO its q).2.2 none 0 w' ∧ Dct D R (wrtO its q).2.1 w' ∧ Kp (S :: its.map Im.b) w w' := by
  obtain ⟨W, hW⟩ : ∃ W, w.alloc (.cells q.arr 32) = W := ⟨_, rfl⟩
  obtain ⟨k, hk⟩ : ∃ k, w.heap.size = k := ⟨_, rfl⟩
  have hWs : W.heap.size = k + 1 := by rw [← hW, size_alloc, hk]
  have b0 : Below w.heap.size w (W.alloc (.cells zA8 32)) := (hW ▸ (Below.refl _ _).alloc (Nat.le_refl _) _).alloc (by rw [hWs, hk]; omega) _
  have q0 : Qb k q (W.alloc (.cells zA8 32)) := (Lib.alloc_old W _ k (by omega)).trans (by rw [← hk, ← hW]; exact Qb.new w q)
  have r0 : Qb (k + 1) F8.nul (W.alloc (.cells zA8 32)) := by rw [← hWs]; exact heap_alloc_new W _
  have hSk : S < k := by rw [← hk]; exact h.lt
  have h0 := h.below b0
  have d0 := hd.below b0
  have hRs := Reset10_any h0
  have hso : ∀ V, Calls Tryz.prog 67 #[.agg q.arr] V fun e w' => e = .returned (.agg (spA (pix q) (psb q))) ∧ Below V.heap.size V w' := spotOf_any q
  have hb0 := q.b0.toNat_lt
  have a2 := and2 _ hb0
  have hix := pix_lt q
  have hsb := psb_lt q
  have HB0 := hidOf2 b0
  have HD0 := hidOf2 d0
  have HP0 := hidOf2 h0
  obtain ⟨RO, hRO⟩ : ∃ r, wrtO its q = r := ⟨_, rfl⟩
  obtain ⟨EE, hEE⟩ : ∃ e, RO.1.e = e := ⟨_, rfl⟩
  obtain ⟨S2, hS2⟩ : ∃ e, RO.2.2 = e := ⟨_, rfl⟩
  obtain ⟨I2, hI2⟩ : ∃ e, RO.2.1 = e := ⟨_, rfl⟩
  rw [hRO, hEE, hS2, hI2]
  clear h hd b0 d0 h0
  go_enter Tryz.func64, Tryz.ntmps64
  go_upto_region 1 with fail
  change Code.wp Tryz.prog _ _ _ (W.alloc (.cells zA8 32))
  obtain ⟨V, hV⟩ : ∃ V, W.alloc (.cells zA8 32) = V := ⟨_, rfl⟩
  have hVs : V.heap.size = k + 2 := by rw [← hV, size_alloc, hWs]
  rw [hV] at q0 r0 HB0 HD0 HP0 hRs ⊢
  go_wp2_with fail
  refine hRs.mono ?_
  rintro e w1 ⟨rfl, h1, K1⟩
  have q1 : Qb k q w1 := (K1.block _ q0.lt (by simp; omega)).trans q0
  have r1 : Qb (k + 1) F8.nul w1 := (K1.block _ r0.lt (by simp; omega)).trans r0
  have D1 := hidOf2 (HD0.out.kpS HP0.out K1)
  have HK1 := hidOf2 ((Kp.of_below (bs := [S]) HB0.out).trans K1)
  have HP1 := hidOf2 h1
  have l1 := q1.load
  clear hRs K1 h1 q0 r0 HB0 HD0 HP0
  go_wp2_with (first | (refine ldG l1 rfl _ rfl rfl ?_))
  refine (hso _).mono ?_
  rintro e w2 ⟨rfl, b2⟩
  obtain ⟨p, hp⟩ : ∃ p, w2.heap.size = p := ⟨_, rfl⟩
  have z1 : Sp p 0 0 (w2.alloc (.cells (spA 0 0) 87)) := by rw [← hp]; exact Sp.new w2 0 0
  have bz : Below w2.heap.size w2 (w2.alloc (.cells (spA 0 0) 87)) := (Below.refl _ _).alloc (Nat.le_refl _) _
  have bz2 := below_row bz (by omega) (by rw [size_alloc]; omega) (q := p) (spA (pix q) (psb q))
  have z2 := z1.row (pix q) (psb q)
  have HZ : Hid (∀ X, X = (w2.alloc (.cells (spA 0 0) 87)).setRow p (spA (pix q) (psb q)) → Sp p (pix q) (psb q) X ∧ Below w2.heap.size w2 X) := fun X hX => by subst hX; exact ⟨z2, bz2⟩
  clear z2 bz2 bz l1
  go_upto_region 3 with (first | (refine sdS (jx := pix q) (tb := psb q) z1 rfl _ _ rfl rfl rfl ?_))
  change Code.wp Tryz.prog _ _ _ ((w2.alloc (.cells (spA 0 0) 87)).setRow p (spA (pix q) (psb q)))
  generalize hX : (w2.alloc (.cells (spA 0 0) 87)).setRow p (spA (pix q) (psb q)) = wb
  obtain ⟨p3, b3⟩ := HZ.out wb hX.symm
  have b23 := b2.trans (b3.mono b2.size)
  have q3 := q1.below b23
  have r3 := r1.below b23
  have hrp : k + 1 < p := by have := r1.lt; have := b2.size; omega
  have HK3 := hidOf2 (HK1.out.trans (Kp.of_below b23))
  have HP3 := hidOf2 (HP1.out.below b23)
  have HD3 := hidOf2 (D1.out.below b23)
  have c3 := q3.c0
  clear HZ hX z1 hso b2 b3 b23 HK1 HP1 D1 q1 r1
  have hst : leaC its (pix q) (psb q) = leaC its (pix q) (psb q) := rfl
  by_cases hat : q.b0.toNat / 2 % 2 = 1
  · have hwo := wrtO_at its q hat
    obtain ⟨n, hn⟩ : ∃ n, q.b0.toNat = n := ⟨_, rfl⟩
    have dd : (((2 * (n / 2 % 2) : Nat) : Int) != 0) = true := by rw [hn] at hat; simp; omega
    obtain ⟨m, hm⟩ : ∃ m, 2 * (n / 2 % 2) = m := ⟨_, rfl⟩
    rw [hn] at a2 c3 hat
    rw [hm] at a2 dd
    obtain ⟨cn, hcn⟩ : ∃ c, cnt its q = c := ⟨_, rfl⟩
    have hcn4 : cn ≤ 4 := hcn ▸ cnt_le its q
    have HCT : Hid (∀ y, Below wb.heap.size wb y → Calls Tryz.prog 110 #[.pointer (some ⟨S, 0, none⟩), .agg q.arr] y fun e w' => e = .returned (.int .i64 (cn : Int)) ∧ Below y.heap.size y w') := fun y hb => hcn ▸ count_any (HP3.out.below hb) (HD3.out.below hb) q
    rw [hcn] at hwo
    obtain ⟨l, hl⟩ : ∃ l, (q.l.drop 4).take cn = l := ⟨_, rfl⟩
    rw [hl] at hwo
    have HWR : Hid (∀ y, Below wb.heap.size wb y → Calls Tryz.prog 109 #[.pointer (some ⟨D, 0, none⟩), .int .u16 (pix q : Int), .int .u8 (psb q : Int), .slice (some ⟨k, 4, none⟩) cn 4] y fun e w' => e = .returned (.int .u32 (wc its (pix q) (psb q) l : Nat)) ∧ Dct D R (wrt its (pix q) (psb q) l) w' ∧ Kp (its.map Im.b) y w') := fun y hb => hl ▸ Write_any (HD3.out.below hb) _ _ hix hsb _ _ ((q3.below hb).bytes 4 cn (by omega) (by omega))
    obtain ⟨wcc, hwc⟩ : ∃ c, wc its (pix q) (psb q) l = c := ⟨_, rfl⟩
    rw [hRO] at hwo
    subst hwo
    simp only at hEE hS2 hI2
    subst hS2
    rw [hI2, hwc] at HWR
    rw [hwc] at hEE
    have HFB : Hid (wcc ≠ 0 → flE (pix q) (psb q) wcc = EE) := fun h => by rw [← hEE, if_neg h]; rfl
    have HFG : Hid (wcc = 0 → Ending.returned (.agg (frm 96 (pix q) (psb q) 0).arr) = EE) := fun h => by rw [← hEE, if_pos h]; rfl
    have HAN : Hid (∀ V, Calls Tryz.prog 72 #[.agg (spA (pix q) (psb q)), .int .u8 96] V fun e w' => e = .returned (.agg (frm 96 (pix q) (psb q) 0).arr) ∧ Below V.heap.size V w') := fun V => answer_any 96 _ _ V (by decide) hix hsb
    clear hI2 hwc hcn hl hEE hRO
    generalize frm 96 (pix q) (psb q) 0 = ff at *
    generalize pix q = ix at *
    generalize psb q = sb at *
    have HSS : Hid (∀ y, Below wb.heap.size wb y → (fun y => y.cell? ⟨S, 0, none⟩ = some (.pointer (some ⟨D, 0, none⟩)) ∧ Sp p ix sb y ∧ Qb k q y) y) := fun y hb => ⟨(HP3.out.below hb).c.1, p3.below hb, q3.below hb⟩
    have HAF : Hid (∀ y z, Below wb.heap.size wb y → Dct D R I2 z → Kp (its.map Im.b) y z → Pb S D Ss.nul none 0 z ∧ Sp p ix sb z ∧ Qb k q z ∧ Qb (k + 1) F8.nul z ∧ Dct D R I2 z ∧ Kp (S :: its.map Im.b) w z) := fun y z hb hd hK =>
      have dy := HD3.out.below hb
      ⟨kp_other dy hK (HP3.out.below hb) (by decide), kp_other dy hK (p3.below hb) (by decide), kp_other dy hK (q3.below hb) (by decide), kp_other dy hK (r3.below hb) (by decide), hd, (((HK3.out.trans (Kp.of_below hb)).mono (fun b hb => by simp at hb; simp [hb])).trans (hK.mono (fun b hb => List.mem_cons_of_mem _ hb)))⟩
    go_upto_region 4 with fail
    have c0 : Below wb.heap.size wb wb.drew := bdr (Below.refl _ _) 1
    have S0 := HSS.out _ c0
    by_cases hwz : wcc ≠ 0
    · have HPS : Hid (∀ y, Calls Tryz.prog 105 #[.agg (spA ix sb), .int .u32 (wcc : Int)] y fun e w' => e = flE ix sb wcc ∧ Below y.heap.size y w') := fun y => pass_bad _ _ wcc hwz y
      clear p3 q3 r3 HP3 HD3 HK3 HFG HAN c3
      refine wp_region_held (S := fun y => y.cell? ⟨S, 0, none⟩ = some (.pointer (some ⟨D, 0, none⟩)) ∧ Sp p ix sb y ∧ Qb k q y) (by kernel_rfl) ?_
      change wpAnyH _ _ _ _ _ _ _ _ wb.drew
      refine tk 0 (.agg (spA ix sb)) rfl (by kernel_rfl) (fun _ _ _ h => h) rfl (fun _ hS => exec_load rfl rfl (hS.2.1.load)) S0 ?_
      simp only [zzA, zzB, zzC, Act.put, zzD, zzE, zzF]
      refine tk 1 (.pointer (some ⟨S, 0, none⟩)) rfl (by kernel_rfl) (fun _ _ _ h => h) rfl (fun _ hS => rfl) S0 ?_
      simp only [zzA, zzB, zzC, Act.put, zzD, zzE, zzF]
      refine tk 2 (.pointer (some ⟨S, 0, none⟩)) rfl (by kernel_rfl) (fun _ _ _ h => h) rfl (fun _ hS => by simp [execOp, go_sem, Act.eval]) S0 ?_
      simp only [zzA, zzB, zzC, Act.put, zzD, zzE, zzF]
      refine tk 3 (.pointer (some ⟨S, 0, none⟩)) rfl (by kernel_rfl) (fun _ _ _ h => h) rfl (fun _ hS => by simp [execOp, go_sem, Act.eval]) S0 ?_
      simp only [zzA, zzB, zzC, Act.put, zzD, zzE, zzF]
      refine tk 4 (.pointer (some ⟨D, 0, none⟩)) rfl (by kernel_rfl) (fun _ _ _ h => h) rfl (fun _ hS => exec_load rfl rfl (load_pd _ _ _ _ hS.1)) S0 ?_
      simp only [zzA, zzB, zzC, Act.put, zzD, zzE, zzF]
      refine tk 5 (.pointer (some ⟨p, 0, none⟩)) rfl (by kernel_rfl) (fun _ _ _ h => h) rfl (fun _ hS => by simp [execOp, go_sem, Act.eval]) S0 ?_
      simp only [zzA, zzB, zzC, Act.put, zzD, zzE, zzF]
      refine tk 6 (.int .u16 (ix : Int)) rfl (by kernel_rfl) (fun _ _ _ h => h) rfl (fun _ hS => exec_load rfl rfl (load_u16 _ _ _ _ hS.2.1.c0)) S0 ?_
      simp only [zzA, zzB, zzC, Act.put, zzD, zzE, zzF]
      refine tk 7 (.pointer (some ⟨p, 1, none⟩)) rfl (by kernel_rfl) (fun _ _ _ h => h) rfl (fun _ hS => by simp [execOp, go_sem, Act.eval]) S0 ?_
      simp only [zzA, zzB, zzC, Act.put, zzD, zzE, zzF]
      refine tk 8 (.int .u8 (sb : Int)) rfl (by kernel_rfl) (fun _ _ _ h => h) rfl (fun _ hS => exec_load rfl rfl (load_u8 _ _ _ _ hS.2.1.c1)) S0 ?_
      simp only [zzA, zzB, zzC, Act.put, zzD, zzE, zzF]
      refine tk 9 (.pointer (some ⟨S, 0, none⟩)) rfl (by kernel_rfl) (fun _ _ _ h => h) rfl (fun _ hS => rfl) S0 ?_
      simp only [zzA, zzB, zzC, Act.put, zzD, zzE, zzF]
      refine tk 10 (.agg q.arr) rfl (by kernel_rfl) (fun _ _ _ h => h) rfl (fun _ hS => exec_load rfl rfl (hS.2.2.load)) S0 ?_
      simp only [zzA, zzB, zzC, Act.put, zzD, zzE, zzF]
      refine wpAnyH_all (rs := [11]) (by kernel_rfl) (by simp) ?_
      intro k hk
      simp only [List.mem_cons, List.mem_nil_iff, or_false] at hk
      subst hk
      refine wpOp_run rfl rfl (wp_call_fn 110 #[.pointer (some ⟨S, 0, none⟩), .agg q.arr] (by simp [execOp, go_sem, Act.eval, resolve, invoke, enterCt]) ?_)
      refine (HCT.out _ c0).mono ?_
      rintro e u1 ⟨rfl, b1⟩
      have c1 := c0.trans (b1.mono c0.size)
      have h1 := HSS.out _ c1
      refine ⟨h1, ?_⟩
      simp only [zzA, zzB, zzC, Act.put, zzD, zzE, zzF]
      refine tk 12 (.int .i64 ((4 + cn : Nat) : Int)) rfl (by kernel_rfl) (fun _ _ _ h => h) rfl (fun _ hS => exec_add (m := 4) (n := cn) rfl rfl rfl (by omega) _) h1 ?_
      simp only [zzA, zzB, zzC, Act.put, zzD, zzE, zzF]
      refine tk 13 (.slice (some ⟨k, 4, none⟩) cn 4) rfl (by kernel_rfl) (fun _ _ _ h => h) rfl (fun _ hS => exec_slice8n (k := k) (lo := 4) (hi := 4 + cn) rfl rfl rfl rfl (by omega) (by omega) (by omega) (by omega) (by omega) _) h1 ?_
      simp only [zzA, zzB, zzC, Act.put, zzD, zzE, zzF]
      refine wpAnyH_all (rs := [14]) (by kernel_rfl) (by simp) ?_
      intro k hk
      simp only [List.mem_cons, List.mem_nil_iff, or_false] at hk
      subst hk
      refine wpOp_run rfl rfl (wp_call_fn 109 #[.pointer (some ⟨D, 0, none⟩), .int .u16 (ix : Int), .int .u8 (sb : Int), .slice (some ⟨k, 4, none⟩) cn 4] (by simp [execOp, go_sem, Act.eval, resolve, invoke, enterWr]) ?_)
      refine (HWR.out _ c1).mono ?_
      rintro e u2 ⟨rfl, d2, K2⟩
      have g2 := HAF.out u1 u2 c1 d2 K2
      have s2 := (show (fun y => y.cell? ⟨S, 0, none⟩ = some (.pointer (some ⟨D, 0, none⟩)) ∧ Sp p ix sb y ∧ Qb k q y) u2 from ⟨g2.1.c.1, g2.2.1, g2.2.2.1⟩)
      refine ⟨s2, ?_⟩
      simp only [zzA, zzB, zzC, Act.put, zzD, zzE, zzF]
      refine wpAnyH_all (rs := [15]) (by kernel_rfl) (by simp) ?_
      intro k hk
      simp only [List.mem_cons, List.mem_nil_iff, or_false] at hk
      subst hk
      refine wpOp_run rfl rfl (wp_call_fn 105 #[.agg (spA ix sb), .int .u32 (wcc : Int)] (by simp [execOp, go_sem, Act.eval, resolve, invoke, enterPs]) ?_)
      refine (HPS.out u2).mono ?_
      rintro e u3 ⟨rfl, b3⟩
      exact ⟨rfl, HFB.out hwz, g2.1.below b3, g2.2.2.2.2.1.below b3, g2.2.2.2.2.2.trans (Kp.of_below b3)⟩
    · have hw0 : wcc = 0 := by omega
      have HPS : Hid (∀ y, Calls Tryz.prog 105 #[.agg (spA ix sb), .int .u32 (wcc : Int)] y fun e w' => e = .returned (.tuple #[]) ∧ Below y.heap.size y w') := fun y => by rw [hw0]; exact pass_ok _ _ y
      clear p3 q3 r3 HP3 HD3 HK3 c3
      refine wp_cut (α := Nat) (fun u y => Sp p ix sb y ∧ Qb (k + 1) F8.nul y ∧ Pb S D Ss.nul none 0 y ∧ Dct D R I2 y ∧ Kp (S :: its.map Im.b) w y) (fun a u => ((((((((((((((((a.put (some 14) (.agg (spA ix sb))).put (some 15) (.pointer (some ⟨S, 0, none⟩))).put (some 16) (.pointer (some ⟨S, 0, none⟩))).put (some 17) (.pointer (some ⟨S, 0, none⟩))).put (some 18) (.pointer (some ⟨D, 0, none⟩))).put (some 19) (.pointer (some ⟨p, 0, none⟩))).put (some 20) (.int .u16 (ix : Int))).put (some 21) (.pointer (some ⟨p, 1, none⟩))).put (some 22) (.int .u8 (sb : Int))).put (some 23) (.pointer (some ⟨S, 0, none⟩))).put (some 24) (.agg q.arr)).put (some 25) (.int .i64 (cn : Int))).put (some 26) (.int .i64 ((4 + cn : Nat) : Int))).put (some 27) (.slice (some ⟨k, 4, none⟩) cn 4)).put (some 28) (.int .u32 (wcc : Int))).put (some 29) (.tuple #[]))) ?_ ?_
      · refine wp_region_held (S := fun y => y.cell? ⟨S, 0, none⟩ = some (.pointer (some ⟨D, 0, none⟩)) ∧ Sp p ix sb y ∧ Qb k q y) (by kernel_rfl) ?_
        change wpAnyH _ _ _ _ _ _ _ _ wb.drew
        refine tk 0 (.agg (spA ix sb)) rfl (by kernel_rfl) (fun _ _ _ h => nomatch h.1) rfl (fun _ hS => exec_load rfl rfl (hS.2.1.load)) S0 ?_
        simp only [zzA, zzB, zzC, Act.put, zzD, zzE, zzF]
        refine tk 1 (.pointer (some ⟨S, 0, none⟩)) rfl (by kernel_rfl) (fun _ _ _ h => nomatch h.1) rfl (fun _ hS => rfl) S0 ?_
        simp only [zzA, zzB, zzC, Act.put, zzD, zzE, zzF]
        refine tk 2 (.pointer (some ⟨S, 0, none⟩)) rfl (by kernel_rfl) (fun _ _ _ h => nomatch h.1) rfl (fun _ hS => by simp [execOp, go_sem, Act.eval]) S0 ?_
        simp only [zzA, zzB, zzC, Act.put, zzD, zzE, zzF]
        refine tk 3 (.pointer (some ⟨S, 0, none⟩)) rfl (by kernel_rfl) (fun _ _ _ h => nomatch h.1) rfl (fun _ hS => by simp [execOp, go_sem, Act.eval]) S0 ?_
        simp only [zzA, zzB, zzC, Act.put, zzD, zzE, zzF]
        refine tk 4 (.pointer (some ⟨D, 0, none⟩)) rfl (by kernel_rfl) (fun _ _ _ h => nomatch h.1) rfl (fun _ hS => exec_load rfl rfl (load_pd _ _ _ _ hS.1)) S0 ?_
        simp only [zzA, zzB, zzC, Act.put, zzD, zzE, zzF]
        refine tk 5 (.pointer (some ⟨p, 0, none⟩)) rfl (by kernel_rfl) (fun _ _ _ h => nomatch h.1) rfl (fun _ hS => by simp [execOp, go_sem, Act.eval]) S0 ?_
        simp only [zzA, zzB, zzC, Act.put, zzD, zzE, zzF]
        refine tk 6 (.int .u16 (ix : Int)) rfl (by kernel_rfl) (fun _ _ _ h => nomatch h.1) rfl (fun _ hS => exec_load rfl rfl (load_u16 _ _ _ _ hS.2.1.c0)) S0 ?_
        simp only [zzA, zzB, zzC, Act.put, zzD, zzE, zzF]
        refine tk 7 (.pointer (some ⟨p, 1, none⟩)) rfl (by kernel_rfl) (fun _ _ _ h => nomatch h.1) rfl (fun _ hS => by simp [execOp, go_sem, Act.eval]) S0 ?_
        simp only [zzA, zzB, zzC, Act.put, zzD, zzE, zzF]
        refine tk 8 (.int .u8 (sb : Int)) rfl (by kernel_rfl) (fun _ _ _ h => nomatch h.1) rfl (fun _ hS => exec_load rfl rfl (load_u8 _ _ _ _ hS.2.1.c1)) S0 ?_
        simp only [zzA, zzB, zzC, Act.put, zzD, zzE, zzF]
        refine tk 9 (.pointer (some ⟨S, 0, none⟩)) rfl (by kernel_rfl) (fun _ _ _ h => nomatch h.1) rfl (fun _ hS => rfl) S0 ?_
        simp only [zzA, zzB, zzC, Act.put, zzD, zzE, zzF]
        refine tk 10 (.agg q.arr) rfl (by kernel_rfl) (fun _ _ _ h => nomatch h.1) rfl (fun _ hS => exec_load rfl rfl (hS.2.2.load)) S0 ?_
        simp only [zzA, zzB, zzC, Act.put, zzD, zzE, zzF]
        refine wpAnyH_all (rs := [11]) (by kernel_rfl) (by simp) ?_
        intro k hk
        simp only [List.mem_cons, List.mem_nil_iff, or_false] at hk
        subst hk
        refine wpOp_run rfl rfl (wp_call_fn 110 #[.pointer (some ⟨S, 0, none⟩), .agg q.arr] (by simp [execOp, go_sem, Act.eval, resolve, invoke, enterCt]) ?_)
        refine (HCT.out _ c0).mono ?_
        rintro e u1 ⟨rfl, b1⟩
        have c1 := c0.trans (b1.mono c0.size)
        have h1 := HSS.out _ c1
        refine ⟨h1, ?_⟩
        simp only [zzA, zzB, zzC, Act.put, zzD, zzE, zzF]
        refine tk 12 (.int .i64 ((4 + cn : Nat) : Int)) rfl (by kernel_rfl) (fun _ _ _ h => nomatch h.1) rfl (fun _ hS => exec_add (m := 4) (n := cn) rfl rfl rfl (by omega) _) h1 ?_
        simp only [zzA, zzB, zzC, Act.put, zzD, zzE, zzF]
        refine tk 13 (.slice (some ⟨k, 4, none⟩) cn 4) rfl (by kernel_rfl) (fun _ _ _ h => nomatch h.1) rfl (fun _ hS => exec_slice8n (k := k) (lo := 4) (hi := 4 + cn) rfl rfl rfl rfl (by omega) (by omega) (by omega) (by omega) (by omega) _) h1 ?_
        simp only [zzA, zzB, zzC, Act.put, zzD, zzE, zzF]
        refine wpAnyH_all (rs := [14]) (by kernel_rfl) (by simp) ?_
        intro k hk
        simp only [List.mem_cons, List.mem_nil_iff, or_false] at hk
        subst hk
        refine wpOp_run rfl rfl (wp_call_fn 109 #[.pointer (some ⟨D, 0, none⟩), .int .u16 (ix : Int), .int .u8 (sb : Int), .slice (some ⟨k, 4, none⟩) cn 4] (by simp [execOp, go_sem, Act.eval, resolve, invoke, enterWr]) ?_)
        refine (HWR.out _ c1).mono ?_
        rintro e u2 ⟨rfl, d2, K2⟩
        have g2 := HAF.out u1 u2 c1 d2 K2
        have s2 := (show (fun y => y.cell? ⟨S, 0, none⟩ = some (.pointer (some ⟨D, 0, none⟩)) ∧ Sp p ix sb y ∧ Qb k q y) u2 from ⟨g2.1.c.1, g2.2.1, g2.2.2.1⟩)
        refine ⟨s2, ?_⟩
        simp only [zzA, zzB, zzC, Act.put, zzD, zzE, zzF]
        refine wpAnyH_all (rs := [15]) (by kernel_rfl) (by simp) ?_
        intro k hk
        simp only [List.mem_cons, List.mem_nil_iff, or_false] at hk
        subst hk
        refine wpOp_run rfl rfl (wp_call_fn 105 #[.agg (spA ix sb), .int .u32 (wcc : Int)] (by simp [execOp, go_sem, Act.eval, resolve, invoke, enterPs]) ?_)
        refine (HPS.out u2).mono ?_
        rintro e u3 ⟨rfl, b3⟩
        have s3 := (show (fun y => y.cell? ⟨S, 0, none⟩ = some (.pointer (some ⟨D, 0, none⟩)) ∧ Sp p ix sb y ∧ Qb k q y) u3 from ⟨(g2.1.below b3).c.1, g2.2.1.below b3, g2.2.2.1.below b3⟩)
        refine ⟨s3, ?_⟩
        simp only [zzA, zzB, zzC, Act.put, zzD, zzE, zzF]
        refine wpAnyH_done (by kernel_rfl) ?_ _
        exact ⟨rfl, 0, rfl, g2.2.1.below b3, g2.2.2.2.1.below b3, g2.1.below b3, g2.2.2.2.2.1.below b3, g2.2.2.2.2.2.trans (Kp.of_below b3)⟩
      intro u y hI
      simp only [Act.put, List.setIfInBounds_toArray, List.set_cons_succ, List.set_cons_zero]
      obtain ⟨p4, r4, h4, d4, K4⟩ := hI
      have l4 := p4.load
      have HH4 := hidOf2 (And.intro h4 (And.intro d4 K4))
      clear HPS HAF HSS HWR HCT c0 S0 HFB p4 h4 d4 K4
      go_wp2_with (first | (refine ldG l4 rfl _ rfl rfl ?_))
      refine (HAN.out _).mono ?_
      rintro e w5 ⟨rfl, b5⟩
      have r5 := r4.below b5
      have r6 := r5.row ff
      have r5l := r5.lt
      have hl4 := r4.lt
      have HE : Hid (Pb S D Ss.nul none 0 (w5.setRow (k + 1) ff.arr) ∧ Dct D R I2 (w5.setRow (k + 1) ff.arr) ∧ Kp (S :: its.map Im.b) w (w5.setRow (k + 1) ff.arr)) := by
        obtain ⟨h4, d4, K4⟩ := HH4.out
        refine ⟨(setRow_other _ _ _ _ (by omega)).trans (h4.below b5), (d4.below b5).of_heap fun b A T fr hb hT => setRow_other _ _ _ _ ?_, ?_⟩
        · rintro rfl
          rw [show w5.heap[k + 1]? = some (.cells F8.nul.arr 32 (0, 0)) from r5] at hb
          injection hb with hb
          injection hb with _ hb2
          subst hb2
          revert hT
          decide
        · have K5 := K4.trans (Kp.of_below b5)
          exact ⟨K5.os, K5.tape, K5.output, by simpa using K5.size, fun j hj hn => (setRow_other _ _ _ _ (by omega)).trans (K5.block j hj hn)⟩
      clear HH4 r4 b5 HAN
      go_wp2_with (first | (refine sdF (g := ff) r5 rfl _ _ rfl rfl rfl ?_))
      exact bodyPost_ret (bw_results r6 _ rfl) rfl ⟨HFG.out hw0, HE.out.1, HE.out.2.1, HE.out.2.2⟩
  · have hwo : wrtO its q = if leaC its (pix q) (psb q) ≠ 0 then (.bad (pix q) (psb q) (leaC its (pix q) (psb q)), its, Ss.nul)
      else if q.b0.toNat % 2 = 1 ∧ 65536 < num4 q then (.bad (pix q) (psb q) 84148229, its, Ss.nul)
      else (.ok (frm 96 (pix q) (psb q) 0), its, ⟨1, pix q, psb q, 0, [], if q.b0.toNat % 2 = 1 then some (num4 q) else none⟩) := by unfold wrtO; rw [if_neg hat]
    have hAW := awaited_any HP3.out HD3.out q
    have hae : awaE its q = if leaC its (pix q) (psb q) ≠ 0 then flE (pix q) (psb q) (leaC its (pix q) (psb q))
      else if q.b0.toNat % 2 = 1 ∧ 65536 < num4 q then flE (pix q) (psb q) 84148229
      else .returned (.agg (trA ⟨1, pix q, psb q, 0, [], if q.b0.toNat % 2 = 1 then some (num4 q) else none⟩ none 0)) := rfl
    have l3 := q3.load
    have HBAD : Hid (∀ (V : World), Below wb.heap.size wb V → Pb S D Ss.nul none 0 V ∧ Dct D R its V ∧ Kp (S :: its.map Im.b) w V) := fun V hb => ⟨HP3.out.below hb, HD3.out.below hb, (HK3.out.trans (Kp.of_below hb)).mono (fun b hb => by simp at hb; simp [hb])⟩
    have HAN : Hid (∀ V, Calls Tryz.prog 72 #[.agg (spA (pix q) (psb q)), .int .u8 96] V fun e w' => e = .returned (.agg (frm 96 (pix q) (psb q) 0).arr) ∧ Below V.heap.size V w') := fun V => answer_any 96 _ _ V (by decide) hix hsb
    rw [hRO] at hwo
    have hb9 : (((2 * (q.b0.toNat / 2 % 2) : Nat) : Int) != 0) = false := by simp; omega
    obtain ⟨n, hn⟩ : ∃ n, q.b0.toNat = n := ⟨_, rfl⟩
    rw [hn] at a2 c3 hat hb9 hwo hae
    obtain ⟨m, hm⟩ : ∃ m, 2 * (n / 2 % 2) = m := ⟨_, rfl⟩
    rw [hm] at a2 hb9
    by_cases g1 : leaC its (pix q) (psb q) ≠ 0
    · rw [if_pos g1] at hwo hae
      subst hwo
      simp only at hEE hS2 hI2
      subst hS2 hI2 hEE
      rw [hae] at hAW
      clear hae p3 q3 r3
      go_wp2_with (first | (refine ldG l3 rfl _ rfl rfl ?_))
      refine hAW.mono ?_
      rintro e w4 ⟨rfl, b4⟩
      exact ⟨rfl, rfl, HBAD.out w4 b4⟩
    · rw [if_neg g1] at hwo hae
      by_cases g2 : n % 2 = 1 ∧ 65536 < num4 q
      · rw [if_pos g2] at hwo hae
        subst hwo
        simp only at hEE hS2 hI2
        subst hS2 hI2 hEE
        rw [hae] at hAW
        clear hae p3 q3 r3
        go_wp2_with (first | (refine ldG l3 rfl _ rfl rfl ?_))
        refine hAW.mono ?_
        rintro e w4 ⟨rfl, b4⟩
        exact ⟨rfl, rfl, HBAD.out w4 b4⟩
      · rw [if_neg g2] at hwo hae
        subst hwo
        simp only at hEE hS2 hI2
        subst hI2 hEE
        rw [hae, hS2] at hAW
        obtain ⟨ff, hff⟩ : ∃ f, frm 96 (pix q) (psb q) 0 = f := ⟨_, rfl⟩
        rw [hff] at HAN
        clear hae g1 g2 hS2
        go_wp2_with (first | (refine ldG l3 rfl _ rfl rfl ?_))
        refine hAW.mono ?_
        rintro e w4 ⟨rfl, b4⟩
        obtain ⟨h4, d4, K4⟩ := HBAD.out w4 b4
        have p4 := p3.below b4
        have r4 := r3.below b4
        have th := h4.there
        have Hz : Hid (∀ X, X = w4.setCells S 1 (trC S2 none 0) → Pb S D S2 none 0 X ∧ Dct D R its X ∧ Kp (S :: its.map Im.b) w X ∧ Sp p (pix q) (psb q) X ∧ Qb (k + 1) F8.nul X) := fun X hX => by
          subst hX
          have Ks := Kp.sets w4 S 1 (trC S2 none 0)
          exact ⟨h4.set S2 none 0, d4.kpS h4 Ks, K4.trans (Ks.mono (fun b hb => by simp at hb; simp [hb])), (Ks.block _ p4.lt (by simp; omega)).trans p4, (Ks.block _ r4.lt (by simp; omega)).trans r4⟩
        clear p4 r4 h4 d4 K4 p3 q3 r3 l3 HBAD hAW HP3 HD3 HK3
        go_upto_region 6 with (first | (refine sdTr th S2 none 0 rfl _ _ rfl rfl rfl ?_))
        generalize hX : w4.setCells S 1 (trC S2 none 0) = X
        obtain ⟨h5, d5, K5, p5, r5⟩ := Hz.out X hX.symm
        clear Hz hX th
        have l5 := p5.load
        have HH5 := hidOf2 (And.intro h5 (And.intro d5 K5))
        clear p5 h5 d5 K5
        go_wp2_with (first | (refine ldG l5 rfl _ rfl rfl ?_))
        refine (HAN.out _).mono ?_
        rintro e w6 ⟨rfl, b6⟩
        have r6 := r5.below b6
        have r7 := r6.row ff
        have r5l := r5.lt
        have HE : Hid (Pb S D S2 none 0 (w6.setRow (k + 1) ff.arr) ∧ Dct D R its (w6.setRow (k + 1) ff.arr) ∧ Kp (S :: its.map Im.b) w (w6.setRow (k + 1) ff.arr)) := by
          obtain ⟨h4, d4, K4⟩ := HH5.out
          refine ⟨(setRow_other _ _ _ _ (by omega)).trans (h4.below b6), (d4.below b6).of_heap fun b A T fr hb hT => setRow_other _ _ _ _ ?_, ?_⟩
          · rintro rfl
            rw [show w6.heap[k + 1]? = some (.cells F8.nul.arr 32 (0, 0)) from r6] at hb
            injection hb with hb
            injection hb with _ hb2
            subst hb2
            revert hT
            decide
          · have K5 := K4.trans (Kp.of_below b6)
            exact ⟨K5.os, K5.tape, K5.output, by simpa using K5.size, fun j hj hn => (setRow_other _ _ _ _ (by omega)).trans (K5.block j hj hn)⟩
        clear HH5 r5 b6 HAN
        go_wp2_with (first | (refine sdF (g := ff) r6 rfl _ _ rfl rfl rfl ?_))
        exact bodyPost_ret (bw_results r7 _ rfl) rfl ⟨by rw [← hff]; rfl, HE.out.1, HE.out.2.1, HE.out.2.2⟩
end
end Go.Proofs.YtahfnknbmikmkaaGreat
namespace Go.Proofs.YtahfnknbmikmkaaGreat
open Go.RowKit Go.Proofs.Ty
set_option linter.unusedVariables false
set_option maxRecDepth 1000000
set_option linter.unusedSimpArgs false
end Go.Proofs.YtahfnknbmikmkaaGreat
namespace Go.Proofs.YtahfnknbmikmkaaGreat
open Go.RowKit Go.Proofs.Ty
set_option linter.unusedVariables false
set_option maxRecDepth 1000000
set_option linter.unusedSimpArgs false
def ofL (l : List UInt8) : F8 := ⟨l.getD 0 0, l.getD 1 0, l.getD 2 0, l.getD 3 0, l.getD 4 0, l.getD 5 0, l.getD 6 0, l.getD 7 0⟩
theorem len8 {l : List UInt8} (h : l.length = 8) : ∃ a b c d e f g i, l = [a, b, c, d, e, f, g, i] := by
  match l, h with
  | [a, b, c, d, e, f, g, i], _ => exact ⟨a, b, c, d, e, f, g, i, rfl⟩
theorem ofL_arr {l : List UInt8} (h : l.length = 8) : (ofL l).arr = (Lib.byteCells l).toArray := by
  obtain ⟨a, b, c, d, e, f, g, i, rfl⟩ := len8 h
  simp [ofL, F8.arr, F8.c, Lib.byteCells]
theorem F8.arr_l (f : F8) : f.arr = (Lib.byteCells f.l).toArray := by simp [F8.arr, F8.c, F8.l, Lib.byteCells]
theorem F8.l_len (f : F8) : f.l.length = 8 := rfl
/-- A frame with bytes put into it. -/
def F8.put (f : F8) (o : Nat) (l : List UInt8) : F8 := ofL (f.l.take o ++ l ++ f.l.drop (o + l.length))
theorem put_len (f : F8) (o : Nat) (l : List UInt8) (h : o + l.length ≤ 8) : (f.l.take o ++ l ++ f.l.drop (o + l.length)).length = 8 := by
  simp [F8.l_len]
  omega
theorem Kp.setRow1 (w : World) (g : Nat) (A : Array Value) : Kp [g] w (w.setRow g A) :=
  ⟨rfl, rfl, rfl, by simp, fun k hk hn => setRow_other _ _ _ _ (by simpa using hn)⟩
theorem copy8 (w : World) (g o : Nat) (f : F8) (hg : Qb g f w) (ho : o < 8) (ao : Option Addr) (n cp : Nat) (l : List UInt8) (hn : l.length = n) (hB : Bytes w (.slice ao n cp) l) :
    ∃ w', (∀ ty, (Builtin.copy_ #[47, 47] ty #[.slice (some ⟨g, o, none⟩) (8 - o) (8 - o), .slice ao n cp]).run Tryz.prog w = .ok (.int .i64 ((min n (8 - o) : Nat) : Int)) w') ∧ Qb g (f.put o (l.take (8 - o))) w' ∧ Kp [g] w w' := by
  subst hn
  obtain ⟨ao', cap', hv, h0, hc⟩ := hB
  injection hv with e1 _ e3
  subst e1 e3
  have hi1 : (Tryz.prog.info? 5).map (·.size) = some 1 := by kernel_rfl
  cases ao with
  | none =>
    obtain ⟨rfl, rfl⟩ := h0 rfl
    obtain ⟨i0, hi0, hz0⟩ := u8size
    refine ⟨w, fun ty => ?_, ?_, Kp.refl _ _⟩
    · simp [Builtin.copy_, run_underlying Tryz.underlying47, Builtin.lenOf, Builtin.firstCells, sizeOf, typeInfo, hi0, hz0, go_sem]
    · have : f.put o (([] : List UInt8).take (8 - o)) = f := by
        simp [F8.put]
        rfl
      rw [this]
      exact hg
  | some ad =>
    have hm : (l.take (8 - o)).length = min l.length (8 - o) := by rw [List.length_take]; omega
    have hcs : (Lib.byteCells (l.take (8 - o))).length = min l.length (8 - o) := by rw [Lib.byteCells_length, hm]
    refine ⟨_, fun ty => ?_, ?_, Kp.setRow1 w g ((f.arr.toList.take o ++ Lib.byteCells (l.take (8 - o)) ++ f.arr.toList.drop (o + (Lib.byteCells (l.take (8 - o))).length)).toArray)⟩
    · have := run_copy_row (P := Tryz.prog) w 47 47 ty 5 g o (8 - o) (8 - o) ad l.length cp f.arr 32 (Lib.byteCells (l.take (8 - o))) Tryz.underlying47 hi1 hg (by rw [hcs]; try rfl) (fun j v hv => by
        have hj : j < (l.take (8 - o)).length := by have := (List.getElem?_eq_some_iff.1 hv).1; rwa [Lib.byteCells_length] at this
        have hjl : j < l.length := by rw [hm] at hj; omega
        obtain ⟨b, off, ha, _, hcell⟩ := hc j hjl
        injection ha with ha
        subst ha
        rw [add_off, hcell]
        have hv2 : (Lib.byteCells (l.take (8 - o)))[j]? = some (.int .u8 (l[j].toNat : Int)) := by
          simp [Lib.byteCells, List.getElem?_take, hjl]
          rw [hm] at hj
          omega
        exact (hv2.symm.trans hv)) (by rw [hcs, f.size]; omega) (fun v hv => byteCells_one _ v hv)
      rw [this, hcs]
      rfl
    · have hl8 := put_len f o (l.take (8 - o)) (by rw [hm]; omega)
      have e : (F8.put f o (l.take (8 - o))).arr = (f.arr.toList.take o ++ Lib.byteCells (l.take (8 - o)) ++ f.arr.toList.drop (o + (Lib.byteCells (l.take (8 - o))).length)).toArray := by
        unfold F8.put
        rw [ofL_arr hl8, f.arr_l]
        simp [Lib.byteCells, List.map_take, List.map_drop]
      rw [← e]
      exact hg.row _
theorem wpList_copy8 (w : World) {ops : Array Oper} {rest : List Oper} {o : Oper} {a : Act} {Q : Exit → Act → World → Prop} (hgd : o.guard = none) (d s : Operand) (t t' : TypeId)
    (ho : o.op = .call { callee := .builtin .copy, args := #[d, s], argTypes := #[t, t'] }) (v u : Value) (hd : a.eval d = v) (hs : a.eval s = u) {v' : Value} {w' : World}
    (hr : (Builtin.copy_ #[t, t'] o.type #[v, u]).run Tryz.prog w = .ok v' w') (h : wpList Tryz.prog ops Q rest (a.put o.dst v') w') : wpList Tryz.prog ops Q (o :: rest) a w :=
  wpList_plain hgd fun K hK => by
    have h2 := hK _ _ h
    unfold Oper.wp execOp
    simp only [ho, resolve, invoke, builtin, Sem.run_bind, Sem.run_pure, Result.andThen_ok, List.map_toArray, List.map_cons, List.map_nil, hd, hs, hr]
    exact h2
theorem here_put (ix sb : Nat) (b : List UInt8) (h1 : 1 ≤ b.length) (h2 : b.length ≤ 4) : (frm (67 + 4 * (4 - b.length)) ix sb 0).put 4 (b.take 4) = here ix sb b := by
  match b, h1, h2 with
  | [x], _, _ => rfl
  | [x, y], _, _ => rfl
  | [x, y, z], _, _ => rfl
  | [x, y, z, u], _, _ => rfl
theorem sl8t (k lo : Nat) (h3 : lo < 8) (W : World) : (Instr.sliceAt 32 (.pointer (some ⟨k, 0, none⟩)) (some (.int .i64 (lo : Int))) none none).run Tryz.prog W = .ok (.slice (some ⟨k, lo, none⟩) (8 - lo) (8 - lo)) W := by
  obtain ⟨i0, hi0, hz0⟩ := u8size
  have e1 : (0 : Int) ≤ (lo : Int) := by omega
  have e2 : (lo : Int) ≤ 8 := by omega
  have e3 : lo ≤ 8 := by omega
  have e5 : ¬ (8 : Int) < (lo : Int) := by omega
  have e6 : ¬ (lo : Int) < 0 := by omega
  have e7 : ¬ 8 = lo := by omega
  unfold Instr.sliceAt
  simp [go_sem, run_underlying Tryz.underlying32, sizeOf, typeInfo, hi0, hz0, e1, e2, e3, e5, e6, e7, Addr.add_mid]
theorem sl8L {w : World} {ops : Array Oper} {rest : List Oper} {Q : Exit → Act → World → Prop} {a : Act} {o : Oper} {k lo : Nat} {lov : Operand} (h3 : lo < 8) (hgd : Region.wanted o (yielded ops a.tmps) = true) (x : Operand) (ho : o.op = .slice 32 x (some lov) none none) (hx : a.eval x = .pointer (some ⟨k, 0, none⟩)) (hlo : a.eval lov = .int .i64 (lo : Int))
    (hh : wpList Tryz.prog ops Q rest (a.put o.dst (.slice (some ⟨k, lo, none⟩) (8 - lo) (8 - lo))) w) : wpList Tryz.prog ops Q (o :: rest) a w := by
  refine BigFrame.wpList_want hgd fun K hK => ?_
  have h2 := hK _ _ hh
  have hr := sl8t k lo h3 w
  unfold Oper.wp execOp
  simp only [ho, hx, hlo, Option.map_some, Option.map_none, Sem.run_bind, hr, Result.andThen_ok, Sem.run_pure]
  exact h2
end Go.Proofs.YtahfnknbmikmkaaGreat
