/- Contracts: finish. Steps: bytes' parts in a region that draws its order; the program's server in memory. -/
import Derived.Test.YtahfnknbmikmkaaGreatZs
import Derived.Test.YtahfnknbmikmkaaGreatKb22
namespace Go.Proofs.YtahfnknbmikmkaaGreat
open Go.RowKit Go.Proofs.Ty
set_option linter.unusedVariables false
set_option maxRecDepth 1000000
set_option linter.unusedSimpArgs false
/-- What finish ends with. -/
def finE (its : List Im) (t : Ss) : Ending :=
  if t.sz ≠ none ∧ t.sz ≠ some t.bs.length then flE t.ix t.sb 101122064
  else if wc its t.ix t.sb t.bs = 0 then .returned (.tuple #[]) else flE t.ix t.sb (wc its t.ix t.sb t.bs)
section
variable {S D R : Nat} {s : Ss} {ao : Option Addr} {cp : Nat} {its : List Im} {w : World}
set_option maxHeartbeats 8000000 in
theorem finish_write (h : Pb S D s ao cp w) (hd : Dct D R its w) (t : Ss) (ap : Option Addr) (cq : Nat) (ht : t.Ok) (hB : Bytes w (.slice ap t.bs.length cq) t.bs) (hz : ¬ (t.sz ≠ none ∧ t.sz ≠ some t.bs.length)) : Calls Tryz.prog 106 #[.pointer (some ⟨S, 0, none⟩), .agg (trA t ap cq)] w fun e w' => e = finE its t ∧ Dct D R (finO its t).2 w' ∧ Kp (its.map Im.b) w w' := by
  obtain ⟨k, hk⟩ : ∃ k, w.heap.size = k := ⟨_, rfl⟩
  obtain ⟨wb, hW⟩ : ∃ W, w.alloc (.cells (trA t ap cq) 89) = W := ⟨_, rfl⟩
  have b0 : Below w.heap.size w wb := hW ▸ (Below.refl _ _).alloc (Nat.le_refl _) _
  have t0 : Tb k t ap cq wb := by rw [← hk, ← hW]; exact Tb.new w t ap cq
  have h0 := hidOf2 (h.below b0)
  have d0 := hidOf2 (hd.below b0)
  have B0 := hidOf2 (hB.below b0)
  obtain ⟨c0', c1', c2', c3', c4', c5', c6'⟩ := t0.c
  have HK0 := hidOf2 (Kp.of_below (bs := its.map Im.b) b0)
  obtain ⟨EE, hEE⟩ : ∃ e, finE its t = e := ⟨_, rfl⟩
  obtain ⟨II, hII⟩ : ∃ e, (finO its t).2 = e := ⟨_, rfl⟩
  have hE2 : EE = if wc its t.ix t.sb t.bs = 0 then .returned (.tuple #[]) else flE t.ix t.sb (wc its t.ix t.sb t.bs) := by rw [← hEE, finE, if_neg hz]
  have hI2 : II = wrt its t.ix t.sb t.bs := by rw [← hII, finO, if_neg hz]
  rw [hEE, hII]
  have HWR : Hid (∀ y, Below wb.heap.size wb y → Calls Tryz.prog 109 #[.pointer (some ⟨D, 0, none⟩), .int .u16 (t.ix : Int), .int .u8 (t.sb : Int), .slice ap t.bs.length cq] y fun e w' => e = .returned (.int .u32 (wc its t.ix t.sb t.bs : Nat)) ∧ Dct D R (wrt its t.ix t.sb t.bs) w' ∧ Kp (its.map Im.b) y w') := fun y hb => Write_any (d0.out.below hb) _ _ ht.ix ht.sb _ _ (B0.out.below hb)
  rw [← hI2] at HWR
  obtain ⟨wcc, hwc⟩ : ∃ c, wc its t.ix t.sb t.bs = c := ⟨_, rfl⟩
  rw [hwc] at HWR hE2
  have HFB : Hid (wcc ≠ 0 → flE t.ix t.sb wcc = EE) := fun h => by rw [hE2, if_neg h]
  have HFG : Hid (wcc = 0 → Ending.returned (.tuple #[]) = EE) := fun h => by rw [hE2, if_pos h]
  have HAF : Hid (∀ y z, Below wb.heap.size wb y → Dct D R II z → Kp (its.map Im.b) y z → z.cell? ⟨S, 0, none⟩ = some (.pointer (some ⟨D, 0, none⟩)) ∧ Tb k t ap cq z ∧ Dct D R II z ∧ Kp (its.map Im.b) w z) := fun y z hb hd hK =>
    have hp : Pb S D s ao cp z := kp_other (d0.out.below hb) hK (h0.out.below hb) (by decide)
    ⟨hp.c.1, kp_other (d0.out.below hb) hK (t0.below hb) (by decide), hd, (HK0.out.trans (Kp.of_below hb)).trans hK⟩
  have HKE : Hid (∀ y z, y.cell? ⟨S, 0, none⟩ = some (.pointer (some ⟨D, 0, none⟩)) → Tb k t ap cq y → Below y.heap.size y z → (fun y => y.cell? ⟨S, 0, none⟩ = some (.pointer (some ⟨D, 0, none⟩)) ∧ Tb k t ap cq y) z) := fun y z h1 h2 hb => ⟨(hb.cell (p := ⟨S, 0, none⟩) (by
    by_cases hl : S < y.heap.size
    · exact hl
    · simp [World.cell?, hl] at h1)).trans h1, h2.below hb⟩
  have c0 : Below wb.heap.size wb wb.drew := bdr (Below.refl _ _) 1
  have S0 := (show (fun y => y.cell? ⟨S, 0, none⟩ = some (.pointer (some ⟨D, 0, none⟩)) ∧ Tb k t ap cq y) wb.drew from ⟨(h0.out.below c0).c.1, t0.below c0⟩)
  have hg : t.sz.isSome = false ∨ (t.sz.isSome = true ∧ t.sz.getD 0 = t.bs.length) := by
    cases hs : t.sz with
    | none => left; rfl
    | some n =>
      right
      refine ⟨rfl, ?_⟩
      by_cases hn : n = t.bs.length
      · exact hn
      · exact absurd ⟨by rw [hs]; simp, by rw [hs]; simpa using hn⟩ hz
  have hzn := ht.len
  clear h hd hB b0 t0 h0 d0 B0 HK0 hwc hEE hII hE2 hI2 c0' c1' c2' c3' hz
  go_enter Tryz.func106, Tryz.ntmps106
  obtain hg | ⟨hg, hg2⟩ := hg
  · rw [hg] at c5'
    go_upto_region 3 with fail
    by_cases hwz : wcc ≠ 0
    · have HPS : Hid (∀ y, Calls Tryz.prog 105 #[.agg (spA t.ix t.sb), .int .u32 (wcc : Int)] y fun e w' => e = flE t.ix t.sb wcc ∧ Below y.heap.size y w') := fun y => pass_bad _ _ wcc hwz y
      refine wp_region_held (S := fun y => y.cell? ⟨S, 0, none⟩ = some (.pointer (some ⟨D, 0, none⟩)) ∧ Tb k t ap cq y) (by kernel_rfl) ?_
      change wpAnyH _ _ _ _ _ _ _ _ wb.drew
      refine tk 0 (.pointer (some ⟨k, 0, none⟩)) rfl (by kernel_rfl) (fun _ _ _ h => h) rfl (fun _ hS => by simp [execOp, go_sem, Act.eval]) S0 ?_
      simp only [zzA, zzB, zzC, Act.put, zzD, zzE, zzF]
      refine tk 1 (.agg (spA t.ix t.sb)) rfl (by kernel_rfl) (fun _ _ _ h => h) rfl (fun _ hS => exec_load rfl rfl (run_ldSp hS.2.sp)) S0 ?_
      simp only [zzA, zzB, zzC, Act.put, zzD, zzE, zzF]
      refine tk 2 (.pointer (some ⟨S, 0, none⟩)) rfl (by kernel_rfl) (fun _ _ _ h => h) rfl (fun _ hS => rfl) S0 ?_
      simp only [zzA, zzB, zzC, Act.put, zzD, zzE, zzF]
      refine tk 3 (.pointer (some ⟨S, 0, none⟩)) rfl (by kernel_rfl) (fun _ _ _ h => h) rfl (fun _ hS => by simp [execOp, go_sem, Act.eval]) S0 ?_
      simp only [zzA, zzB, zzC, Act.put, zzD, zzE, zzF]
      refine tk 4 (.pointer (some ⟨S, 0, none⟩)) rfl (by kernel_rfl) (fun _ _ _ h => h) rfl (fun _ hS => by simp [execOp, go_sem, Act.eval]) S0 ?_
      simp only [zzA, zzB, zzC, Act.put, zzD, zzE, zzF]
      refine tk 5 (.pointer (some ⟨D, 0, none⟩)) rfl (by kernel_rfl) (fun _ _ _ h => h) rfl (fun _ hS => exec_load rfl rfl (load_pd _ _ _ _ hS.1)) S0 ?_
      simp only [zzA, zzB, zzC, Act.put, zzD, zzE, zzF]
      refine tk 6 (.pointer (some ⟨k, 0, none⟩)) rfl (by kernel_rfl) (fun _ _ _ h => h) rfl (fun _ hS => by simp [execOp, go_sem, Act.eval]) S0 ?_
      simp only [zzA, zzB, zzC, Act.put, zzD, zzE, zzF]
      refine tk 7 (.pointer (some ⟨k, 0, none⟩)) rfl (by kernel_rfl) (fun _ _ _ h => h) rfl (fun _ hS => by simp [execOp, go_sem, Act.eval]) S0 ?_
      simp only [zzA, zzB, zzC, Act.put, zzD, zzE, zzF]
      refine tk 8 (.int .u16 (t.ix : Int)) rfl (by kernel_rfl) (fun _ _ _ h => h) rfl (fun _ hS => exec_load rfl rfl (load_u16 _ _ _ _ hS.2.c.1)) S0 ?_
      simp only [zzA, zzB, zzC, Act.put, zzD, zzE, zzF]
      refine tk 9 (.pointer (some ⟨k, 0, none⟩)) rfl (by kernel_rfl) (fun _ _ _ h => h) rfl (fun _ hS => by simp [execOp, go_sem, Act.eval]) S0 ?_
      simp only [zzA, zzB, zzC, Act.put, zzD, zzE, zzF]
      refine tk 10 (.pointer (some ⟨k, 1, none⟩)) rfl (by kernel_rfl) (fun _ _ _ h => h) rfl (fun _ hS => by simp [execOp, go_sem, Act.eval]) S0 ?_
      simp only [zzA, zzB, zzC, Act.put, zzD, zzE, zzF]
      refine tk 11 (.int .u8 (t.sb : Int)) rfl (by kernel_rfl) (fun _ _ _ h => h) rfl (fun _ hS => exec_load rfl rfl (load_u8 _ _ _ _ hS.2.c.2.1)) S0 ?_
      simp only [zzA, zzB, zzC, Act.put, zzD, zzE, zzF]
      refine tk 12 (.pointer (some ⟨k, 4, none⟩)) rfl (by kernel_rfl) (fun _ _ _ h => h) rfl (fun _ hS => by simp [execOp, go_sem, Act.eval]) S0 ?_
      simp only [zzA, zzB, zzC, Act.put, zzD, zzE, zzF]
      refine tk 13 (.slice ap t.bs.length cq) rfl (by kernel_rfl) (fun _ _ _ h => h) rfl (fun _ hS => exec_load rfl rfl (load_bytes _ _ _ _ _ _ hS.2.c.2.2.2.2.1)) S0 ?_
      simp only [zzA, zzB, zzC, Act.put, zzD, zzE, zzF]
      refine wpAnyH_all (rs := [14]) (by kernel_rfl) (by simp) ?_
      intro k hk
      simp only [List.mem_cons, List.mem_nil_iff, or_false] at hk
      subst hk
      refine wpOp_run rfl rfl (wp_call_fn 109 #[.pointer (some ⟨D, 0, none⟩), .int .u16 (t.ix : Int), .int .u8 (t.sb : Int), .slice ap t.bs.length cq] (by simp [execOp, go_sem, Act.eval, resolve, invoke, enterWr]) ?_)
      refine (HWR.out _ c0).mono ?_
      rintro e u2 ⟨rfl, d2, K2⟩
      have g2 := HAF.out _ u2 c0 d2 K2
      have s2 := (show (fun y => y.cell? ⟨S, 0, none⟩ = some (.pointer (some ⟨D, 0, none⟩)) ∧ Tb k t ap cq y) u2 from ⟨g2.1, g2.2.1⟩)
      refine ⟨s2, ?_⟩
      simp only [zzA, zzB, zzC, Act.put, zzD, zzE, zzF]
      refine wpAnyH_all (rs := [15]) (by kernel_rfl) (by simp) ?_
      intro k hk
      simp only [List.mem_cons, List.mem_nil_iff, or_false] at hk
      subst hk
      refine wpOp_run rfl rfl (wp_call_fn 105 #[.agg (spA t.ix t.sb), .int .u32 (wcc : Int)] (by simp [execOp, go_sem, Act.eval, resolve, invoke, enterPs]) ?_)
      refine (HPS.out u2).mono ?_
      rintro e u3 ⟨rfl, b3⟩
      exact ⟨rfl, HFB.out hwz, g2.2.2.1.below b3, g2.2.2.2.trans (Kp.of_below b3)⟩
    · have hw0 : wcc = 0 := by omega
      have HPS : Hid (∀ y, Calls Tryz.prog 105 #[.agg (spA t.ix t.sb), .int .u32 (wcc : Int)] y fun e w' => e = .returned (.tuple #[]) ∧ Below y.heap.size y w') := fun y => by rw [hw0]; exact pass_ok _ _ y
      refine wp_region_held (S := fun y => y.cell? ⟨S, 0, none⟩ = some (.pointer (some ⟨D, 0, none⟩)) ∧ Tb k t ap cq y) (by kernel_rfl) ?_
      change wpAnyH _ _ _ _ _ _ _ _ wb.drew
      refine tk 0 (.pointer (some ⟨k, 0, none⟩)) rfl (by kernel_rfl) (fun _ _ _ h => h) rfl (fun _ hS => by simp [execOp, go_sem, Act.eval]) S0 ?_
      simp only [zzA, zzB, zzC, Act.put, zzD, zzE, zzF]
      refine tk 1 (.agg (spA t.ix t.sb)) rfl (by kernel_rfl) (fun _ _ _ h => h) rfl (fun _ hS => exec_load rfl rfl (run_ldSp hS.2.sp)) S0 ?_
      simp only [zzA, zzB, zzC, Act.put, zzD, zzE, zzF]
      refine tk 2 (.pointer (some ⟨S, 0, none⟩)) rfl (by kernel_rfl) (fun _ _ _ h => h) rfl (fun _ hS => rfl) S0 ?_
      simp only [zzA, zzB, zzC, Act.put, zzD, zzE, zzF]
      refine tk 3 (.pointer (some ⟨S, 0, none⟩)) rfl (by kernel_rfl) (fun _ _ _ h => h) rfl (fun _ hS => by simp [execOp, go_sem, Act.eval]) S0 ?_
      simp only [zzA, zzB, zzC, Act.put, zzD, zzE, zzF]
      refine tk 4 (.pointer (some ⟨S, 0, none⟩)) rfl (by kernel_rfl) (fun _ _ _ h => h) rfl (fun _ hS => by simp [execOp, go_sem, Act.eval]) S0 ?_
      simp only [zzA, zzB, zzC, Act.put, zzD, zzE, zzF]
      refine tk 5 (.pointer (some ⟨D, 0, none⟩)) rfl (by kernel_rfl) (fun _ _ _ h => h) rfl (fun _ hS => exec_load rfl rfl (load_pd _ _ _ _ hS.1)) S0 ?_
      simp only [zzA, zzB, zzC, Act.put, zzD, zzE, zzF]
      refine tk 6 (.pointer (some ⟨k, 0, none⟩)) rfl (by kernel_rfl) (fun _ _ _ h => h) rfl (fun _ hS => by simp [execOp, go_sem, Act.eval]) S0 ?_
      simp only [zzA, zzB, zzC, Act.put, zzD, zzE, zzF]
      refine tk 7 (.pointer (some ⟨k, 0, none⟩)) rfl (by kernel_rfl) (fun _ _ _ h => h) rfl (fun _ hS => by simp [execOp, go_sem, Act.eval]) S0 ?_
      simp only [zzA, zzB, zzC, Act.put, zzD, zzE, zzF]
      refine tk 8 (.int .u16 (t.ix : Int)) rfl (by kernel_rfl) (fun _ _ _ h => h) rfl (fun _ hS => exec_load rfl rfl (load_u16 _ _ _ _ hS.2.c.1)) S0 ?_
      simp only [zzA, zzB, zzC, Act.put, zzD, zzE, zzF]
      refine tk 9 (.pointer (some ⟨k, 0, none⟩)) rfl (by kernel_rfl) (fun _ _ _ h => h) rfl (fun _ hS => by simp [execOp, go_sem, Act.eval]) S0 ?_
      simp only [zzA, zzB, zzC, Act.put, zzD, zzE, zzF]
      refine tk 10 (.pointer (some ⟨k, 1, none⟩)) rfl (by kernel_rfl) (fun _ _ _ h => h) rfl (fun _ hS => by simp [execOp, go_sem, Act.eval]) S0 ?_
      simp only [zzA, zzB, zzC, Act.put, zzD, zzE, zzF]
      refine tk 11 (.int .u8 (t.sb : Int)) rfl (by kernel_rfl) (fun _ _ _ h => h) rfl (fun _ hS => exec_load rfl rfl (load_u8 _ _ _ _ hS.2.c.2.1)) S0 ?_
      simp only [zzA, zzB, zzC, Act.put, zzD, zzE, zzF]
      refine tk 12 (.pointer (some ⟨k, 4, none⟩)) rfl (by kernel_rfl) (fun _ _ _ h => h) rfl (fun _ hS => by simp [execOp, go_sem, Act.eval]) S0 ?_
      simp only [zzA, zzB, zzC, Act.put, zzD, zzE, zzF]
      refine tk 13 (.slice ap t.bs.length cq) rfl (by kernel_rfl) (fun _ _ _ h => h) rfl (fun _ hS => exec_load rfl rfl (load_bytes _ _ _ _ _ _ hS.2.c.2.2.2.2.1)) S0 ?_
      simp only [zzA, zzB, zzC, Act.put, zzD, zzE, zzF]
      refine wpAnyH_all (rs := [14]) (by kernel_rfl) (by simp) ?_
      intro k hk
      simp only [List.mem_cons, List.mem_nil_iff, or_false] at hk
      subst hk
      refine wpOp_run rfl rfl (wp_call_fn 109 #[.pointer (some ⟨D, 0, none⟩), .int .u16 (t.ix : Int), .int .u8 (t.sb : Int), .slice ap t.bs.length cq] (by simp [execOp, go_sem, Act.eval, resolve, invoke, enterWr]) ?_)
      refine (HWR.out _ c0).mono ?_
      rintro e u2 ⟨rfl, d2, K2⟩
      have g2 := HAF.out _ u2 c0 d2 K2
      have s2 := (show (fun y => y.cell? ⟨S, 0, none⟩ = some (.pointer (some ⟨D, 0, none⟩)) ∧ Tb k t ap cq y) u2 from ⟨g2.1, g2.2.1⟩)
      refine ⟨s2, ?_⟩
      simp only [zzA, zzB, zzC, Act.put, zzD, zzE, zzF]
      refine wpAnyH_all (rs := [15]) (by kernel_rfl) (by simp) ?_
      intro k hk
      simp only [List.mem_cons, List.mem_nil_iff, or_false] at hk
      subst hk
      refine wpOp_run rfl rfl (wp_call_fn 105 #[.agg (spA t.ix t.sb), .int .u32 (wcc : Int)] (by simp [execOp, go_sem, Act.eval, resolve, invoke, enterPs]) ?_)
      refine (HPS.out u2).mono ?_
      rintro e u3 ⟨rfl, b3⟩
      have s3 := (show (fun y => y.cell? ⟨S, 0, none⟩ = some (.pointer (some ⟨D, 0, none⟩)) ∧ Tb k t ap cq y) u3 from HKE.out u2 u3 g2.1 g2.2.1 b3)
      refine ⟨s3, ?_⟩
      simp only [zzA, zzB, zzC, Act.put, zzD, zzE, zzF]
      refine wpAnyH_done (by kernel_rfl) ?_ _
      go_wp2
      go_end0
      exact ⟨HFG.out hw0, g2.2.2.1.below b3, g2.2.2.2.trans (Kp.of_below b3)⟩
  · rw [hg] at c5'
    rw [hg2] at c6'
    have hd : ((t.bs.length : Int) != (t.bs.length : Int)) = false := by simp
    obtain ⟨n, hn⟩ : ∃ n, t.bs.length = n := ⟨_, rfl⟩
    go_upto_region 3 with fail
    by_cases hwz : wcc ≠ 0
    · have HPS : Hid (∀ y, Calls Tryz.prog 105 #[.agg (spA t.ix t.sb), .int .u32 (wcc : Int)] y fun e w' => e = flE t.ix t.sb wcc ∧ Below y.heap.size y w') := fun y => pass_bad _ _ wcc hwz y
      refine wp_region_held (S := fun y => y.cell? ⟨S, 0, none⟩ = some (.pointer (some ⟨D, 0, none⟩)) ∧ Tb k t ap cq y) (by kernel_rfl) ?_
      change wpAnyH _ _ _ _ _ _ _ _ wb.drew
      refine tk 0 (.pointer (some ⟨k, 0, none⟩)) rfl (by kernel_rfl) (fun _ _ _ h => h) rfl (fun _ hS => by simp [execOp, go_sem, Act.eval]) S0 ?_
      simp only [zzA, zzB, zzC, Act.put, zzD, zzE, zzF]
      refine tk 1 (.agg (spA t.ix t.sb)) rfl (by kernel_rfl) (fun _ _ _ h => h) rfl (fun _ hS => exec_load rfl rfl (run_ldSp hS.2.sp)) S0 ?_
      simp only [zzA, zzB, zzC, Act.put, zzD, zzE, zzF]
      refine tk 2 (.pointer (some ⟨S, 0, none⟩)) rfl (by kernel_rfl) (fun _ _ _ h => h) rfl (fun _ hS => rfl) S0 ?_
      simp only [zzA, zzB, zzC, Act.put, zzD, zzE, zzF]
      refine tk 3 (.pointer (some ⟨S, 0, none⟩)) rfl (by kernel_rfl) (fun _ _ _ h => h) rfl (fun _ hS => by simp [execOp, go_sem, Act.eval]) S0 ?_
      simp only [zzA, zzB, zzC, Act.put, zzD, zzE, zzF]
      refine tk 4 (.pointer (some ⟨S, 0, none⟩)) rfl (by kernel_rfl) (fun _ _ _ h => h) rfl (fun _ hS => by simp [execOp, go_sem, Act.eval]) S0 ?_
      simp only [zzA, zzB, zzC, Act.put, zzD, zzE, zzF]
      refine tk 5 (.pointer (some ⟨D, 0, none⟩)) rfl (by kernel_rfl) (fun _ _ _ h => h) rfl (fun _ hS => exec_load rfl rfl (load_pd _ _ _ _ hS.1)) S0 ?_
      simp only [zzA, zzB, zzC, Act.put, zzD, zzE, zzF]
      refine tk 6 (.pointer (some ⟨k, 0, none⟩)) rfl (by kernel_rfl) (fun _ _ _ h => h) rfl (fun _ hS => by simp [execOp, go_sem, Act.eval]) S0 ?_
      simp only [zzA, zzB, zzC, Act.put, zzD, zzE, zzF]
      refine tk 7 (.pointer (some ⟨k, 0, none⟩)) rfl (by kernel_rfl) (fun _ _ _ h => h) rfl (fun _ hS => by simp [execOp, go_sem, Act.eval]) S0 ?_
      simp only [zzA, zzB, zzC, Act.put, zzD, zzE, zzF]
      refine tk 8 (.int .u16 (t.ix : Int)) rfl (by kernel_rfl) (fun _ _ _ h => h) rfl (fun _ hS => exec_load rfl rfl (load_u16 _ _ _ _ hS.2.c.1)) S0 ?_
      simp only [zzA, zzB, zzC, Act.put, zzD, zzE, zzF]
      refine tk 9 (.pointer (some ⟨k, 0, none⟩)) rfl (by kernel_rfl) (fun _ _ _ h => h) rfl (fun _ hS => by simp [execOp, go_sem, Act.eval]) S0 ?_
      simp only [zzA, zzB, zzC, Act.put, zzD, zzE, zzF]
      refine tk 10 (.pointer (some ⟨k, 1, none⟩)) rfl (by kernel_rfl) (fun _ _ _ h => h) rfl (fun _ hS => by simp [execOp, go_sem, Act.eval]) S0 ?_
      simp only [zzA, zzB, zzC, Act.put, zzD, zzE, zzF]
      refine tk 11 (.int .u8 (t.sb : Int)) rfl (by kernel_rfl) (fun _ _ _ h => h) rfl (fun _ hS => exec_load rfl rfl (load_u8 _ _ _ _ hS.2.c.2.1)) S0 ?_
      simp only [zzA, zzB, zzC, Act.put, zzD, zzE, zzF]
      refine tk 12 (.pointer (some ⟨k, 4, none⟩)) rfl (by kernel_rfl) (fun _ _ _ h => h) rfl (fun _ hS => by simp [execOp, go_sem, Act.eval]) S0 ?_
      simp only [zzA, zzB, zzC, Act.put, zzD, zzE, zzF]
      refine tk 13 (.slice ap t.bs.length cq) rfl (by kernel_rfl) (fun _ _ _ h => h) rfl (fun _ hS => exec_load rfl rfl (load_bytes _ _ _ _ _ _ hS.2.c.2.2.2.2.1)) S0 ?_
      simp only [zzA, zzB, zzC, Act.put, zzD, zzE, zzF]
      refine wpAnyH_all (rs := [14]) (by kernel_rfl) (by simp) ?_
      intro k hk
      simp only [List.mem_cons, List.mem_nil_iff, or_false] at hk
      subst hk
      refine wpOp_run rfl rfl (wp_call_fn 109 #[.pointer (some ⟨D, 0, none⟩), .int .u16 (t.ix : Int), .int .u8 (t.sb : Int), .slice ap t.bs.length cq] (by simp [execOp, go_sem, Act.eval, resolve, invoke, enterWr]) ?_)
      refine (HWR.out _ c0).mono ?_
      rintro e u2 ⟨rfl, d2, K2⟩
      have g2 := HAF.out _ u2 c0 d2 K2
      have s2 := (show (fun y => y.cell? ⟨S, 0, none⟩ = some (.pointer (some ⟨D, 0, none⟩)) ∧ Tb k t ap cq y) u2 from ⟨g2.1, g2.2.1⟩)
      refine ⟨s2, ?_⟩
      simp only [zzA, zzB, zzC, Act.put, zzD, zzE, zzF]
      refine wpAnyH_all (rs := [15]) (by kernel_rfl) (by simp) ?_
      intro k hk
      simp only [List.mem_cons, List.mem_nil_iff, or_false] at hk
      subst hk
      refine wpOp_run rfl rfl (wp_call_fn 105 #[.agg (spA t.ix t.sb), .int .u32 (wcc : Int)] (by simp [execOp, go_sem, Act.eval, resolve, invoke, enterPs]) ?_)
      refine (HPS.out u2).mono ?_
      rintro e u3 ⟨rfl, b3⟩
      exact ⟨rfl, HFB.out hwz, g2.2.2.1.below b3, g2.2.2.2.trans (Kp.of_below b3)⟩
    · have hw0 : wcc = 0 := by omega
      have HPS : Hid (∀ y, Calls Tryz.prog 105 #[.agg (spA t.ix t.sb), .int .u32 (wcc : Int)] y fun e w' => e = .returned (.tuple #[]) ∧ Below y.heap.size y w') := fun y => by rw [hw0]; exact pass_ok _ _ y
      refine wp_region_held (S := fun y => y.cell? ⟨S, 0, none⟩ = some (.pointer (some ⟨D, 0, none⟩)) ∧ Tb k t ap cq y) (by kernel_rfl) ?_
      change wpAnyH _ _ _ _ _ _ _ _ wb.drew
      refine tk 0 (.pointer (some ⟨k, 0, none⟩)) rfl (by kernel_rfl) (fun _ _ _ h => h) rfl (fun _ hS => by simp [execOp, go_sem, Act.eval]) S0 ?_
      simp only [zzA, zzB, zzC, Act.put, zzD, zzE, zzF]
      refine tk 1 (.agg (spA t.ix t.sb)) rfl (by kernel_rfl) (fun _ _ _ h => h) rfl (fun _ hS => exec_load rfl rfl (run_ldSp hS.2.sp)) S0 ?_
      simp only [zzA, zzB, zzC, Act.put, zzD, zzE, zzF]
      refine tk 2 (.pointer (some ⟨S, 0, none⟩)) rfl (by kernel_rfl) (fun _ _ _ h => h) rfl (fun _ hS => rfl) S0 ?_
      simp only [zzA, zzB, zzC, Act.put, zzD, zzE, zzF]
      refine tk 3 (.pointer (some ⟨S, 0, none⟩)) rfl (by kernel_rfl) (fun _ _ _ h => h) rfl (fun _ hS => by simp [execOp, go_sem, Act.eval]) S0 ?_
      simp only [zzA, zzB, zzC, Act.put, zzD, zzE, zzF]
      refine tk 4 (.pointer (some ⟨S, 0, none⟩)) rfl (by kernel_rfl) (fun _ _ _ h => h) rfl (fun _ hS => by simp [execOp, go_sem, Act.eval]) S0 ?_
      simp only [zzA, zzB, zzC, Act.put, zzD, zzE, zzF]
      refine tk 5 (.pointer (some ⟨D, 0, none⟩)) rfl (by kernel_rfl) (fun _ _ _ h => h) rfl (fun _ hS => exec_load rfl rfl (load_pd _ _ _ _ hS.1)) S0 ?_
      simp only [zzA, zzB, zzC, Act.put, zzD, zzE, zzF]
      refine tk 6 (.pointer (some ⟨k, 0, none⟩)) rfl (by kernel_rfl) (fun _ _ _ h => h) rfl (fun _ hS => by simp [execOp, go_sem, Act.eval]) S0 ?_
      simp only [zzA, zzB, zzC, Act.put, zzD, zzE, zzF]
      refine tk 7 (.pointer (some ⟨k, 0, none⟩)) rfl (by kernel_rfl) (fun _ _ _ h => h) rfl (fun _ hS => by simp [execOp, go_sem, Act.eval]) S0 ?_
      simp only [zzA, zzB, zzC, Act.put, zzD, zzE, zzF]
      refine tk 8 (.int .u16 (t.ix : Int)) rfl (by kernel_rfl) (fun _ _ _ h => h) rfl (fun _ hS => exec_load rfl rfl (load_u16 _ _ _ _ hS.2.c.1)) S0 ?_
      simp only [zzA, zzB, zzC, Act.put, zzD, zzE, zzF]
      refine tk 9 (.pointer (some ⟨k, 0, none⟩)) rfl (by kernel_rfl) (fun _ _ _ h => h) rfl (fun _ hS => by simp [execOp, go_sem, Act.eval]) S0 ?_
      simp only [zzA, zzB, zzC, Act.put, zzD, zzE, zzF]
      refine tk 10 (.pointer (some ⟨k, 1, none⟩)) rfl (by kernel_rfl) (fun _ _ _ h => h) rfl (fun _ hS => by simp [execOp, go_sem, Act.eval]) S0 ?_
      simp only [zzA, zzB, zzC, Act.put, zzD, zzE, zzF]
      refine tk 11 (.int .u8 (t.sb : Int)) rfl (by kernel_rfl) (fun _ _ _ h => h) rfl (fun _ hS => exec_load rfl rfl (load_u8 _ _ _ _ hS.2.c.2.1)) S0 ?_
      simp only [zzA, zzB, zzC, Act.put, zzD, zzE, zzF]
      refine tk 12 (.pointer (some ⟨k, 4, none⟩)) rfl (by kernel_rfl) (fun _ _ _ h => h) rfl (fun _ hS => by simp [execOp, go_sem, Act.eval]) S0 ?_
      simp only [zzA, zzB, zzC, Act.put, zzD, zzE, zzF]
      refine tk 13 (.slice ap t.bs.length cq) rfl (by kernel_rfl) (fun _ _ _ h => h) rfl (fun _ hS => exec_load rfl rfl (load_bytes _ _ _ _ _ _ hS.2.c.2.2.2.2.1)) S0 ?_
      simp only [zzA, zzB, zzC, Act.put, zzD, zzE, zzF]
      refine wpAnyH_all (rs := [14]) (by kernel_rfl) (by simp) ?_
      intro k hk
      simp only [List.mem_cons, List.mem_nil_iff, or_false] at hk
      subst hk
      refine wpOp_run rfl rfl (wp_call_fn 109 #[.pointer (some ⟨D, 0, none⟩), .int .u16 (t.ix : Int), .int .u8 (t.sb : Int), .slice ap t.bs.length cq] (by simp [execOp, go_sem, Act.eval, resolve, invoke, enterWr]) ?_)
      refine (HWR.out _ c0).mono ?_
      rintro e u2 ⟨rfl, d2, K2⟩
      have g2 := HAF.out _ u2 c0 d2 K2
      have s2 := (show (fun y => y.cell? ⟨S, 0, none⟩ = some (.pointer (some ⟨D, 0, none⟩)) ∧ Tb k t ap cq y) u2 from ⟨g2.1, g2.2.1⟩)
      refine ⟨s2, ?_⟩
      simp only [zzA, zzB, zzC, Act.put, zzD, zzE, zzF]
      refine wpAnyH_all (rs := [15]) (by kernel_rfl) (by simp) ?_
      intro k hk
      simp only [List.mem_cons, List.mem_nil_iff, or_false] at hk
      subst hk
      refine wpOp_run rfl rfl (wp_call_fn 105 #[.agg (spA t.ix t.sb), .int .u32 (wcc : Int)] (by simp [execOp, go_sem, Act.eval, resolve, invoke, enterPs]) ?_)
      refine (HPS.out u2).mono ?_
      rintro e u3 ⟨rfl, b3⟩
      have s3 := (show (fun y => y.cell? ⟨S, 0, none⟩ = some (.pointer (some ⟨D, 0, none⟩)) ∧ Tb k t ap cq y) u3 from HKE.out u2 u3 g2.1 g2.2.1 b3)
      refine ⟨s3, ?_⟩
      simp only [zzA, zzB, zzC, Act.put, zzD, zzE, zzF]
      refine wpAnyH_done (by kernel_rfl) ?_ _
      go_wp2
      go_end0
      exact ⟨HFG.out hw0, g2.2.2.1.below b3, g2.2.2.2.trans (Kp.of_below b3)⟩
set_option maxHeartbeats 8000000 in
theorem finish_size (h : Pb S D s ao cp w) (hd : Dct D R its w) (t : Ss) (ap : Option Addr) (cq : Nat) (ht : t.Ok) (hz : t.sz ≠ none ∧ t.sz ≠ some t.bs.length) : Calls Tryz.prog 106 #[.pointer (some ⟨S, 0, none⟩), .agg (trA t ap cq)] w fun e w' => e = finE its t ∧ Dct D R (finO its t).2 w' ∧ Kp (its.map Im.b) w w' := by
  obtain ⟨k, hk⟩ : ∃ k, w.heap.size = k := ⟨_, rfl⟩
  obtain ⟨wb, hW⟩ : ∃ W, w.alloc (.cells (trA t ap cq) 89) = W := ⟨_, rfl⟩
  have b0 : Below w.heap.size w wb := hW ▸ (Below.refl _ _).alloc (Nat.le_refl _) _
  have t0 : Tb k t ap cq wb := by rw [← hk, ← hW]; exact Tb.new w t ap cq
  have HD := hidOf2 (hd.below b0)
  obtain ⟨c0', c1', c2', c3', c4', c5', c6'⟩ := t0.c
  have HK0 := hidOf2 (Kp.of_below (bs := its.map Im.b) b0)
  have r0 := t0.sp
  rw [show finE its t = flE t.ix t.sb 101122064 by unfold finE; rw [if_pos hz], show (finO its t).2 = its by unfold finO; rw [if_pos hz]]
  obtain ⟨n, hn⟩ : ∃ n, t.sz = some n := by
    cases hs : t.sz with
    | none => exact absurd hs hz.1
    | some n => exact ⟨n, rfl⟩
  have hne : n ≠ t.bs.length := fun e => hz.2 (by rw [hn, e])
  have hle := ht.sz n hn
  have hlen := ht.len
  rw [hn] at c5' c6'
  have c5 : wb.cell? ⟨k, 5, none⟩ = some (.bool true) := c5'
  have c6 : wb.cell? ⟨k, 6, none⟩ = some (.int .u32 (n : Int)) := c6'
  have hP := pass_bad t.ix t.sb 101122064 (by decide) wb
  have hd2 : ((n : Int) != (t.bs.length : Int)) = true := by simp; omega
  obtain ⟨m, hm⟩ : ∃ m, t.bs.length = m := ⟨_, rfl⟩
  rw [hm] at c4' hd2 hlen
  clear h hd b0 t0 c0' c1' c2' c3' c5' c6' hz
  go_enter Tryz.func106, Tryz.ntmps106
  go_wp2_with (first | (refine ldSp r0 rfl _ rfl rfl ?_))
  refine hP.mono ?_
  rintro e w1 ⟨rfl, b1⟩
  exact ⟨rfl, rfl, HD.out.below b1, HK0.out.trans (Kp.of_below b1)⟩
theorem finish_any (h : Pb S D s ao cp w) (hd : Dct D R its w) (t : Ss) (ap : Option Addr) (cq : Nat) (ht : t.Ok) (hB : Bytes w (.slice ap t.bs.length cq) t.bs) : Calls Tryz.prog 106 #[.pointer (some ⟨S, 0, none⟩), .agg (trA t ap cq)] w fun e w' => e = finE its t ∧ Dct D R (finO its t).2 w' ∧ Kp (its.map Im.b) w w' := by
  by_cases hz : t.sz ≠ none ∧ t.sz ≠ some t.bs.length
  · exact finish_size h hd t ap cq ht hz
  · exact finish_write h hd t ap cq ht hB hz
end
end Go.Proofs.YtahfnknbmikmkaaGreat
namespace Go.Proofs.YtahfnknbmikmkaaGreat
open Go.RowKit Go.Proofs.Ty
set_option linter.unusedVariables false
set_option maxRecDepth 1000000
set_option linter.unusedSimpArgs false
theorem exec_shr8 {a : Act} {o : Oper} {x y : Operand} {n k : Nat} (ho : o.op = .binOp .shr 5 x y 49) (hx : a.eval x = .int .u8 (n : Int)) (hy : a.eval y = .int .u64 (k : Int)) (hn : n < 256) (hk : k < 8) (w : World) : (execOp a.eval o).run Tryz.prog w = .ok (.value (.int .u8 ((n / 2 ^ k : Nat) : Int))) w := by
  unfold execOp
  simp only [ho, hx, hy]
  obtain rfl | rfl | rfl | rfl | rfl | rfl | rfl | rfl : k = 0 ∨ k = 1 ∨ k = 2 ∨ k = 3 ∨ k = 4 ∨ k = 5 ∨ k = 6 ∨ k = 7 := by omega
  all_goals simp [go_sem, run_underlying Tryz.underlying5]
theorem exec_and8 {a : Act} {o : Oper} {x y : Operand} {m c r : Int} (hb : bits .and .u8 m c = r) (ho : o.op = .binOp .and 5 x y 5) (hx : a.eval x = .int .u8 m) (hy : a.eval y = .int .u8 c) (w : World) : (execOp a.eval o).run Tryz.prog w = .ok (.value (.int .u8 r)) w := by
  unfold execOp
  simp only [ho, hx, hy]
  simp [go_sem, run_underlying Tryz.underlying5, hb]
theorem exec_conv8 {a : Act} {o : Oper} {x : Operand} {m : Nat} (ho : o.op = .convert 5 3 x) (hx : a.eval x = .int .u8 (m : Int)) (hm : m < 256) (w : World) : (execOp a.eval o).run Tryz.prog w = .ok (.value (.int .i64 (m : Int))) w := by
  have e : IntKind.i64.wrap (m : Int) = (m : Int) := by simp [IntKind.wrap, IntKind.bits, IntKind.signed]; omega
  unfold execOp
  simp only [ho, hx]
  simp [go_sem, run_underlying Tryz.underlying5, run_underlying Tryz.underlying3, e]
theorem exec_sub {a : Act} {o : Oper} {x y : Operand} {m n : Nat} (ho : o.op = .binOp .sub 3 x y 3) (hx : a.eval x = .int .i64 (m : Int)) (hy : a.eval y = .int .i64 (n : Int)) (h : n ≤ m) (hm : m < 9223372036854775808) (w : World) : (execOp a.eval o).run Tryz.prog w = .ok (.value (.int .i64 ((m - n : Nat) : Int))) w := by
  unfold execOp
  simp only [ho, hx, hy]
  have e : IntKind.i64.wrap ((m : Int) - (n : Int)) = ((m - n : Nat) : Int) := by simp [IntKind.wrap, IntKind.bits, IntKind.signed]; omega
  simp [go_sem, run_underlying Tryz.underlying3, e]
theorem wp_ldG {o : Oper} {a : Act} {w : World} {K : Act → World → Prop} {Q : Exit → Act → World → Prop} {ty : TypeId} {ad : Addr} {v : Value} (hr : (loadVar ty ad).run Tryz.prog w = .ok v w) (x : Operand) (ho : o.op = .load ty x) (hx : a.eval x = .pointer (some ad)) (h : K (a.put o.dst v) w) : o.wp Tryz.prog a w K Q := by
  unfold Oper.wp execOp
  simp only [ho, hx, Instr.loadAt, Instr.sureAddr, Sem.run_bind, Sem.run_pure, Result.andThen_ok, hr]
  exact h
theorem store_bytes (w : World) (b k : Nat) (ao : Option Addr) (n c : Nat) (u : Value) (hc : w.cell? ⟨b, k, none⟩ = some u) (hz : w.frozen? ⟨b, k, none⟩ = false) : (storeVar 47 ⟨b, k, none⟩ (.slice ao n c)).run Tryz.prog w = .ok () (w.setCell ⟨b, k, none⟩ (.slice ao n c)) := by
  simp [storeVar, isAgg, run_underlying Tryz.underlying47, go_sem, hc, hz]
theorem own_same {w x : World} {B : Nat} {e : TypeId} {c n : Nat} {v : Value} {xs : List Value} (h : w.ownsRow B e c v n xs) (hb : ∀ b, v.ownBlock = some b → x.heap[b]? = w.heap[b]?) : x.ownsRow B e c v n xs := by
  refine ⟨h.1, h.2.imp id ?_⟩
  rintro ⟨g, cap, cur, e1, e2, e3, e4⟩
  exact ⟨g, cap, cur, e1, e2, (hb g (by rw [e1]; rfl)).trans e3, e4⟩
theorem own_ty {w : World} {B : Nat} {e : TypeId} {c n : Nat} {v : Value} {xs : List Value} (h : w.ownsRow B e c v n xs) : ∀ b, v.ownBlock = some b → ∃ cur, w.heap[b]? = some (.cells cur e (0, 0)) := by
  intro b hb
  rcases h.2 with ⟨h1, h2⟩ | ⟨g, cap, cur, e1, e2, e3, e4⟩
  · rw [h1] at hb; cases hb
  · rw [e1] at hb
    injection hb with hb
    subst hb
    exact ⟨cur, e3⟩
/-- Whose block a server's bytes are in. -/
def blk (ao : Option Addr) : List Nat := (ao.map Addr.block).toList
theorem own_blk (ao : Option Addr) (n c : Nat) (b : Nat) : (Value.slice ao n c).ownBlock = some b ↔ b ∈ blk ao := by
  cases ao with
  | none => simp [blk, Value.ownBlock]
  | some a => simp [blk, Value.ownBlock, eq_comm]
structure Pv (S D R : Nat) (its : List Im) (s : Ss) (ao : Option Addr) (cp : Nat) (x : World) : Prop where
  dct : Dct D R its x
  head : Pb S D s ao cp x
  by_ : Bytes x (.slice ao s.bs.length cp) s.bs
  own : s.dn = 1 → x.ownsRow (S + 1) 5 1 (.slice ao s.bs.length cp) s.bs.length (Lib.byteCells s.bs)
  cap : Cp (.slice ao s.bs.length cp)
  far : ∀ b ∈ blk ao, S < b
  near : ∀ b ∈ its.map Im.b, b < S
  ok : s.Ok
  lt : ∀ b ∈ blk ao, b < x.heap.size
theorem Pv.below {S D R : Nat} {its : List Im} {s : Ss} {ao : Option Addr} {cp : Nat} {w x : World} (h : Pv S D R its s ao cp w) (hb : Below w.heap.size w x) : Pv S D R its s ao cp x :=
  ⟨h.dct.below hb, h.head.below hb, h.by_.below hb, fun e => own_below5 (h.own e) hb, h.cap, h.far, h.near, h.ok, fun b hm => Nat.lt_of_lt_of_le (h.lt b hm) hb.size⟩
theorem Pv.nul {S D R : Nat} {its : List Im} {x : World} (hd : Dct D R its x) (hp : Pb S D Ss.nul none 0 x) (hn : ∀ b ∈ its.map Im.b, b < S) : Pv S D R its Ss.nul none 0 x :=
  ⟨hd, hp, bytes_nil _, (fun e => by cases e), cp_nil, (fun b hb => by simp [blk] at hb), hn, Ss.nul_ok, (fun b hb => by simp [blk] at hb)⟩
/-- The bytes' block, where it may be written. -/
def wl (s : Ss) (ao : Option Addr) : List Nat := if s.dn = 1 then blk ao else []
/-- What a frame leaves. -/
def HPost (S D R : Nat) (its : List Im) (L : List Nat) (ao : Option Addr) (O : Ro × List Im × Ss) (w : World) (e : Ending) (w' : World) : Prop :=
  e = O.1.e ∧ ∃ ap cq, Pv S D R O.2.1 O.2.2 ap cq w' ∧ Kp (S :: (L ++ its.map Im.b)) w w' ∧ ∀ b ∈ blk ap, b ∈ blk ao ∨ w.heap.size ≤ b
section
variable {S D R : Nat} {s : Ss} {ao : Option Addr} {cp : Nat} {its : List Im} {w : World}
theorem wrtO_b (its : List Im) (q : F8) : (wrtO its q).2.1.map Im.b = its.map Im.b := by
  unfold wrtO
  split
  · exact wrt_b _ _ _ _
  · split
    · rfl
    · split <;> rfl
theorem wrtO_s (its : List Im) (q : F8) : (wrtO its q).2.2.Ok ∧ (wrtO its q).2.2.bs = [] := by
  unfold wrtO
  split
  · exact ⟨Ss.nul_ok, rfl⟩
  · split
    · exact ⟨Ss.nul_ok, rfl⟩
    · split
      · exact ⟨Ss.nul_ok, rfl⟩
      · rename_i h1 h2 h3
        refine ⟨⟨(show (1 : Nat) ≤ 2 by decide), pix_lt q, psb_lt q, (show (0 : Nat) ≤ 1 by decide), (show (0 : Nat) ≤ 65536 by decide), fun n hn => ?_⟩, rfl⟩
        by_cases hb : q.b0.toNat % 2 = 1
        · simp only [if_pos hb] at hn
          injection hn with hn
          subst hn
          by_cases h : 65536 < num4 q
          · exact absurd ⟨hb, h⟩ h3
          · omega
        · simp only [if_neg hb] at hn
          cases hn
theorem redO_s (its : List Im) (q : F8) : (redO its q).2.2.Ok ∧ (redO its q).2.1 = its ∧ (redO its q).2.2.dn ≠ 1 := by
  unfold redO
  split
  · exact ⟨Ss.nul_ok, rfl, (show (0 : Nat) ≠ 1 by decide)⟩
  · split
    · exact ⟨Ss.nul_ok, rfl, (show (0 : Nat) ≠ 1 by decide)⟩
    · exact ⟨⟨(show (2 : Nat) ≤ 2 by decide), pix_lt q, psb_lt q, (show (0 : Nat) ≤ 1 by decide), rdL_len _ _ _, (fun n hn => by cases hn)⟩, rfl, (show (2 : Nat) ≠ 1 by decide)⟩
theorem bw_post (h : Pv S D R its s ao cp w) (q : F8) : Calls Tryz.prog 64 #[.pointer (some ⟨S, 0, none⟩), .agg q.arr] w (HPost S D R its (wl s ao) ao (wrtO its q) w) := by
  refine (beginWrite_any h.head h.dct q).mono ?_
  rintro e w' ⟨he, hp, hd, hK⟩
  obtain ⟨o1, o2⟩ := wrtO_s its q
  refine ⟨he, none, 0, ⟨hd, hp, ?_, fun e => ?_, ?_, fun b hb => by simp [blk] at hb, ?_, o1, fun b hb => by simp [blk] at hb⟩, hK.mono (fun b hb => ?_), fun b hb => by simp [blk] at hb⟩
  · rw [o2]; exact bytes_nil _
  · rw [o2]; exact ⟨rfl, .inl ⟨rfl, rfl⟩⟩
  · rw [o2]; exact cp_nil
  · rw [wrtO_b]; exact h.near
  · simp at hb ⊢; rcases hb with h | h; exact .inl h; exact .inr (.inr h)
theorem br_post (h : Pv S D R its s ao cp w) (q : F8) : Calls Tryz.prog 65 #[.pointer (some ⟨S, 0, none⟩), .agg q.arr] w (HPost S D R its (wl s ao) ao (redO its q) w) := by
  refine (beginRead_any h.head h.dct q).mono ?_
  rintro e w' ⟨he, ap, cq, hp, hB, hN, hd, hK, hC, hL⟩
  obtain ⟨o1, o2, o3⟩ := redO_s its q
  have hN2 : ∀ b ∈ blk ap, w.heap.size ≤ b := fun b hb => hN b ((own_blk _ _ _ _).2 hb)
  have hl := h.head.lt
  refine ⟨he, ap, cq, ⟨by rw [o2]; exact hd, hp, hB, fun e => absurd e o3, hC, fun b hb => by have := hN2 b hb; omega, by rw [o2]; exact h.near, o1, fun b hb => hL b ((own_blk _ _ _ _).2 hb)⟩, hK.mono (fun b hb => by simp at hb; simp [hb]), fun b hb => .inr (hN2 b hb)⟩
end
end Go.Proofs.YtahfnknbmikmkaaGreat
