/- Contracts: awaited. Bytes cut out of a frame. -/
import Derived.Test.YtahfnknbmikmkaaGreatZs
import Derived.Test.YtahfnknbmikmkaaGreatKb18
import Derived.Test.YtahfnknbmikmkaaGreatKb16
namespace Go.Proofs.YtahfnknbmikmkaaGreat
open Go.RowKit Go.Proofs.Ty
set_option linter.unusedVariables false
set_option maxRecDepth 1000000
set_option linter.unusedSimpArgs false
theorem awaited_results {Q : Nat} {s : Ss} {ao : Option Addr} {cp : Nat} {w : World} (h : Tb Q s ao cp w) (tmps : Array Value) (h2 : tmps[4]?.getD undef = .pointer (some ⟨Q, 0, none⟩)) :
    (results Tryz.f111 tmps).run Tryz.prog w = .ok (.agg (trA s ao cp)) w := by
  have l0 := h.load
  simp [Go.results, Tryz.results111, h2, asAddr, l0]
/-- A write that begins. -/
def s1 (ix sb : Nat) : Ss := ⟨1, ix, sb, 0, [], none⟩
theorem run_ldSp {w : World} {b o ix sb : Nat} (h : w.rangeAt b o [.int .u16 (ix : Int), .int .u8 (sb : Int)]) : (loadVar 87 ⟨b, o, none⟩).run Tryz.prog w = .ok (.agg (spA ix sb)) w :=
  run_loadVar_mid w b o 87 [.int .u16 (ix : Int), .int .u8 (sb : Int)] _ h Tryz.underlying87 rfl (by rw [infoSp]; rfl)
theorem enterLv : ∀ args x, (callFunc 129 args).run Tryz.prog x = .ok (.enter 129 args) x := fun _ _ => by rfl
theorem enterPs : ∀ args x, (callFunc 105 args).run Tryz.prog x = .ok (.enter 105 args) x := fun _ _ => by rfl
/-- What awaited ends with. -/
def awaE (its : List Im) (q : F8) : Ending :=
  if leaC its (pix q) (psb q) ≠ 0 then flE (pix q) (psb q) (leaC its (pix q) (psb q))
  else if q.b0.toNat % 2 = 1 ∧ 65536 < num4 q then flE (pix q) (psb q) 84148229
  else .returned (.agg (trA ⟨1, pix q, psb q, 0, [], if q.b0.toNat % 2 = 1 then some (num4 q) else none⟩ none 0))
theorem Tb.said {p : Nat} {s : Ss} {ao : Option Addr} {cp : Nat} {w : World} (h : Tb p s ao cp w) (n : Nat) : Tb p { s with sz := some n } ao cp ((w.setCell ⟨p, 5, none⟩ (.bool true)).setCell ⟨p, 6, none⟩ (.int .u32 (n : Int))) := by
  have h : w.heap[p]? = some (.cells (trA s ao cp) 89 (0, 0)) := h
  unfold Tb
  simp [World.setCell, Array.getElem?_modify, h, trA, trC]
section
variable {S D R : Nat} {s : Ss} {ao : Option Addr} {cp : Nat} {its : List Im} {w : World}
set_option maxHeartbeats 8000000 in
theorem awaited_any (h : Pb S D s ao cp w) (hd : Dct D R its w) (q : F8) : Calls Tryz.prog 111 #[.pointer (some ⟨S, 0, none⟩), .agg q.arr] w fun e w' => e = awaE its q ∧ Below w.heap.size w w' := by
  obtain ⟨W, hW⟩ : ∃ W, w.alloc (.cells q.arr 32) = W := ⟨_, rfl⟩
  obtain ⟨k, hk⟩ : ∃ k, w.heap.size = k := ⟨_, rfl⟩
  have hWs : W.heap.size = k + 1 := by rw [← hW, size_alloc, hk]
  have b0 : Below w.heap.size w (W.alloc (.cells zTA 89)) := (hW ▸ (Below.refl _ _).alloc (Nat.le_refl _) _).alloc (by rw [hWs, hk]; omega) _
  have q0 : Qb k q (W.alloc (.cells zTA 89)) := (Lib.alloc_old W _ k (by omega)).trans (by rw [← hk, ← hW]; exact Qb.new w q)
  have t0 : Tb (k + 1) Ss.nul none 0 (W.alloc (.cells zTA 89)) := by rw [← hWs]; exact heap_alloc_new W _
  have hso : ∀ V, Calls Tryz.prog 67 #[.agg q.arr] V fun e w' => e = .returned (.agg #[.int .u16 (pix q : Int), .int .u8 (psb q : Int)]) ∧ Below V.heap.size V w' := spotOf_any q
  have hnu : ∀ V, Calls Tryz.prog 130 #[.agg q.arr] V fun e w' => e = .returned (.int .u32 (num4 q : Nat)) ∧ Below V.heap.size V w' := number_any q
  have hb0 := q.b0.toNat_lt
  have a1 := and1 _ hb0
  have hix := pix_lt q
  have hsb := psb_lt q
  have hn4 := num4_lt q
  have HH := hidOf2 h
  have HD := hidOf2 hd
  have HAW : Hid (awaE its q = if leaC its (pix q) (psb q) ≠ 0 then flE (pix q) (psb q) (leaC its (pix q) (psb q))
    else if q.b0.toNat % 2 = 1 ∧ 65536 < num4 q then flE (pix q) (psb q) 84148229
    else .returned (.agg (trA ⟨1, pix q, psb q, 0, [], if q.b0.toNat % 2 = 1 then some (num4 q) else none⟩ none 0))) := rfl
  generalize awaE its q = AW at *
  generalize pix q = ix at *
  generalize psb q = sb at *
  generalize num4 q = N at *
  obtain ⟨n, hn⟩ : ∃ n, q.b0.toNat = n := ⟨_, rfl⟩
  rw [hn] at hb0 a1 HAW
  have HB0 := hidOf2 b0
  clear h hd b0
  go_enter Tryz.func111, Tryz.ntmps111
  go_upto_region 1 with fail
  change Code.wp Tryz.prog _ _ _ (W.alloc (.cells zTA 89))
  obtain ⟨V, hV⟩ : ∃ V, W.alloc (.cells zTA 89) = V := ⟨_, rfl⟩
  have hVs : V.heap.size = k + 2 := by rw [← hV, size_alloc, hWs]
  rw [hV] at q0 t0 HB0 ⊢
  have l0 := q0.load
  go_wp2_with (first | (refine ldG l0 rfl _ rfl rfl ?_))
  refine (hso _).mono ?_
  rintro e w1 ⟨rfl, b1⟩
  obtain ⟨p, hp⟩ : ∃ p, w1.heap.size = p := ⟨_, rfl⟩
  have z1 : Tb p Ss.nul none 0 (w1.alloc (.cells zTA 89)) := by rw [← hp]; exact heap_alloc_new w1 _
  have bz : Below w1.heap.size w1 (w1.alloc (.cells zTA 89)) := (Below.refl _ _).alloc (Nat.le_refl _) _
  have bz2 := below_row bz (by omega) (by rw [size_alloc]; omega) (q := p) (trA (s1 ix sb) none 0)
  have z2 := z1.row (t := s1 ix sb) (ap := none) (cq := 0)
  have HZ : Hid (∀ X, X = (w1.alloc (.cells zTA 89)).setRow p (trA (s1 ix sb) none 0) → Tb p (s1 ix sb) none 0 X ∧ Below w1.heap.size w1 X) := fun X hX => by subst hX; exact ⟨z2, bz2⟩
  clear z2 bz2 bz
  go_upto_region 2 with (first | (refine sdTb (t := s1 ix sb) (ap := none) (cq := 0) z1 rfl _ _ rfl rfl rfl ?_))
  change Code.wp Tryz.prog _ _ _ ((w1.alloc (.cells zTA 89)).setRow p (trA (s1 ix sb) none 0))
  generalize hX : (w1.alloc (.cells zTA 89)).setRow p (trA (s1 ix sb) none 0) = wb
  obtain ⟨p2, b2⟩ := HZ.out wb hX.symm
  have b12 := b1.trans (b2.mono b1.size)
  have HB2 := hidOf2 (HB0.out.trans (b12.mono HB0.out.size))
  have hkp : k + 1 < p := by have := t0.lt; have := b1.size; omega
  have Q2 := hidOf2 (q0.below b12)
  have T2 := hidOf2 (t0.below b12)
  have H2 := hidOf2 (HH.out.below HB2.out)
  have D2 := hidOf2 (HD.out.below HB2.out)
  clear HZ hX z1 hso b1 b2 b12 HB0 q0 t0 l0 HH HD
  obtain ⟨lc, hlv⟩ : ∃ lc, leaC its ix sb = lc := ⟨_, rfl⟩
  have HLV : Hid (∀ y, Below wb.heap.size wb y → Calls Tryz.prog 129 #[.pointer (some ⟨S, 0, none⟩), .agg (spA ix sb)] y fun e w' => e = .returned (.int .u32 (lc : Int)) ∧ Below y.heap.size y w') := fun y hb => hlv ▸ leave_any (H2.out.below hb) (D2.out.below hb) ix sb hix hsb
  rw [hlv] at HAW
  have c0 : Below wb.heap.size wb wb.drew := bdr (Below.refl _ _) 1
  have S0 : (fun y => Tb p (s1 ix sb) none 0 y) wb.drew := p2.below c0
  have t0 := p2
  by_cases hlc : lc ≠ 0
  · have HPS : Hid (∀ y, Calls Tryz.prog 105 #[.agg (spA ix sb), .int .u32 (lc : Int)] y fun e w' => e = flE ix sb lc ∧ Below y.heap.size y w') := fun y => pass_bad _ _ lc hlc y
    refine wp_region_held (S := fun y => Tb p (s1 ix sb) none 0 y) (by kernel_rfl) ?_
    change wpAnyH _ _ _ _ _ _ _ _ wb.drew
    refine tk 0 (.pointer (some ⟨p, 0, none⟩)) rfl (by kernel_rfl) (fun _ _ _ h => h) rfl (fun _ hS => by simp [execOp, go_sem, Act.eval]) S0 ?_
    simp only [zzA, zzB, zzC, Act.put, zzD, zzE, zzF]
    refine tk 1 (.agg (spA ix sb)) rfl (by kernel_rfl) (fun _ _ _ h => h) rfl (fun _ hS => exec_load rfl rfl (run_ldSp hS.sp)) S0 ?_
    simp only [zzA, zzB, zzC, Act.put, zzD, zzE, zzF]
    refine tk 2 (.pointer (some ⟨S, 0, none⟩)) rfl (by kernel_rfl) (fun _ _ _ h => h) rfl (fun _ hS => rfl) S0 ?_
    simp only [zzA, zzB, zzC, Act.put, zzD, zzE, zzF]
    refine tk 3 (.pointer (some ⟨p, 0, none⟩)) rfl (by kernel_rfl) (fun _ _ _ h => h) rfl (fun _ hS => by simp [execOp, go_sem, Act.eval]) S0 ?_
    simp only [zzA, zzB, zzC, Act.put, zzD, zzE, zzF]
    refine tk 4 (.agg (spA ix sb)) rfl (by kernel_rfl) (fun _ _ _ h => h) rfl (fun _ hS => exec_load rfl rfl (run_ldSp hS.sp)) S0 ?_
    simp only [zzA, zzB, zzC, Act.put, zzD, zzE, zzF]
    refine wpAnyH_all (rs := [5]) (by kernel_rfl) (by simp) ?_
    intro k hk
    simp only [List.mem_cons, List.mem_nil_iff, or_false] at hk
    subst hk
    refine wpOp_run rfl rfl (wp_call_fn 129 #[.pointer (some ⟨S, 0, none⟩), .agg (spA ix sb)] (by simp [execOp, go_sem, Act.eval, resolve, invoke, enterLv]) ?_)
    refine (HLV.out wb.drew c0).mono ?_
    rintro e u1 ⟨rfl, b1⟩
    have c1 := c0.trans (b1.mono c0.size)
    have s1 := t0.below c1
    refine ⟨s1, ?_⟩
    simp only [zzA, zzB, zzC, Act.put, zzD, zzE, zzF]
    refine wpAnyH_all (rs := [6]) (by kernel_rfl) (by simp) ?_
    intro k hk
    simp only [List.mem_cons, List.mem_nil_iff, or_false] at hk
    subst hk
    refine wpOp_run rfl rfl (wp_call_fn 105 #[.agg (spA ix sb), .int .u32 (lc : Int)] (by simp [execOp, go_sem, Act.eval, resolve, invoke, enterPs]) ?_)
    refine (HPS.out u1).mono ?_
    rintro e u2 ⟨rfl, b2⟩
    have c2 := c1.trans (b2.mono c1.size)
    exact ⟨rfl, by rw [HAW.out, if_pos hlc]; rfl, HB2.out.trans (c2.mono HB2.out.size)⟩
  · have hlc0 : lc = 0 := by omega
    have HPS : Hid (∀ y, Calls Tryz.prog 105 #[.agg (spA ix sb), .int .u32 (lc : Int)] y fun e w' => e = .returned (.tuple #[]) ∧ Below y.heap.size y w') := fun y => by rw [hlc0]; exact pass_ok _ _ y
    refine wp_cut (α := Nat) (fun u y => Below wb.heap.size wb y) (fun a u => (((((((a.put (some 9) (.pointer (some ⟨p, 0, none⟩))).put (some 10) (.agg (spA ix sb))).put (some 11) (.pointer (some ⟨S, 0, none⟩))).put (some 12) (.pointer (some ⟨p, 0, none⟩))).put (some 13) (.agg (spA ix sb))).put (some 14) (.int .u32 (lc : Int))).put (some 15) (.tuple #[]))) ?_ ?_
    · refine wp_region_held (S := fun y => Tb p (s1 ix sb) none 0 y) (by kernel_rfl) ?_
      change wpAnyH _ _ _ _ _ _ _ _ wb.drew
      refine tk 0 (.pointer (some ⟨p, 0, none⟩)) rfl (by kernel_rfl) (fun _ _ _ h => nomatch h.1) rfl (fun _ hS => by simp [execOp, go_sem, Act.eval]) S0 ?_
      simp only [zzA, zzB, zzC, Act.put, zzD, zzE, zzF]
      refine tk 1 (.agg (spA ix sb)) rfl (by kernel_rfl) (fun _ _ _ h => nomatch h.1) rfl (fun _ hS => exec_load rfl rfl (run_ldSp hS.sp)) S0 ?_
      simp only [zzA, zzB, zzC, Act.put, zzD, zzE, zzF]
      refine tk 2 (.pointer (some ⟨S, 0, none⟩)) rfl (by kernel_rfl) (fun _ _ _ h => nomatch h.1) rfl (fun _ hS => rfl) S0 ?_
      simp only [zzA, zzB, zzC, Act.put, zzD, zzE, zzF]
      refine tk 3 (.pointer (some ⟨p, 0, none⟩)) rfl (by kernel_rfl) (fun _ _ _ h => nomatch h.1) rfl (fun _ hS => by simp [execOp, go_sem, Act.eval]) S0 ?_
      simp only [zzA, zzB, zzC, Act.put, zzD, zzE, zzF]
      refine tk 4 (.agg (spA ix sb)) rfl (by kernel_rfl) (fun _ _ _ h => nomatch h.1) rfl (fun _ hS => exec_load rfl rfl (run_ldSp hS.sp)) S0 ?_
      simp only [zzA, zzB, zzC, Act.put, zzD, zzE, zzF]
      refine wpAnyH_all (rs := [5]) (by kernel_rfl) (by simp) ?_
      intro k hk
      simp only [List.mem_cons, List.mem_nil_iff, or_false] at hk
      subst hk
      refine wpOp_run rfl rfl (wp_call_fn 129 #[.pointer (some ⟨S, 0, none⟩), .agg (spA ix sb)] (by simp [execOp, go_sem, Act.eval, resolve, invoke, enterLv]) ?_)
      refine (HLV.out wb.drew c0).mono ?_
      rintro e u1 ⟨rfl, b1⟩
      have c1 := c0.trans (b1.mono c0.size)
      have s1 := t0.below c1
      refine ⟨s1, ?_⟩
      simp only [zzA, zzB, zzC, Act.put, zzD, zzE, zzF]
      refine wpAnyH_all (rs := [6]) (by kernel_rfl) (by simp) ?_
      intro k hk
      simp only [List.mem_cons, List.mem_nil_iff, or_false] at hk
      subst hk
      refine wpOp_run rfl rfl (wp_call_fn 105 #[.agg (spA ix sb), .int .u32 (lc : Int)] (by simp [execOp, go_sem, Act.eval, resolve, invoke, enterPs]) ?_)
      refine (HPS.out u1).mono ?_
      rintro e u2 ⟨rfl, b2⟩
      have c2 := c1.trans (b2.mono c1.size)
      have s2 := t0.below c2
      refine ⟨s2, ?_⟩
      simp only [zzA, zzB, zzC, Act.put, zzD, zzE, zzF]
      refine wpAnyH_done (by kernel_rfl) ?_ _
      exact ⟨rfl, 0, rfl, c2⟩
    intro u y hI
    simp only [Act.put, List.setIfInBounds_toArray, List.set_cons_succ, List.set_cons_zero]
    have q3 := Q2.out.below hI
    have t3 := T2.out.below hI
    have p3 := p2.below hI
    have HB3 := hidOf2 (HB2.out.trans (hI.mono HB2.out.size))
    have l3 := q3.load
    have c03 := q3.c0
    rw [hn] at c03
    have c6 := p3.c.2.2.2.2.2.2
    have c6 : y.cell? ⟨p, 6, none⟩ = some (.int .u32 0) := c6
    have l4 := p3.load
    have hs1 : (if n % 2 = 1 then some N else none) = none ∨ n % 2 = 1 := by by_cases h : n % 2 = 1; exact .inr h; exact .inl (if_neg h)
    have t4 := t3.row (t := s1 ix sb) (ap := none) (cq := 0)
    have B4 := below_row HB3.out (by rw [hk]; omega) HB3.out.size (q := k + 1) (trA (s1 ix sb) none 0)
    clear c0 S0 HLV HPS Q2 T2 H2 D2 HB2 t0 hI hlv
    by_cases hn1 : n % 2 = 1
    · have d1 : (((n % 2 : Nat) : Int) != 0) = true := by simp; omega
      obtain ⟨m, hm⟩ : ∃ m, n % 2 = m := ⟨_, rfl⟩
      rw [hm] at a1 d1
      rw [if_neg (by simp [hlc0])] at HAW
      go_wp2_with (first | (refine ldG l3 rfl _ rfl rfl ?_))
      refine (hnu _).mono ?_
      rintro e w4 ⟨rfl, b4⟩
      have p4 := p3.below b4
      have x5 := p4.c.2.2.2.2.2.1
      have x6 := p4.c.2.2.2.2.2.2
      have z5 : w4.frozen? ⟨p, 5, none⟩ = false := Lib.frozen_of_heap p4 5
      have z6 : w4.frozen? ⟨p, 6, none⟩ = false := Lib.frozen_of_heap p4 6
      have p5 := p4.said N
      have t5 := t3.below b4
      have B5 := HB3.out.trans (b4.mono HB3.out.size)
      have b5 : Below w.heap.size w ((w4.setCell ⟨p, 5, none⟩ (.bool true)).setCell ⟨p, 6, none⟩ (.int .u32 (N : Int))) := (B5.setCell (p := ⟨p, 5, none⟩) (by rw [hk]; show k ≤ p; omega) _).setCell (p := ⟨p, 6, none⟩) (by rw [hk]; show k ≤ p; omega) _
      have t6 : Tb (k + 1) Ss.nul none 0 ((w4.setCell ⟨p, 5, none⟩ (.bool true)).setCell ⟨p, 6, none⟩ (.int .u32 (N : Int))) := by
        have e1 := Below.heap_setCell (w4.setCell ⟨p, 5, none⟩ (.bool true)) ⟨p, 6, none⟩ (.int .u32 (N : Int)) (k + 1) (by show k + 1 ≠ p; omega)
        have e2 := Below.heap_setCell w4 ⟨p, 5, none⟩ (.bool true) (k + 1) (by show k + 1 ≠ p; omega)
        exact (e1.trans e2).trans t5
      have HX : Hid (∀ X, X = (w4.setCell ⟨p, 5, none⟩ (.bool true)).setCell ⟨p, 6, none⟩ (.int .u32 (N : Int)) → Tb p { s1 ix sb with sz := some N } none 0 X ∧ Tb (k + 1) Ss.nul none 0 X ∧ Below w.heap.size w X) := fun X hX => by subst hX; exact ⟨p5, t6, b5⟩
      clear p5 t6 b5 B5 t5 p4 b4 hnu t4 B4 l4 p3 t3 q3 l3 c03 c6
      go_upto_region 5 with fail
      generalize hX : (w4.setCell ⟨p, 5, none⟩ (.bool true)).setCell ⟨p, 6, none⟩ (.int .u32 (N : Int)) = X
      obtain ⟨p5, t5, b5⟩ := HX.out X hX.symm
      clear HX hX x5 x6 z5 z6
      have c6 : X.cell? ⟨p, 6, none⟩ = some (.int .u32 (N : Int)) := p5.c.2.2.2.2.2.2
      have r5 := p5.sp
      have l5 := p5.load
      have t6 := t5.row (t := { s1 ix sb with sz := some N }) (ap := none) (cq := 0)
      have B6 := below_row b5 (by rw [hk]; omega) b5.size (q := k + 1) (trA { s1 ix sb with sz := some N } none 0)
      by_cases hN : 65536 < N
      · have d2 : decide ((65536 : Int) < (N : Int)) = true := by simp; omega
        have hP := pass_bad ix sb 84148229 (by decide) X
        have HB5 := hidOf2 b5
        go_wp2_with (first | (refine ldSp (ix := ix) (sb := sb) r5 rfl _ rfl rfl ?_))
        refine hP.mono ?_
        rintro e w6 ⟨rfl, b6⟩
        exact ⟨rfl, by rw [HAW.out, if_pos ⟨hn1, hN⟩]; rfl, HB5.out.trans (b6.mono HB5.out.size)⟩
      · have d2 : decide ((65536 : Int) < (N : Int)) = false := by simp; omega
        have HB6 := hidOf2 B6
        clear B6 b5
        go_wp2_with (first | (refine ldG l5 rfl _ rfl rfl ?_) | (refine sdTb (t := { s1 ix sb with sz := some N }) (ap := none) (cq := 0) t5 rfl _ _ rfl rfl rfl ?_))
        exact bodyPost_ret (awaited_results t6 _ rfl) rfl ⟨by rw [HAW.out, if_neg (fun h => hN h.2), if_pos hn1]; rfl, by first | exact HB6.out | (have z := HB6.out; rw [hk] at z; exact z)⟩
    · have d1 : (((n % 2 : Nat) : Int) != 0) = false := by simp; omega
      obtain ⟨m, hm⟩ : ∃ m, n % 2 = m := ⟨_, rfl⟩
      rw [hm] at a1 d1
      have HB4 := hidOf2 B4
      clear B4
      rw [if_neg (by simp [hlc0]), if_neg (fun h => hn1 h.1), if_neg hn1] at HAW
      go_wp2_with (first | (refine ldG l4 rfl _ rfl rfl ?_) | (refine sdTb (t := s1 ix sb) (ap := none) (cq := 0) t3 rfl _ _ rfl rfl rfl ?_))
      exact bodyPost_ret (awaited_results t4 _ rfl) rfl ⟨by rw [HAW.out]; rfl, by first | exact HB4.out | (have z := HB4.out; rw [hk] at z; exact z)⟩
end
end Go.Proofs.YtahfnknbmikmkaaGreat
namespace Go.Proofs.YtahfnknbmikmkaaGreat
open Go.RowKit Go.Proofs.Ty
set_option linter.unusedVariables false
set_option maxRecDepth 1000000
set_option linter.unusedSimpArgs false
theorem u8size : ∃ i, Tryz.prog.info? 5 = some i ∧ i.size = 1 := by
  have hu : (Tryz.prog.info? 5).map (·.size) = some 1 := by kernel_rfl
  cases hh : Tryz.prog.info? 5 with
  | none => rw [hh] at hu; cases hu
  | some i => rw [hh] at hu; simp at hu; exact ⟨i, rfl, hu⟩
theorem sl8 (k lo hi : Nat) (h1 : lo ≤ hi) (h2 : hi ≤ 8) (h3 : lo < 8) (W : World) : (Instr.sliceAt 32 (.pointer (some ⟨k, 0, none⟩)) (some (.int .i64 (lo : Int))) (some (.int .i64 (hi : Int))) none).run Tryz.prog W = .ok (.slice (some ⟨k, lo, none⟩) (hi - lo) (8 - lo)) W := by
  obtain ⟨i0, hi0, hz0⟩ := u8size
  have e1 : (0 : Int) ≤ (lo : Int) := by omega
  have e2 : (lo : Int) ≤ (hi : Int) := by omega
  have e3 : (hi : Int) ≤ 8 := by omega
  have e4 : ¬ (8 : Int) < (hi : Int) := by omega
  have e5 : ¬ (hi : Int) < (lo : Int) := by omega
  have e6 : ¬ (lo : Int) < 0 := by omega
  have e7 : ¬ (hi : Int) < 0 := by omega
  unfold Instr.sliceAt
  simp [go_sem, run_underlying Tryz.underlying32, sizeOf, typeInfo, hi0, hz0, e1, e2, e3, e4, e5, e6, e7, Addr.add_mid]
  rw [if_pos h1, if_neg (by omega)]
theorem exec_slice8 {a : Act} {o : Oper} {x y z : Operand} {k lo hi : Nat} (ho : o.op = .slice 32 x (some y) (some z) none) (hx : a.eval x = .pointer (some ⟨k, 0, none⟩)) (hy : a.eval y = .int .i64 (lo : Int)) (hz : a.eval z = .int .i64 (hi : Int)) (h1 : lo ≤ hi) (h2 : hi ≤ 8) (h3 : lo < 8) (w : World) : (execOp a.eval o).run Tryz.prog w = .ok (.value (.slice (some ⟨k, lo, none⟩) (hi - lo) (8 - lo))) w := by
  have hr := sl8 k lo hi h1 h2 h3 w
  unfold execOp
  simp only [ho, hx, hy, hz, Option.map_some, Option.map_none, Sem.run_bind, hr, Result.andThen_ok, Sem.run_pure]
theorem exec_slice8n {a : Act} {o : Oper} {x y z : Operand} {k lo hi n c : Nat} (ho : o.op = .slice 32 x (some y) (some z) none) (hx : a.eval x = .pointer (some ⟨k, 0, none⟩)) (hy : a.eval y = .int .i64 (lo : Int)) (hz : a.eval z = .int .i64 (hi : Int)) (h1 : lo ≤ hi) (h2 : hi ≤ 8) (h3 : lo < 8) (hn : hi - lo = n) (hc : 8 - lo = c) (w : World) : (execOp a.eval o).run Tryz.prog w = .ok (.value (.slice (some ⟨k, lo, none⟩) n c)) w := by
  subst hn hc
  exact exec_slice8 ho hx hy hz h1 h2 h3 w
theorem exec_add {a : Act} {o : Oper} {x y : Operand} {m n : Nat} (ho : o.op = .binOp .add 3 x y 3) (hx : a.eval x = .int .i64 (m : Int)) (hy : a.eval y = .int .i64 (n : Int)) (h : m + n < 9223372036854775808) (w : World) : (execOp a.eval o).run Tryz.prog w = .ok (.value (.int .i64 ((m + n : Nat) : Int))) w := by
  unfold execOp
  simp only [ho, hx, hy]
  have e : IntKind.i64.wrap ((m : Int) + (n : Int)) = ((m + n : Nat) : Int) := by simp [IntKind.wrap, IntKind.bits, IntKind.signed]; omega
  simp [go_sem, run_underlying Tryz.underlying3, e]
theorem Dct.of_heap {D R : Nat} {its : List Im} {w x : World} (h : Dct D R its w) (hk : ∀ (b : Nat) (A : Array Value) (T : TypeId) (fr : Nat × Nat), w.heap[b]? = some (Obj.cells A T fr) → (T = 113 ∨ T = 102 ∨ T = 106) → x.heap[b]? = w.heap[b]?) : Dct D R its x :=
  ⟨(hk _ _ _ _ h.head (.inl rfl)).trans h.head, (hk _ _ _ _ h.row (.inr (.inl rfl))).trans h.row, fun i hi => (h.items i hi).same (hk _ _ _ _ (show w.heap[i.b]? = some (.cells (imC i.e i.v).toArray 106 (0, 0)) from h.items i hi) (.inr (.inr rfl))), h.apart, h.sorted, h.len⟩
theorem Dct.kpS {D R S : Nat} {its : List Im} {w x : World} {s : Ss} {ao : Option Addr} {cp : Nat} (h : Dct D R its w) (hp : Pb S D s ao cp w) (hK : Kp [S] w x) : Dct D R its x :=
  h.of_heap fun b A T fr hb hT => hK.block b (Array.getElem?_eq_some_iff.1 hb).1 (by
    rw [List.mem_singleton]
    rintro rfl
    rw [show w.heap[b]? = some (.cells (psA D s ao cp) 91 (0, 0)) from hp] at hb
    injection hb with hb
    injection hb with _ hb2
    subst hb2
    revert hT
    decide)
theorem Qb.bytes {k : Nat} {q : F8} {w : World} (h : Qb k q w) (lo n : Nat) (h2 : lo + n ≤ 8) (h3 : lo < 8) : Bytes w (.slice (some ⟨k, lo, none⟩) n (8 - lo)) ((q.l.drop lo).take n) := by
  have hl : ((q.l.drop lo).take n).length = n := by rw [List.length_take, List.length_drop]; show min n (8 - lo) = n; omega
  refine ⟨some ⟨k, lo, none⟩, 8 - lo, by rw [hl], fun h => (by cases h), fun j hj => ⟨k, lo, rfl, h.lt, ?_⟩⟩
  rw [hl] at hj
  rw [Lib.cell_of_heap h]
  rw [List.getElem_take, List.getElem_drop]
  have : ∀ m (hm : m < 8), q.arr[m]? = some (.int .u8 ((q.l[m]'(by exact hm)).toNat : Int)) := by
    intro m hm
    obtain rfl | rfl | rfl | rfl | rfl | rfl | rfl | rfl : m = 0 ∨ m = 1 ∨ m = 2 ∨ m = 3 ∨ m = 4 ∨ m = 5 ∨ m = 6 ∨ m = 7 := by omega
    all_goals rfl
  exact this (lo + j) (by omega)
end Go.Proofs.YtahfnknbmikmkaaGreat
