/- Contracts: tell, by how many bytes there are. -/
import Derived.Test.YtahfnknbmikmkaaGreatZs
import Derived.Test.YtahfnknbmikmkaaGreatKb24
namespace Go.Proofs.YtahfnknbmikmkaaGreat
open Go.RowKit Go.Proofs.Ty
set_option linter.unusedVariables false
set_option maxRecDepth 1000000
set_option linter.unusedSimpArgs false
section
variable {S D R : Nat} {s : Ss} {ao : Option Addr} {cp : Nat} {its : List Im} {w : World}
set_option maxHeartbeats 8000000 in
theorem tell_3 (h : Pv S D R its s ao cp w) (q : F8) (hdn : s.dn = 2) (ht : ¬ q.b0.toNat / 16 % 2 ≠ s.tn) (hlenK : s.bs.length = 3) : Calls Tryz.prog 66 #[.pointer (some ⟨S, 0, none⟩), .agg q.arr] w (HPost S D R its (wl s ao) ao (telO its s q) w) := by
  obtain ⟨W, hW⟩ : ∃ W, w.alloc (.cells q.arr 32) = W := ⟨_, rfl⟩
  obtain ⟨k, hk⟩ : ∃ k, w.heap.size = k := ⟨_, rfl⟩
  have hWs : W.heap.size = k + 1 := by rw [← hW, size_alloc, hk]
  have b0 : Below w.heap.size w (W.alloc (.cells zA8 32)) := (hW ▸ (Below.refl _ _).alloc (Nat.le_refl _) _).alloc (by rw [hWs, hk]; omega) _
  have q0 : Qb k q (W.alloc (.cells zA8 32)) := (Lib.alloc_old W _ k (by omega)).trans (by rw [← hk, ← hW]; exact Qb.new w q)
  have r0 : Qb (k + 1) F8.nul (W.alloc (.cells zA8 32)) := by rw [← hWs]; exact heap_alloc_new W _
  have hSk : S < k := by rw [← hk]; exact h.head.lt
  have h0 := h.below b0
  have hb0 := q.b0.toNat_lt
  have hok := h.ok
  have hnear := hidOf2 h.near
  have hfar := hidOf2 h.far
  have hcap := hidOf2 h.cap
  have HB0 := hidOf2 b0
  have HBV0 := hidOf2 h.by_
  have HLT := hidOf2 h.lt
  obtain ⟨EE, hEE⟩ : ∃ e, HPost S D R its (wl s ao) ao (telO its s q) w = e := ⟨_, rfl⟩
  have HRP : Hid (∀ O, telO its s q = O → ∀ e w', HPost S D R its (wl s ao) ao O w e w' → EE e w') := fun O hO e w' hh => by rw [← hEE, hO]; exact hh
  rw [hEE]
  clear h hEE b0
  go_enter Tryz.func66, Tryz.ntmps66
  go_upto_region 1 with fail
  change Code.wp Tryz.prog _ _ _ (W.alloc (.cells zA8 32))
  obtain ⟨V, hV⟩ : ∃ V, W.alloc (.cells zA8 32) = V := ⟨_, rfl⟩
  have hVs : V.heap.size = k + 2 := by rw [← hV, size_alloc, hWs]
  rw [hV] at q0 r0 HB0 h0 ⊢
  have l0 := q0.load
  have hdu := due_yes h0.head q (q.b0.toNat / 16 % 2) (by omega) rfl
  rw [hdn] at hdu
  have H0 := hidOf2 h0
  have hTu : ∀ V, Calls Tryz.prog 108 #[.agg q.arr] V fun e w' => e = .returned (.int .u8 ((16 * (q.b0.toNat / 16 % 2) : Nat) : Int)) ∧ Below V.heap.size V w' := turn_any q
  rw [if_neg ht] at hdu
  have ht2 : q.b0.toNat / 16 % 2 = s.tn := by simpa using ht
  rw [ht2] at hTu
  have hto9 : telO its s q = (.ok (told s), its, if s.bs.length ≤ 7 then Ss.nul else { s with bs := s.bs.drop 7, tn := 1 - s.tn }) := by unfold telO; rw [if_neg (by simp [hdn]), if_neg ht]
  have HTO := hidOf2 hto9
  clear hto9
  have HBV := hidOf2 h0.by_
  clear h0
  go_wp2_with (first | (refine ldG l0 rfl _ rfl rfl ?_))
  refine hdu.mono ?_
  rintro e w1 ⟨rfl, p1, K1⟩
  have d1 := H0.out.dct.kpS H0.out.head K1
  have q1 : Qb k q w1 := (K1.block _ q0.lt (by simp; omega)).trans q0
  have r1 : Qb (k + 1) F8.nul w1 := (K1.block _ r0.lt (by simp; omega)).trans r0
  have HK1 := hidOf2 K1
  have hsz1 : k + 2 ≤ w1.heap.size := by rw [← hVs]; exact K1.size
  clear hdu K1 q0 r0 l0 H0
  obtain ⟨p, hp⟩ : ∃ p, w1.heap.size = p := ⟨_, rfl⟩
  have z1 : Tb p Ss.nul none 0 (w1.alloc (.cells zTA 89)) := by rw [← hp]; exact heap_alloc_new w1 _
  have bz : Below w1.heap.size w1 (w1.alloc (.cells zTA 89)) := (Below.refl _ _).alloc (Nat.le_refl _) _
  have bz2 := below_row bz (by omega) (by rw [size_alloc]; omega) (q := p) (trA s ao cp)
  have z2 := z1.row (t := s) (ap := ao) (cq := cp)
  have hsz2 : ((w1.alloc (.cells zTA 89)).setRow p (trA s ao cp)).heap.size = p + 1 := by simp [World.setRow, size_alloc, hp]
  have HZ : Hid (∀ X, X = (w1.alloc (.cells zTA 89)).setRow p (trA s ao cp) → Tb p s ao cp X ∧ Below w1.heap.size w1 X ∧ X.heap.size = p + 1) := fun X hX => by subst hX; exact ⟨z2, bz2, hsz2⟩
  clear z2 bz2 bz hsz2
  go_upto_region 2 with (first | (refine sdTb (t := s) (ap := ao) (cq := cp) z1 rfl _ _ rfl rfl rfl ?_))
  change Code.wp Tryz.prog _ _ _ ((w1.alloc (.cells zTA 89)).setRow p (trA s ao cp))
  generalize hX : (w1.alloc (.cells zTA 89)).setRow p (trA s ao cp) = X
  obtain ⟨t2, b2, hXs⟩ := HZ.out X hX.symm
  obtain ⟨z, hz⟩ : ∃ z, X.heap.size = z := ⟨_, rfl⟩
  have hpz : p < z := by omega
  clear hXs
  have bA : Below X.heap.size X (X.alloc (.cells zA8 32)) := (Below.refl _ _).alloc (Nat.le_refl _) _
  have zA : Qb z F8.nul (X.alloc (.cells zA8 32)) := by rw [← hz]; exact heap_alloc_new X _
  have b23 := b2.trans (bA.mono b2.size)
  have M := hidOf2 (show Mid S D R k p its q s ao cp [S] V (X.alloc (.cells zA8 32)) from ⟨d1.below b23, p1.below b23, q1.below b23, r1.below b23, t2.below bA, HK1.out.trans (Kp.of_below b23)⟩)
  clear HZ hX z1 t2 b2 d1 p1 q1 r1 HK1 bA b23
  have hzV : V.heap.size ≤ z ∧ S ≠ z ∧ k ≠ z ∧ k + 1 ≠ z ∧ p ≠ z := by omega
  have hpV : V.heap.size ≤ p ∧ S ≠ p ∧ k ≠ p ∧ k + 1 ≠ p := by omega
  go_upto_region 3 with fail
  change Code.wp Tryz.prog _ _ _ (X.alloc (.cells zA8 32))
  generalize X.alloc (.cells zA8 32) = wb at *
  have c0 : Below wb.heap.size wb wb.drew := bdr (Below.refl _ _) 1
  have MD := M.out.below c0
  have S0x : True := trivial
  have tD : Tb p s ao cp wb.drew := MD.tr
  have zD : Qb z F8.nul wb.drew := zA.below c0
  have BD : Bytes wb.drew (.slice ao s.bs.length cp) s.bs := bytes_same HBV.out MD.kp.size (fun b hb hl => MD.kp.block b hl (by have := hfar.out b ((own_blk _ _ _ _).1 hb); simp; omega))
  clear zA c0 M
  have hT1 := hok.tn
  obtain ⟨T, hT⟩ : ∃ m, 16 * s.tn = m := ⟨_, rfl⟩
  have hTl : T ≤ 16 := by omega
  have HOR : Hid (∀ B : Nat, B % 2 = 0 → B < 16 → bits .or .u8 (T : Int) (B : Int) = (T : Int) + (B : Int)) := fun B h1 h2 => by
    have := orT s.tn (by omega) (B / 2) (by omega)
    rw [hT, show 2 * (B / 2) = B by omega] at this
    exact this
  have HOR2 : Hid (∀ B : Nat, B % 2 = 0 → B < 16 → bits .or .u8 ((T : Int) + (B : Int)) 1 = (T : Int) + ((B + 1 : Nat) : Int)) := fun B h1 h2 => by
    have := orT2 s.tn (by omega) (B / 2) (by omega)
    rw [hT, show 2 * (B / 2) = B by omega] at this
    exact this
  rw [hT] at hTu
  obtain ⟨nn, hnn⟩ : ∃ n, s.bs.length = n := ⟨_, rfl⟩
  have hn0 : s.bs.length = 3 := by omega
  have hcp0 := copy8 wb.drew z 1 F8.nul zD (by decide) ao 3 cp s.bs hn0 (by have := BD; rw [hn0] at this; exact this)
  obtain ⟨w3, hcp, y3, K3⟩ := hcp0
  rw [show ((min 3 (8 - 1) : Nat) : Int) = 3 by first | rfl | (have : min 3 7 = 3 := by omega); (show ((min 3 7 : Nat) : Int) = 3); omega] at hcp
  have tC : Tb p s ao cp w3 := (K3.block _ tD.lt (by simp; omega)).trans tD
  refine wp_region_held (S := fun y => Tb p s ao cp y) (by kernel_rfl) ?_
  change wpAnyH _ _ _ _ _ _ _ _ wb.drew
  refine tk 0 (.slice (some ⟨z, 1, none⟩) 7 7) rfl (by kernel_rfl) (fun _ _ _ h => h) rfl (fun _ hS => exec_slice8t (k := z) (lo := 1) rfl rfl rfl (by decide) _) tD ?_
  simp only [zzA, zzB, zzC, Act.put, zzD, zzE, zzF]
  refine tk 1 (.pointer (some ⟨p, 4, none⟩)) rfl (by kernel_rfl) (fun _ _ _ h => h) rfl (fun _ hS => by simp [execOp, go_sem, Act.eval]) tD ?_
  simp only [zzA, zzB, zzC, Act.put, zzD, zzE, zzF]
  refine tk 2 (.slice ao 3 cp) rfl (by kernel_rfl) (fun _ _ _ h => h) rfl (fun _ hS => exec_load rfl rfl (load_bytes _ _ _ _ _ _ (by have := hS.c.2.2.2.2.1; rw [hn0] at this; exact this))) tD ?_
  simp only [zzA, zzB, zzC, Act.put, zzD, zzE, zzF]
  refine wpAnyH_all (rs := [3]) (by kernel_rfl) (by simp) ?_
  intro k hk
  simp only [List.mem_cons, List.mem_nil_iff, or_false] at hk
  subst hk
  refine wpOp_run rfl rfl (wp_copy8 (hcp _) _ _ rfl rfl rfl ?_)
  refine ⟨tC, ?_⟩
  simp only [zzA, zzB, zzC, Act.put, zzD, zzE, zzF]
  refine tk 4 (.int .i64 3) rfl (by kernel_rfl) (fun _ _ _ h => h) rfl (fun _ hS => rfl) tC ?_
  simp only [zzA, zzB, zzC, Act.put, zzD, zzE, zzF]
  refine wpAnyH_done (by kernel_rfl) ?_ _
  have M3 := hidOf2 (show Mid S D R k p its q s ao cp [S] V w3 from ⟨MD.dct.of_heap fun b A T fr hb hT => K3.block b (Array.getElem?_eq_some_iff.1 hb).1 (by
      rw [List.mem_singleton]
      rintro rfl
      rw [show wb.drew.heap[b]? = some (.cells F8.nul.arr 32 (0, 0)) from zD] at hb
      injection hb with hb
      injection hb with _ hb2
      subst hb2
      revert hT
      decide), (K3.block _ MD.head.lt (by simp; omega)).trans MD.head, (K3.block _ MD.fr.lt (by simp; omega)).trans MD.fr, (K3.block _ MD.an.lt (by simp; omega)).trans MD.an, tC, MD.kp.fresh K3 (fun b hb => .inr (by simp at hb; omega))⟩)
  have B3 : Bytes w3 (.slice ao s.bs.length cp) s.bs := bytes_same HBV.out M3.out.kp.size (fun b hb hl => M3.out.kp.block b hl (by have := hfar.out b ((own_blk _ _ _ _).1 hb); simp; omega))
  obtain ⟨a2, c2, hsl, hB4, hC4, hO4⟩ := bslice_t B3 hcap.out 3 (by omega)
  rw [hn0] at hsl
  have lq := M3.out.fr.load
  have hfr : Qb z (F8.nul.put 1 (s.bs.take 7)) w3 := y3
  rw [put_nul] at hfr
  have HQ3 := hidOf2 hfr
  have HBY := hidOf2 B3
  clear K3 y3 hcp B3 tC tD zD BD S0x hfr MD
  go_wp2_with (first | (refine ldG lq rfl _ rfl rfl ?_))
  refine (hTu _).mono ?_
  rintro e w4 ⟨rfl, b4⟩
  have M4 := M3.out.below b4
  have q4 := HQ3.out.below b4
  have x0 := q4.c0
  have zz := q4.zz 0
  have o1 : bits .or .u8 (T : Int) 8 = (T : Int) + 8 := HOR.out 8 (by decide) (by decide)
  have q5 : Qb z { pn s with b0 := .ofNat (T + 8) } (w4.setCell ⟨z, 0, none⟩ (.int .u8 ((T : Int) + 8))) := q4.set 0 _ (by
    have : ((UInt8.ofNat (T + 8)).toNat : Int) = (T : Int) + 8 := by rw [un _ (by omega)] <;> omega
    exact F8.set0 _ _ _ this.symm)
  have K5 := Kp.cell1 w4 z 0 (.int .u8 ((T : Int) + 8))
  have M5 := mid_cell M4 q4 hzV K5
  have B5 := hidOf2 (HBY.out.below b4)
  obtain ⟨w5, hw5⟩ : ∃ x, w4.setCell ⟨z, 0, none⟩ (.int .u8 ((T : Int) + 8)) = x := ⟨_, rfl⟩
  rw [hw5] at q5 K5 M5
  have c4 := M5.tr.c.2.2.2.2.1
  rw [hn0] at c4
  have z4 : w5.frozen? ⟨p, 4, none⟩ = false := Lib.frozen_of_heap M5.tr 4
  have K6 := Kp.cell1 w5 p 4 (.slice a2 (3 - 3) c2)
  have M6 : Mid S D R k p its q { s with bs := s.bs.drop 3 } a2 c2 [S] V (w5.setCell ⟨p, 4, none⟩ (.slice a2 (3 - 3) c2)) := by
    have hl : (s.bs.drop 3).length = 3 - 3 := by rw [List.length_drop, hn0]
    have h1 := M5.setB (ap := a2) (cq := c2) (s.bs.drop 3) hpV
    rw [hl] at h1
    exact h1
  have q6 : Qb z { pn s with b0 := .ofNat (T + 8) } (w5.setCell ⟨p, 4, none⟩ (.slice a2 (3 - 3) c2)) := q5.other (by show z ≠ p; omega) _
  have HM6 := hidOf2 M6
  have HQ6 := hidOf2 q6
  have x6 := q6.c0
  have z6 := q6.zz 0
  have l6 := q6.load
  have e60 : (({ pn s with b0 := .ofNat (T + 8) } : F8).b0.toNat : Int) = (T : Int) + 8 := by show ((UInt8.ofNat (T + 8)).toNat : Int) = _; rw [un _ (by omega)] <;> omega
  rw [e60] at x6
  clear M3 HQ3 q4 b4 M4 HBY lq K5 K6 M6 q6 q5 M5 hTu
  obtain ⟨w6, hw6⟩ : ∃ x, w5.setCell ⟨p, 4, none⟩ (.slice a2 (3 - 3) c2) = x := ⟨_, rfl⟩
  rw [hw6] at HM6 HQ6 x6 z6 l6
  have o2 : bits .or .u8 ((T : Int) + 8) 1 = (T : Int) + 9 := by have := HOR2.out 8 (by decide) (by decide); first | exact this | (simpa using this)
  have q7 : Qb z (told s) (w6.setCell ⟨z, 0, none⟩ (.int .u8 ((T : Int) + 9))) := HQ6.out.set 0 _ (by
    have h1 : ((UInt8.ofNat (T + 9)).toNat : Int) = (T : Int) + 9 := by rw [un _ (by omega)] <;> omega
    have h2 : told s = { pn s with b0 := .ofNat (T + 9) } := by unfold told pn; rw [hn0, ← hT]; rfl
    rw [h2]
    exact F8.set0 _ _ _ h1.symm)
  have K7 := Kp.cell1 w6 z 0 (.int .u8 ((T : Int) + 9))
  have M7 := mid_cell HM6.out HQ6.out hzV K7
  have HTO2 := hidOf2 (show telO its s q = (.ok (told s), its, Ss.nul) from by rw [HTO.out, if_pos (by omega)])
  obtain ⟨w7, hw7⟩ : ∃ x, w6.setCell ⟨z, 0, none⟩ (.int .u8 ((T : Int) + 9)) = x := ⟨_, rfl⟩
  rw [hw7] at q7 M7
  have l7 := q7.load
  have r7 := M7.an
  have r8 := r7.row (told s)
  have HZ : Hid (HPost S D R its (wl s ao) ao (.ok (told s), its, Ss.nul) w (.returned (.agg (told s).arr)) (w7.setRow (k + 1) (told s).arr)) := by
    obtain ⟨x1, x2, x3⟩ := row_stays M7.head M7.dct ((Kp.of_below (bs := S :: (wl s ao ++ its.map Im.b)) HB0.out).fresh M7.kp (fun b hb => .inl (by simp at hb; simp [hb]))) r7 (by omega) (told s).arr
    exact ⟨rfl, none, 0, Pv.nul x2 x1 hnear.out, x3, fun b hb => by simp [blk] at hb⟩
  have c46 := HM6.out.tr.c.2.2.2.2.1
  rw [show ({ s with bs := s.bs.drop 3 } : Ss).bs.length = 0 by show (s.bs.drop 3).length = 0; rw [List.length_drop, hn0]] at c46
  clear M7 K7 HM6 HQ6 q7 HBV
  go_wp2_with (first | (refine slBt hsl rfl _ _ rfl rfl rfl ?_) | (refine ldG l7 rfl _ rfl rfl ?_) | (refine sdF (g := told s) r7 rfl _ _ rfl rfl rfl ?_))
  exact bodyPost_ret (tl_results r8 _ rfl) rfl (HRP.out _ HTO2.out _ _ HZ.out)
set_option maxHeartbeats 8000000 in
theorem tell_4 (h : Pv S D R its s ao cp w) (q : F8) (hdn : s.dn = 2) (ht : ¬ q.b0.toNat / 16 % 2 ≠ s.tn) (hlenK : s.bs.length = 4) : Calls Tryz.prog 66 #[.pointer (some ⟨S, 0, none⟩), .agg q.arr] w (HPost S D R its (wl s ao) ao (telO its s q) w) := by
  obtain ⟨W, hW⟩ : ∃ W, w.alloc (.cells q.arr 32) = W := ⟨_, rfl⟩
  obtain ⟨k, hk⟩ : ∃ k, w.heap.size = k := ⟨_, rfl⟩
  have hWs : W.heap.size = k + 1 := by rw [← hW, size_alloc, hk]
  have b0 : Below w.heap.size w (W.alloc (.cells zA8 32)) := (hW ▸ (Below.refl _ _).alloc (Nat.le_refl _) _).alloc (by rw [hWs, hk]; omega) _
  have q0 : Qb k q (W.alloc (.cells zA8 32)) := (Lib.alloc_old W _ k (by omega)).trans (by rw [← hk, ← hW]; exact Qb.new w q)
  have r0 : Qb (k + 1) F8.nul (W.alloc (.cells zA8 32)) := by rw [← hWs]; exact heap_alloc_new W _
  have hSk : S < k := by rw [← hk]; exact h.head.lt
  have h0 := h.below b0
  have hb0 := q.b0.toNat_lt
  have hok := h.ok
  have hnear := hidOf2 h.near
  have hfar := hidOf2 h.far
  have hcap := hidOf2 h.cap
  have HB0 := hidOf2 b0
  have HBV0 := hidOf2 h.by_
  have HLT := hidOf2 h.lt
  obtain ⟨EE, hEE⟩ : ∃ e, HPost S D R its (wl s ao) ao (telO its s q) w = e := ⟨_, rfl⟩
  have HRP : Hid (∀ O, telO its s q = O → ∀ e w', HPost S D R its (wl s ao) ao O w e w' → EE e w') := fun O hO e w' hh => by rw [← hEE, hO]; exact hh
  rw [hEE]
  clear h hEE b0
  go_enter Tryz.func66, Tryz.ntmps66
  go_upto_region 1 with fail
  change Code.wp Tryz.prog _ _ _ (W.alloc (.cells zA8 32))
  obtain ⟨V, hV⟩ : ∃ V, W.alloc (.cells zA8 32) = V := ⟨_, rfl⟩
  have hVs : V.heap.size = k + 2 := by rw [← hV, size_alloc, hWs]
  rw [hV] at q0 r0 HB0 h0 ⊢
  have l0 := q0.load
  have hdu := due_yes h0.head q (q.b0.toNat / 16 % 2) (by omega) rfl
  rw [hdn] at hdu
  have H0 := hidOf2 h0
  have hTu : ∀ V, Calls Tryz.prog 108 #[.agg q.arr] V fun e w' => e = .returned (.int .u8 ((16 * (q.b0.toNat / 16 % 2) : Nat) : Int)) ∧ Below V.heap.size V w' := turn_any q
  rw [if_neg ht] at hdu
  have ht2 : q.b0.toNat / 16 % 2 = s.tn := by simpa using ht
  rw [ht2] at hTu
  have hto9 : telO its s q = (.ok (told s), its, if s.bs.length ≤ 7 then Ss.nul else { s with bs := s.bs.drop 7, tn := 1 - s.tn }) := by unfold telO; rw [if_neg (by simp [hdn]), if_neg ht]
  have HTO := hidOf2 hto9
  clear hto9
  have HBV := hidOf2 h0.by_
  clear h0
  go_wp2_with (first | (refine ldG l0 rfl _ rfl rfl ?_))
  refine hdu.mono ?_
  rintro e w1 ⟨rfl, p1, K1⟩
  have d1 := H0.out.dct.kpS H0.out.head K1
  have q1 : Qb k q w1 := (K1.block _ q0.lt (by simp; omega)).trans q0
  have r1 : Qb (k + 1) F8.nul w1 := (K1.block _ r0.lt (by simp; omega)).trans r0
  have HK1 := hidOf2 K1
  have hsz1 : k + 2 ≤ w1.heap.size := by rw [← hVs]; exact K1.size
  clear hdu K1 q0 r0 l0 H0
  obtain ⟨p, hp⟩ : ∃ p, w1.heap.size = p := ⟨_, rfl⟩
  have z1 : Tb p Ss.nul none 0 (w1.alloc (.cells zTA 89)) := by rw [← hp]; exact heap_alloc_new w1 _
  have bz : Below w1.heap.size w1 (w1.alloc (.cells zTA 89)) := (Below.refl _ _).alloc (Nat.le_refl _) _
  have bz2 := below_row bz (by omega) (by rw [size_alloc]; omega) (q := p) (trA s ao cp)
  have z2 := z1.row (t := s) (ap := ao) (cq := cp)
  have hsz2 : ((w1.alloc (.cells zTA 89)).setRow p (trA s ao cp)).heap.size = p + 1 := by simp [World.setRow, size_alloc, hp]
  have HZ : Hid (∀ X, X = (w1.alloc (.cells zTA 89)).setRow p (trA s ao cp) → Tb p s ao cp X ∧ Below w1.heap.size w1 X ∧ X.heap.size = p + 1) := fun X hX => by subst hX; exact ⟨z2, bz2, hsz2⟩
  clear z2 bz2 bz hsz2
  go_upto_region 2 with (first | (refine sdTb (t := s) (ap := ao) (cq := cp) z1 rfl _ _ rfl rfl rfl ?_))
  change Code.wp Tryz.prog _ _ _ ((w1.alloc (.cells zTA 89)).setRow p (trA s ao cp))
  generalize hX : (w1.alloc (.cells zTA 89)).setRow p (trA s ao cp) = X
  obtain ⟨t2, b2, hXs⟩ := HZ.out X hX.symm
  obtain ⟨z, hz⟩ : ∃ z, X.heap.size = z := ⟨_, rfl⟩
  have hpz : p < z := by omega
  clear hXs
  have bA : Below X.heap.size X (X.alloc (.cells zA8 32)) := (Below.refl _ _).alloc (Nat.le_refl _) _
  have zA : Qb z F8.nul (X.alloc (.cells zA8 32)) := by rw [← hz]; exact heap_alloc_new X _
  have b23 := b2.trans (bA.mono b2.size)
  have M := hidOf2 (show Mid S D R k p its q s ao cp [S] V (X.alloc (.cells zA8 32)) from ⟨d1.below b23, p1.below b23, q1.below b23, r1.below b23, t2.below bA, HK1.out.trans (Kp.of_below b23)⟩)
  clear HZ hX z1 t2 b2 d1 p1 q1 r1 HK1 bA b23
  have hzV : V.heap.size ≤ z ∧ S ≠ z ∧ k ≠ z ∧ k + 1 ≠ z ∧ p ≠ z := by omega
  have hpV : V.heap.size ≤ p ∧ S ≠ p ∧ k ≠ p ∧ k + 1 ≠ p := by omega
  go_upto_region 3 with fail
  change Code.wp Tryz.prog _ _ _ (X.alloc (.cells zA8 32))
  generalize X.alloc (.cells zA8 32) = wb at *
  have c0 : Below wb.heap.size wb wb.drew := bdr (Below.refl _ _) 1
  have MD := M.out.below c0
  have S0x : True := trivial
  have tD : Tb p s ao cp wb.drew := MD.tr
  have zD : Qb z F8.nul wb.drew := zA.below c0
  have BD : Bytes wb.drew (.slice ao s.bs.length cp) s.bs := bytes_same HBV.out MD.kp.size (fun b hb hl => MD.kp.block b hl (by have := hfar.out b ((own_blk _ _ _ _).1 hb); simp; omega))
  clear zA c0 M
  have hT1 := hok.tn
  obtain ⟨T, hT⟩ : ∃ m, 16 * s.tn = m := ⟨_, rfl⟩
  have hTl : T ≤ 16 := by omega
  have HOR : Hid (∀ B : Nat, B % 2 = 0 → B < 16 → bits .or .u8 (T : Int) (B : Int) = (T : Int) + (B : Int)) := fun B h1 h2 => by
    have := orT s.tn (by omega) (B / 2) (by omega)
    rw [hT, show 2 * (B / 2) = B by omega] at this
    exact this
  have HOR2 : Hid (∀ B : Nat, B % 2 = 0 → B < 16 → bits .or .u8 ((T : Int) + (B : Int)) 1 = (T : Int) + ((B + 1 : Nat) : Int)) := fun B h1 h2 => by
    have := orT2 s.tn (by omega) (B / 2) (by omega)
    rw [hT, show 2 * (B / 2) = B by omega] at this
    exact this
  rw [hT] at hTu
  obtain ⟨nn, hnn⟩ : ∃ n, s.bs.length = n := ⟨_, rfl⟩
  have hn0 : s.bs.length = 4 := by omega
  have hcp0 := copy8 wb.drew z 1 F8.nul zD (by decide) ao 4 cp s.bs hn0 (by have := BD; rw [hn0] at this; exact this)
  obtain ⟨w3, hcp, y3, K3⟩ := hcp0
  rw [show ((min 4 (8 - 1) : Nat) : Int) = 4 by first | rfl | (have : min 4 7 = 4 := by omega); (show ((min 4 7 : Nat) : Int) = 4); omega] at hcp
  have tC : Tb p s ao cp w3 := (K3.block _ tD.lt (by simp; omega)).trans tD
  refine wp_region_held (S := fun y => Tb p s ao cp y) (by kernel_rfl) ?_
  change wpAnyH _ _ _ _ _ _ _ _ wb.drew
  refine tk 0 (.slice (some ⟨z, 1, none⟩) 7 7) rfl (by kernel_rfl) (fun _ _ _ h => h) rfl (fun _ hS => exec_slice8t (k := z) (lo := 1) rfl rfl rfl (by decide) _) tD ?_
  simp only [zzA, zzB, zzC, Act.put, zzD, zzE, zzF]
  refine tk 1 (.pointer (some ⟨p, 4, none⟩)) rfl (by kernel_rfl) (fun _ _ _ h => h) rfl (fun _ hS => by simp [execOp, go_sem, Act.eval]) tD ?_
  simp only [zzA, zzB, zzC, Act.put, zzD, zzE, zzF]
  refine tk 2 (.slice ao 4 cp) rfl (by kernel_rfl) (fun _ _ _ h => h) rfl (fun _ hS => exec_load rfl rfl (load_bytes _ _ _ _ _ _ (by have := hS.c.2.2.2.2.1; rw [hn0] at this; exact this))) tD ?_
  simp only [zzA, zzB, zzC, Act.put, zzD, zzE, zzF]
  refine wpAnyH_all (rs := [3]) (by kernel_rfl) (by simp) ?_
  intro k hk
  simp only [List.mem_cons, List.mem_nil_iff, or_false] at hk
  subst hk
  refine wpOp_run rfl rfl (wp_copy8 (hcp _) _ _ rfl rfl rfl ?_)
  refine ⟨tC, ?_⟩
  simp only [zzA, zzB, zzC, Act.put, zzD, zzE, zzF]
  refine tk 4 (.int .i64 4) rfl (by kernel_rfl) (fun _ _ _ h => h) rfl (fun _ hS => rfl) tC ?_
  simp only [zzA, zzB, zzC, Act.put, zzD, zzE, zzF]
  refine wpAnyH_done (by kernel_rfl) ?_ _
  have M3 := hidOf2 (show Mid S D R k p its q s ao cp [S] V w3 from ⟨MD.dct.of_heap fun b A T fr hb hT => K3.block b (Array.getElem?_eq_some_iff.1 hb).1 (by
      rw [List.mem_singleton]
      rintro rfl
      rw [show wb.drew.heap[b]? = some (.cells F8.nul.arr 32 (0, 0)) from zD] at hb
      injection hb with hb
      injection hb with _ hb2
      subst hb2
      revert hT
      decide), (K3.block _ MD.head.lt (by simp; omega)).trans MD.head, (K3.block _ MD.fr.lt (by simp; omega)).trans MD.fr, (K3.block _ MD.an.lt (by simp; omega)).trans MD.an, tC, MD.kp.fresh K3 (fun b hb => .inr (by simp at hb; omega))⟩)
  have B3 : Bytes w3 (.slice ao s.bs.length cp) s.bs := bytes_same HBV.out M3.out.kp.size (fun b hb hl => M3.out.kp.block b hl (by have := hfar.out b ((own_blk _ _ _ _).1 hb); simp; omega))
  obtain ⟨a2, c2, hsl, hB4, hC4, hO4⟩ := bslice_t B3 hcap.out 4 (by omega)
  rw [hn0] at hsl
  have lq := M3.out.fr.load
  have hfr : Qb z (F8.nul.put 1 (s.bs.take 7)) w3 := y3
  rw [put_nul] at hfr
  have HQ3 := hidOf2 hfr
  have HBY := hidOf2 B3
  clear K3 y3 hcp B3 tC tD zD BD S0x hfr MD
  go_wp2_with (first | (refine ldG lq rfl _ rfl rfl ?_))
  refine (hTu _).mono ?_
  rintro e w4 ⟨rfl, b4⟩
  have M4 := M3.out.below b4
  have q4 := HQ3.out.below b4
  have x0 := q4.c0
  have zz := q4.zz 0
  have o1 : bits .or .u8 (T : Int) 6 = (T : Int) + 6 := HOR.out 6 (by decide) (by decide)
  have q5 : Qb z { pn s with b0 := .ofNat (T + 6) } (w4.setCell ⟨z, 0, none⟩ (.int .u8 ((T : Int) + 6))) := q4.set 0 _ (by
    have : ((UInt8.ofNat (T + 6)).toNat : Int) = (T : Int) + 6 := by rw [un _ (by omega)] <;> omega
    exact F8.set0 _ _ _ this.symm)
  have K5 := Kp.cell1 w4 z 0 (.int .u8 ((T : Int) + 6))
  have M5 := mid_cell M4 q4 hzV K5
  have B5 := hidOf2 (HBY.out.below b4)
  obtain ⟨w5, hw5⟩ : ∃ x, w4.setCell ⟨z, 0, none⟩ (.int .u8 ((T : Int) + 6)) = x := ⟨_, rfl⟩
  rw [hw5] at q5 K5 M5
  have c4 := M5.tr.c.2.2.2.2.1
  rw [hn0] at c4
  have z4 : w5.frozen? ⟨p, 4, none⟩ = false := Lib.frozen_of_heap M5.tr 4
  have K6 := Kp.cell1 w5 p 4 (.slice a2 (4 - 4) c2)
  have M6 : Mid S D R k p its q { s with bs := s.bs.drop 4 } a2 c2 [S] V (w5.setCell ⟨p, 4, none⟩ (.slice a2 (4 - 4) c2)) := by
    have hl : (s.bs.drop 4).length = 4 - 4 := by rw [List.length_drop, hn0]
    have h1 := M5.setB (ap := a2) (cq := c2) (s.bs.drop 4) hpV
    rw [hl] at h1
    exact h1
  have q6 : Qb z { pn s with b0 := .ofNat (T + 6) } (w5.setCell ⟨p, 4, none⟩ (.slice a2 (4 - 4) c2)) := q5.other (by show z ≠ p; omega) _
  have HM6 := hidOf2 M6
  have HQ6 := hidOf2 q6
  have x6 := q6.c0
  have z6 := q6.zz 0
  have l6 := q6.load
  have e60 : (({ pn s with b0 := .ofNat (T + 6) } : F8).b0.toNat : Int) = (T : Int) + 6 := by show ((UInt8.ofNat (T + 6)).toNat : Int) = _; rw [un _ (by omega)] <;> omega
  rw [e60] at x6
  clear M3 HQ3 q4 b4 M4 HBY lq K5 K6 M6 q6 q5 M5 hTu
  obtain ⟨w6, hw6⟩ : ∃ x, w5.setCell ⟨p, 4, none⟩ (.slice a2 (4 - 4) c2) = x := ⟨_, rfl⟩
  rw [hw6] at HM6 HQ6 x6 z6 l6
  have o2 : bits .or .u8 ((T : Int) + 6) 1 = (T : Int) + 7 := by have := HOR2.out 6 (by decide) (by decide); first | exact this | (simpa using this)
  have q7 : Qb z (told s) (w6.setCell ⟨z, 0, none⟩ (.int .u8 ((T : Int) + 7))) := HQ6.out.set 0 _ (by
    have h1 : ((UInt8.ofNat (T + 7)).toNat : Int) = (T : Int) + 7 := by rw [un _ (by omega)] <;> omega
    have h2 : told s = { pn s with b0 := .ofNat (T + 7) } := by unfold told pn; rw [hn0, ← hT]; rfl
    rw [h2]
    exact F8.set0 _ _ _ h1.symm)
  have K7 := Kp.cell1 w6 z 0 (.int .u8 ((T : Int) + 7))
  have M7 := mid_cell HM6.out HQ6.out hzV K7
  have HTO2 := hidOf2 (show telO its s q = (.ok (told s), its, Ss.nul) from by rw [HTO.out, if_pos (by omega)])
  obtain ⟨w7, hw7⟩ : ∃ x, w6.setCell ⟨z, 0, none⟩ (.int .u8 ((T : Int) + 7)) = x := ⟨_, rfl⟩
  rw [hw7] at q7 M7
  have l7 := q7.load
  have r7 := M7.an
  have r8 := r7.row (told s)
  have HZ : Hid (HPost S D R its (wl s ao) ao (.ok (told s), its, Ss.nul) w (.returned (.agg (told s).arr)) (w7.setRow (k + 1) (told s).arr)) := by
    obtain ⟨x1, x2, x3⟩ := row_stays M7.head M7.dct ((Kp.of_below (bs := S :: (wl s ao ++ its.map Im.b)) HB0.out).fresh M7.kp (fun b hb => .inl (by simp at hb; simp [hb]))) r7 (by omega) (told s).arr
    exact ⟨rfl, none, 0, Pv.nul x2 x1 hnear.out, x3, fun b hb => by simp [blk] at hb⟩
  have c46 := HM6.out.tr.c.2.2.2.2.1
  rw [show ({ s with bs := s.bs.drop 4 } : Ss).bs.length = 0 by show (s.bs.drop 4).length = 0; rw [List.length_drop, hn0]] at c46
  clear M7 K7 HM6 HQ6 q7 HBV
  go_wp2_with (first | (refine slBt hsl rfl _ _ rfl rfl rfl ?_) | (refine ldG l7 rfl _ rfl rfl ?_) | (refine sdF (g := told s) r7 rfl _ _ rfl rfl rfl ?_))
  exact bodyPost_ret (tl_results r8 _ rfl) rfl (HRP.out _ HTO2.out _ _ HZ.out)
set_option maxHeartbeats 8000000 in
theorem tell_5 (h : Pv S D R its s ao cp w) (q : F8) (hdn : s.dn = 2) (ht : ¬ q.b0.toNat / 16 % 2 ≠ s.tn) (hlenK : s.bs.length = 5) : Calls Tryz.prog 66 #[.pointer (some ⟨S, 0, none⟩), .agg q.arr] w (HPost S D R its (wl s ao) ao (telO its s q) w) := by
  obtain ⟨W, hW⟩ : ∃ W, w.alloc (.cells q.arr 32) = W := ⟨_, rfl⟩
  obtain ⟨k, hk⟩ : ∃ k, w.heap.size = k := ⟨_, rfl⟩
  have hWs : W.heap.size = k + 1 := by rw [← hW, size_alloc, hk]
  have b0 : Below w.heap.size w (W.alloc (.cells zA8 32)) := (hW ▸ (Below.refl _ _).alloc (Nat.le_refl _) _).alloc (by rw [hWs, hk]; omega) _
  have q0 : Qb k q (W.alloc (.cells zA8 32)) := (Lib.alloc_old W _ k (by omega)).trans (by rw [← hk, ← hW]; exact Qb.new w q)
  have r0 : Qb (k + 1) F8.nul (W.alloc (.cells zA8 32)) := by rw [← hWs]; exact heap_alloc_new W _
  have hSk : S < k := by rw [← hk]; exact h.head.lt
  have h0 := h.below b0
  have hb0 := q.b0.toNat_lt
  have hok := h.ok
  have hnear := hidOf2 h.near
  have hfar := hidOf2 h.far
  have hcap := hidOf2 h.cap
  have HB0 := hidOf2 b0
  have HBV0 := hidOf2 h.by_
  have HLT := hidOf2 h.lt
  obtain ⟨EE, hEE⟩ : ∃ e, HPost S D R its (wl s ao) ao (telO its s q) w = e := ⟨_, rfl⟩
  have HRP : Hid (∀ O, telO its s q = O → ∀ e w', HPost S D R its (wl s ao) ao O w e w' → EE e w') := fun O hO e w' hh => by rw [← hEE, hO]; exact hh
  rw [hEE]
  clear h hEE b0
  go_enter Tryz.func66, Tryz.ntmps66
  go_upto_region 1 with fail
  change Code.wp Tryz.prog _ _ _ (W.alloc (.cells zA8 32))
  obtain ⟨V, hV⟩ : ∃ V, W.alloc (.cells zA8 32) = V := ⟨_, rfl⟩
  have hVs : V.heap.size = k + 2 := by rw [← hV, size_alloc, hWs]
  rw [hV] at q0 r0 HB0 h0 ⊢
  have l0 := q0.load
  have hdu := due_yes h0.head q (q.b0.toNat / 16 % 2) (by omega) rfl
  rw [hdn] at hdu
  have H0 := hidOf2 h0
  have hTu : ∀ V, Calls Tryz.prog 108 #[.agg q.arr] V fun e w' => e = .returned (.int .u8 ((16 * (q.b0.toNat / 16 % 2) : Nat) : Int)) ∧ Below V.heap.size V w' := turn_any q
  rw [if_neg ht] at hdu
  have ht2 : q.b0.toNat / 16 % 2 = s.tn := by simpa using ht
  rw [ht2] at hTu
  have hto9 : telO its s q = (.ok (told s), its, if s.bs.length ≤ 7 then Ss.nul else { s with bs := s.bs.drop 7, tn := 1 - s.tn }) := by unfold telO; rw [if_neg (by simp [hdn]), if_neg ht]
  have HTO := hidOf2 hto9
  clear hto9
  have HBV := hidOf2 h0.by_
  clear h0
  go_wp2_with (first | (refine ldG l0 rfl _ rfl rfl ?_))
  refine hdu.mono ?_
  rintro e w1 ⟨rfl, p1, K1⟩
  have d1 := H0.out.dct.kpS H0.out.head K1
  have q1 : Qb k q w1 := (K1.block _ q0.lt (by simp; omega)).trans q0
  have r1 : Qb (k + 1) F8.nul w1 := (K1.block _ r0.lt (by simp; omega)).trans r0
  have HK1 := hidOf2 K1
  have hsz1 : k + 2 ≤ w1.heap.size := by rw [← hVs]; exact K1.size
  clear hdu K1 q0 r0 l0 H0
  obtain ⟨p, hp⟩ : ∃ p, w1.heap.size = p := ⟨_, rfl⟩
  have z1 : Tb p Ss.nul none 0 (w1.alloc (.cells zTA 89)) := by rw [← hp]; exact heap_alloc_new w1 _
  have bz : Below w1.heap.size w1 (w1.alloc (.cells zTA 89)) := (Below.refl _ _).alloc (Nat.le_refl _) _
  have bz2 := below_row bz (by omega) (by rw [size_alloc]; omega) (q := p) (trA s ao cp)
  have z2 := z1.row (t := s) (ap := ao) (cq := cp)
  have hsz2 : ((w1.alloc (.cells zTA 89)).setRow p (trA s ao cp)).heap.size = p + 1 := by simp [World.setRow, size_alloc, hp]
  have HZ : Hid (∀ X, X = (w1.alloc (.cells zTA 89)).setRow p (trA s ao cp) → Tb p s ao cp X ∧ Below w1.heap.size w1 X ∧ X.heap.size = p + 1) := fun X hX => by subst hX; exact ⟨z2, bz2, hsz2⟩
  clear z2 bz2 bz hsz2
  go_upto_region 2 with (first | (refine sdTb (t := s) (ap := ao) (cq := cp) z1 rfl _ _ rfl rfl rfl ?_))
  change Code.wp Tryz.prog _ _ _ ((w1.alloc (.cells zTA 89)).setRow p (trA s ao cp))
  generalize hX : (w1.alloc (.cells zTA 89)).setRow p (trA s ao cp) = X
  obtain ⟨t2, b2, hXs⟩ := HZ.out X hX.symm
  obtain ⟨z, hz⟩ : ∃ z, X.heap.size = z := ⟨_, rfl⟩
  have hpz : p < z := by omega
  clear hXs
  have bA : Below X.heap.size X (X.alloc (.cells zA8 32)) := (Below.refl _ _).alloc (Nat.le_refl _) _
  have zA : Qb z F8.nul (X.alloc (.cells zA8 32)) := by rw [← hz]; exact heap_alloc_new X _
  have b23 := b2.trans (bA.mono b2.size)
  have M := hidOf2 (show Mid S D R k p its q s ao cp [S] V (X.alloc (.cells zA8 32)) from ⟨d1.below b23, p1.below b23, q1.below b23, r1.below b23, t2.below bA, HK1.out.trans (Kp.of_below b23)⟩)
  clear HZ hX z1 t2 b2 d1 p1 q1 r1 HK1 bA b23
  have hzV : V.heap.size ≤ z ∧ S ≠ z ∧ k ≠ z ∧ k + 1 ≠ z ∧ p ≠ z := by omega
  have hpV : V.heap.size ≤ p ∧ S ≠ p ∧ k ≠ p ∧ k + 1 ≠ p := by omega
  go_upto_region 3 with fail
  change Code.wp Tryz.prog _ _ _ (X.alloc (.cells zA8 32))
  generalize X.alloc (.cells zA8 32) = wb at *
  have c0 : Below wb.heap.size wb wb.drew := bdr (Below.refl _ _) 1
  have MD := M.out.below c0
  have S0x : True := trivial
  have tD : Tb p s ao cp wb.drew := MD.tr
  have zD : Qb z F8.nul wb.drew := zA.below c0
  have BD : Bytes wb.drew (.slice ao s.bs.length cp) s.bs := bytes_same HBV.out MD.kp.size (fun b hb hl => MD.kp.block b hl (by have := hfar.out b ((own_blk _ _ _ _).1 hb); simp; omega))
  clear zA c0 M
  have hT1 := hok.tn
  obtain ⟨T, hT⟩ : ∃ m, 16 * s.tn = m := ⟨_, rfl⟩
  have hTl : T ≤ 16 := by omega
  have HOR : Hid (∀ B : Nat, B % 2 = 0 → B < 16 → bits .or .u8 (T : Int) (B : Int) = (T : Int) + (B : Int)) := fun B h1 h2 => by
    have := orT s.tn (by omega) (B / 2) (by omega)
    rw [hT, show 2 * (B / 2) = B by omega] at this
    exact this
  have HOR2 : Hid (∀ B : Nat, B % 2 = 0 → B < 16 → bits .or .u8 ((T : Int) + (B : Int)) 1 = (T : Int) + ((B + 1 : Nat) : Int)) := fun B h1 h2 => by
    have := orT2 s.tn (by omega) (B / 2) (by omega)
    rw [hT, show 2 * (B / 2) = B by omega] at this
    exact this
  rw [hT] at hTu
  obtain ⟨nn, hnn⟩ : ∃ n, s.bs.length = n := ⟨_, rfl⟩
  have hn0 : s.bs.length = 5 := by omega
  have hcp0 := copy8 wb.drew z 1 F8.nul zD (by decide) ao 5 cp s.bs hn0 (by have := BD; rw [hn0] at this; exact this)
  obtain ⟨w3, hcp, y3, K3⟩ := hcp0
  rw [show ((min 5 (8 - 1) : Nat) : Int) = 5 by first | rfl | (have : min 5 7 = 5 := by omega); (show ((min 5 7 : Nat) : Int) = 5); omega] at hcp
  have tC : Tb p s ao cp w3 := (K3.block _ tD.lt (by simp; omega)).trans tD
  refine wp_region_held (S := fun y => Tb p s ao cp y) (by kernel_rfl) ?_
  change wpAnyH _ _ _ _ _ _ _ _ wb.drew
  refine tk 0 (.slice (some ⟨z, 1, none⟩) 7 7) rfl (by kernel_rfl) (fun _ _ _ h => h) rfl (fun _ hS => exec_slice8t (k := z) (lo := 1) rfl rfl rfl (by decide) _) tD ?_
  simp only [zzA, zzB, zzC, Act.put, zzD, zzE, zzF]
  refine tk 1 (.pointer (some ⟨p, 4, none⟩)) rfl (by kernel_rfl) (fun _ _ _ h => h) rfl (fun _ hS => by simp [execOp, go_sem, Act.eval]) tD ?_
  simp only [zzA, zzB, zzC, Act.put, zzD, zzE, zzF]
  refine tk 2 (.slice ao 5 cp) rfl (by kernel_rfl) (fun _ _ _ h => h) rfl (fun _ hS => exec_load rfl rfl (load_bytes _ _ _ _ _ _ (by have := hS.c.2.2.2.2.1; rw [hn0] at this; exact this))) tD ?_
  simp only [zzA, zzB, zzC, Act.put, zzD, zzE, zzF]
  refine wpAnyH_all (rs := [3]) (by kernel_rfl) (by simp) ?_
  intro k hk
  simp only [List.mem_cons, List.mem_nil_iff, or_false] at hk
  subst hk
  refine wpOp_run rfl rfl (wp_copy8 (hcp _) _ _ rfl rfl rfl ?_)
  refine ⟨tC, ?_⟩
  simp only [zzA, zzB, zzC, Act.put, zzD, zzE, zzF]
  refine tk 4 (.int .i64 5) rfl (by kernel_rfl) (fun _ _ _ h => h) rfl (fun _ hS => rfl) tC ?_
  simp only [zzA, zzB, zzC, Act.put, zzD, zzE, zzF]
  refine wpAnyH_done (by kernel_rfl) ?_ _
  have M3 := hidOf2 (show Mid S D R k p its q s ao cp [S] V w3 from ⟨MD.dct.of_heap fun b A T fr hb hT => K3.block b (Array.getElem?_eq_some_iff.1 hb).1 (by
      rw [List.mem_singleton]
      rintro rfl
      rw [show wb.drew.heap[b]? = some (.cells F8.nul.arr 32 (0, 0)) from zD] at hb
      injection hb with hb
      injection hb with _ hb2
      subst hb2
      revert hT
      decide), (K3.block _ MD.head.lt (by simp; omega)).trans MD.head, (K3.block _ MD.fr.lt (by simp; omega)).trans MD.fr, (K3.block _ MD.an.lt (by simp; omega)).trans MD.an, tC, MD.kp.fresh K3 (fun b hb => .inr (by simp at hb; omega))⟩)
  have B3 : Bytes w3 (.slice ao s.bs.length cp) s.bs := bytes_same HBV.out M3.out.kp.size (fun b hb hl => M3.out.kp.block b hl (by have := hfar.out b ((own_blk _ _ _ _).1 hb); simp; omega))
  obtain ⟨a2, c2, hsl, hB4, hC4, hO4⟩ := bslice_t B3 hcap.out 5 (by omega)
  rw [hn0] at hsl
  have lq := M3.out.fr.load
  have hfr : Qb z (F8.nul.put 1 (s.bs.take 7)) w3 := y3
  rw [put_nul] at hfr
  have HQ3 := hidOf2 hfr
  have HBY := hidOf2 B3
  clear K3 y3 hcp B3 tC tD zD BD S0x hfr MD
  go_wp2_with (first | (refine ldG lq rfl _ rfl rfl ?_))
  refine (hTu _).mono ?_
  rintro e w4 ⟨rfl, b4⟩
  have M4 := M3.out.below b4
  have q4 := HQ3.out.below b4
  have x0 := q4.c0
  have zz := q4.zz 0
  have o1 : bits .or .u8 (T : Int) 4 = (T : Int) + 4 := HOR.out 4 (by decide) (by decide)
  have q5 : Qb z { pn s with b0 := .ofNat (T + 4) } (w4.setCell ⟨z, 0, none⟩ (.int .u8 ((T : Int) + 4))) := q4.set 0 _ (by
    have : ((UInt8.ofNat (T + 4)).toNat : Int) = (T : Int) + 4 := by rw [un _ (by omega)] <;> omega
    exact F8.set0 _ _ _ this.symm)
  have K5 := Kp.cell1 w4 z 0 (.int .u8 ((T : Int) + 4))
  have M5 := mid_cell M4 q4 hzV K5
  have B5 := hidOf2 (HBY.out.below b4)
  obtain ⟨w5, hw5⟩ : ∃ x, w4.setCell ⟨z, 0, none⟩ (.int .u8 ((T : Int) + 4)) = x := ⟨_, rfl⟩
  rw [hw5] at q5 K5 M5
  have c4 := M5.tr.c.2.2.2.2.1
  rw [hn0] at c4
  have z4 : w5.frozen? ⟨p, 4, none⟩ = false := Lib.frozen_of_heap M5.tr 4
  have K6 := Kp.cell1 w5 p 4 (.slice a2 (5 - 5) c2)
  have M6 : Mid S D R k p its q { s with bs := s.bs.drop 5 } a2 c2 [S] V (w5.setCell ⟨p, 4, none⟩ (.slice a2 (5 - 5) c2)) := by
    have hl : (s.bs.drop 5).length = 5 - 5 := by rw [List.length_drop, hn0]
    have h1 := M5.setB (ap := a2) (cq := c2) (s.bs.drop 5) hpV
    rw [hl] at h1
    exact h1
  have q6 : Qb z { pn s with b0 := .ofNat (T + 4) } (w5.setCell ⟨p, 4, none⟩ (.slice a2 (5 - 5) c2)) := q5.other (by show z ≠ p; omega) _
  have HM6 := hidOf2 M6
  have HQ6 := hidOf2 q6
  have x6 := q6.c0
  have z6 := q6.zz 0
  have l6 := q6.load
  have e60 : (({ pn s with b0 := .ofNat (T + 4) } : F8).b0.toNat : Int) = (T : Int) + 4 := by show ((UInt8.ofNat (T + 4)).toNat : Int) = _; rw [un _ (by omega)] <;> omega
  rw [e60] at x6
  clear M3 HQ3 q4 b4 M4 HBY lq K5 K6 M6 q6 q5 M5 hTu
  obtain ⟨w6, hw6⟩ : ∃ x, w5.setCell ⟨p, 4, none⟩ (.slice a2 (5 - 5) c2) = x := ⟨_, rfl⟩
  rw [hw6] at HM6 HQ6 x6 z6 l6
  have o2 : bits .or .u8 ((T : Int) + 4) 1 = (T : Int) + 5 := by have := HOR2.out 4 (by decide) (by decide); first | exact this | (simpa using this)
  have q7 : Qb z (told s) (w6.setCell ⟨z, 0, none⟩ (.int .u8 ((T : Int) + 5))) := HQ6.out.set 0 _ (by
    have h1 : ((UInt8.ofNat (T + 5)).toNat : Int) = (T : Int) + 5 := by rw [un _ (by omega)] <;> omega
    have h2 : told s = { pn s with b0 := .ofNat (T + 5) } := by unfold told pn; rw [hn0, ← hT]; rfl
    rw [h2]
    exact F8.set0 _ _ _ h1.symm)
  have K7 := Kp.cell1 w6 z 0 (.int .u8 ((T : Int) + 5))
  have M7 := mid_cell HM6.out HQ6.out hzV K7
  have HTO2 := hidOf2 (show telO its s q = (.ok (told s), its, Ss.nul) from by rw [HTO.out, if_pos (by omega)])
  obtain ⟨w7, hw7⟩ : ∃ x, w6.setCell ⟨z, 0, none⟩ (.int .u8 ((T : Int) + 5)) = x := ⟨_, rfl⟩
  rw [hw7] at q7 M7
  have l7 := q7.load
  have r7 := M7.an
  have r8 := r7.row (told s)
  have HZ : Hid (HPost S D R its (wl s ao) ao (.ok (told s), its, Ss.nul) w (.returned (.agg (told s).arr)) (w7.setRow (k + 1) (told s).arr)) := by
    obtain ⟨x1, x2, x3⟩ := row_stays M7.head M7.dct ((Kp.of_below (bs := S :: (wl s ao ++ its.map Im.b)) HB0.out).fresh M7.kp (fun b hb => .inl (by simp at hb; simp [hb]))) r7 (by omega) (told s).arr
    exact ⟨rfl, none, 0, Pv.nul x2 x1 hnear.out, x3, fun b hb => by simp [blk] at hb⟩
  have c46 := HM6.out.tr.c.2.2.2.2.1
  rw [show ({ s with bs := s.bs.drop 5 } : Ss).bs.length = 0 by show (s.bs.drop 5).length = 0; rw [List.length_drop, hn0]] at c46
  clear M7 K7 HM6 HQ6 q7 HBV
  go_wp2_with (first | (refine slBt hsl rfl _ _ rfl rfl rfl ?_) | (refine ldG l7 rfl _ rfl rfl ?_) | (refine sdF (g := told s) r7 rfl _ _ rfl rfl rfl ?_))
  exact bodyPost_ret (tl_results r8 _ rfl) rfl (HRP.out _ HTO2.out _ _ HZ.out)
end
end Go.Proofs.YtahfnknbmikmkaaGreat
