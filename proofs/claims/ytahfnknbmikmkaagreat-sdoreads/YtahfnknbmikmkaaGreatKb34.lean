/- The document's Handle. New; both servers in one world. == of frames; frames beside both servers. -/
import Derived.Test.YtahfnknbmikmkaaGreatKb33
import Derived.Test.YtahfnknbmikmkaaGreatKb29
import Derived.Test.YtahfnknbmikmkaaGreatKb18
namespace Go.Proofs.YtahfnknbmikmkaaGreat
open Go.RowKit Go.Proofs.Ty
set_option linter.unusedVariables false
set_option maxRecDepth 1000000
set_option linter.unusedSimpArgs false
theorem rh_results {Q : Nat} {f : F8} {b : Bool} {w : World} (h : Qb Q f w) (tmps : Array Value) (h2 : tmps[4]?.getD undef = .pointer (some ⟨Q, 0, none⟩)) (h3 : tmps[5]?.getD undef = .bool b) :
    (results Tryz.f37 tmps).run Tryz.prog w = .ok (.tuple #[.agg f.arr, .bool b]) w := by
  have l0 := h.load
  simp [Go.results, Tryz.results37, h2, h3, asAddr, l0]
def RhPost (T E : Nat) (ao : Option Addr) (O : Ro × List Im × Ss) (b : Bool) (w : World) (e : Ending) (w' : World) : Prop :=
  e = .returned (.tuple #[.agg O.1.f.arr, .bool b]) ∧ ∃ ap cq, Dv T E O.2.1 O.2.2 ap cq w' ∧ Kp [T, E] w w' ∧ ∀ b ∈ blk ap, b ∈ blk ao ∨ w.heap.size ≤ b
theorem Dv.row {T E j : Nat} {its : List Im} {s : Ss} {ao : Option Addr} {cp : Nat} {x : World} {f : F8} (h : Dv T E its s ao cp x) (hq : Qb j f x) (hj : ∀ b ∈ blk ao, b ≠ j) (A : Array Value) : Dv T E its s ao cp (x.setRow j A) := by
  refine ⟨?_, (setRow_other _ _ _ _ ?_).trans h.head, bytes_same h.by_ (by simp) (fun b hb _ => setRow_other _ _ _ _ (hj b ((own_blk _ _ _ _).1 hb))), h.cap, h.far, (fun b hb => by have := h.lt b hb; simp only [World.setRow, Array.size_modify]; exact this), h.et, h.len, h.oks, h.nod, h.ok⟩
  · obtain ⟨vL, vV, hr⟩ := h.rd
    exact ⟨vL, vV, hr.row hq _⟩
  · rintro rfl
    have h1 : x.heap[T]? = some (.cells (dsC E s ao cp).toArray 85 (0, 0)) := h.head
    rw [show x.heap[T]? = some (.cells f.arr 32 (0, 0)) from hq] at h1
    injection h1 with h1
    injection h1 with _ h2
    revert h2
    decide
section
variable {T E : Nat} {s : Ss} {ao : Option Addr} {cp : Nat} {its : List Im} {w : World}
set_option maxHeartbeats 16000000 in
theorem rsHandle_any (h : Dv T E its s ao cp w) (q : F8) : Calls Tryz.prog 37 #[.pointer (some ⟨T, 0, none⟩), .agg q.arr] w (RhPost T E ao (hndO its s q) (hndB q) w) := by
  obtain ⟨W, hW⟩ : ∃ W, w.alloc (.cells q.arr 32) = W := ⟨_, rfl⟩
  obtain ⟨k, hk⟩ : ∃ k, w.heap.size = k := ⟨_, rfl⟩
  have hWs : W.heap.size = k + 1 := by rw [← hW, size_alloc, hk]
  have b0 : Below w.heap.size w (W.alloc (.cells zA8 32)) := (hW ▸ (Below.refl _ _).alloc (Nat.le_refl _) _).alloc (by rw [hWs, hk]; omega) _
  have q0 : Qb k q (W.alloc (.cells zA8 32)) := (Lib.alloc_old W _ k (by omega)).trans (by rw [← hk, ← hW]; exact Qb.new w q)
  have r0 : Qb (k + 1) F8.nul (W.alloc (.cells zA8 32)) := by rw [← hWs]; exact heap_alloc_new W _
  have h0 := h.below b0
  have hTk : T < k := by rw [← hk]; exact h.head.lt
  have hET := h.et
  have HLW := hidOf2 (show ∀ b ∈ blk ao, b < k from fun b hb => by rw [← hk]; exact h.lt b hb)
  have HB0 := hidOf2 b0
  obtain ⟨EE, hEE⟩ : ∃ e, RhPost T E ao (hndO its s q) (hndB q) w = e := ⟨_, rfl⟩
  have HRP : Hid (∀ e w', RhPost T E ao (hndO its s q) (hndB q) w e w' → EE e w') := fun e w' hh => by rw [← hEE]; exact hh
  rw [hEE]
  have hb0 := q.b0.toNat_lt
  have hb1 := q.b1.toNat_lt
  have hb2 := q.b2.toNat_lt
  have hb3 := q.b3.toNat_lt
  clear h hEE b0
  obtain ⟨V, hV⟩ : ∃ V, W.alloc (.cells zA8 32) = V := ⟨_, rfl⟩
  have hVs : V.heap.size = k + 2 := by rw [← hV, size_alloc, hWs]
  rw [hV] at q0 r0 HB0 h0
  have hLq := Later.some V
  have k1 : ∀ x : Later V, x.now.cell? ⟨k, 1, none⟩ = some (.int .u8 (q.b1.toNat : Int)) := fun x => (q0.below x.below).c1
  have k2 : ∀ x : Later V, x.now.cell? ⟨k, 2, none⟩ = some (.int .u8 (q.b2.toNat : Int)) := fun x => (q0.below x.below).c2
  have k3 : ∀ x : Later V, x.now.cell? ⟨k, 3, none⟩ = some (.int .u8 (psb q : Int)) := fun x => (q0.below x.below).c3
  have hpx : (q.b1.toNat : Int) + 256 * (q.b2.toNat : Int) = (pix q : Int) := by unfold pix; omega
  have HH0 := hidOf2 h0
  have HR0 := hidOf2 r0
  have HQ0 := hidOf2 q0
  have hix := pix_lt q
  have hsb := psb_lt q
  clear h0 q0 r0
  obtain ⟨ix, hixe⟩ : ∃ n, pix q = n := ⟨_, rfl⟩
  obtain ⟨sb, hsbe⟩ : ∃ n, psb q = n := ⟨_, rfl⟩
  rw [hixe] at hpx
  rw [hsbe] at k3
  generalize hv1 : q.b1.toNat = v1 at *
  generalize hv2 : q.b2.toNat = v2 at *
  obtain ⟨bv, hbv⟩ : ∃ n, q.b0.toNat = n := ⟨_, rfl⟩
  go_enter Tryz.func37, Tryz.ntmps37
  go_upto_region 1 with fail
  change Code.wp Tryz.prog _ _ _ (W.alloc (.cells zA8 32))
  rw [hV]
  refine wp_region_later (by kernel_rfl) (by kernel_rfl) ?_
  repeat (go_big_quiet_step (fail))
  refine wpQuiet_nil ?_
  rintro _ ⟨x1, rfl⟩
  obtain ⟨w1, hw1⟩ : ∃ z, x1.now = z := ⟨_, rfl⟩
  have D1 := hidOf2 (HH0.out.below x1.below)
  have R1 := hidOf2 (HR0.out.below x1.below)
  have Q1 := hidOf2 (HQ0.out.below x1.below)
  have HK1 := hidOf2 (Kp.of_below (bs := [T, E]) (HB0.out.trans (x1.below.mono HB0.out.size)))
  rw [hw1] at D1 R1 Q1 HK1 ⊢
  have c0 := Q1.out.c0
  rw [hbv] at c0 hb0
  clear k1 k2 k3 hLq HH0 HR0 HQ0 hpx
  rw [← hixe, ← hsbe]
  have HBV := hidOf2 hbv
  clear hixe hsbe hv1 hv2
  obtain hc | hc | hc | hc | hc | hc : q.b0.toNat / 32 = 0 ∨ q.b0.toNat / 32 = 1 ∨ q.b0.toNat / 32 = 2 ∨ q.b0.toNat / 32 = 3 ∨ q.b0.toNat / 32 = 4 ∨ 5 ≤ q.b0.toNat / 32 := by omega
  · have hO : hndO its s q = takO its s q := by unfold hndO; rw [if_pos hc]
    have HO := hidOf2 hO
    have hb9 : hndB q = true := by unfold hndB; simp; omega
    rw [hb9] at HRP
    have hci : (bv : Int) / 32 = 0 := by omega
    clear hO hbv hb9
    have l1 := Q1.out.load
    have hcall := takes_any D1.out q
    clear hc
    go_wp2_with (first | (refine ldG l1 rfl _ rfl rfl ?_))
    refine hcall.mono ?_
    rintro e w4 ⟨rfl, ap, cq, D4, K4, f4⟩
    have r4 : Qb (k + 1) F8.nul w4 := (K4.block _ R1.out.lt (by simp; omega)).trans R1.out
    have hs1 := R1.out.lt
    have hap : ∀ b ∈ blk ap, b < k ∨ k + 1 < b := fun b hb => by
      rcases f4 b hb with h1 | h1
      · exact .inl (HLW.out b h1)
      · omega
    have hfr : ∀ b ∈ blk ap, b ∈ blk ao ∨ w.heap.size ≤ b := fun b hb => (f4 b hb).imp id (fun h1 => by omega)
    have HK4 := hidOf2 (HK1.out.trans K4)
    obtain ⟨ff, hff⟩ : ∃ f, (takO its s q).1.f = f := ⟨_, rfl⟩
    have HFF := hidOf2 hff
    have r5 := r4.row ff
    have r4l := r4.lt
    have HZ := hidOf2 (D4.row r4 (fun b hb => by have := hap b hb; omega) ff.arr)
    have HK5 := hidOf2 (HK4.out.fresh (Kp.setRow1 w4 (k + 1) ff.arr) (fun b hb => .inr (by simp at hb; omega)))
    have HFR := hidOf2 hfr
    rw [hff]
    clear hcall D4 K4 f4 hap hfr HK4 hff
    go_wp2_with (first | (refine sdF (g := ff) r4 rfl _ _ rfl rfl rfl ?_))
    exact bodyPost_ret (rh_results r5 _ rfl rfl) rfl (HRP.out _ _ ⟨by rw [HO.out, HFF.out], ap, cq, by rw [HO.out]; exact HZ.out, HK5.out, HFR.out⟩)
  · have hO : hndO its s q = wrtO its q := by unfold hndO; rw [if_neg (by omega), if_pos hc]
    have HO := hidOf2 hO
    have hb9 : hndB q = true := by unfold hndB; simp; omega
    rw [hb9] at HRP
    have hci : (bv : Int) / 32 = 1 := by omega
    clear hO hbv hb9
    have hRs := Rests_any D1.out.head
    clear hc
    go_wp2_with fail
    refine hRs.mono ?_
    rintro e w2 ⟨rfl, d2, K2⟩
    have D3 : Dv T E its Ss.nul none 0 w2 := Dv.nul (by obtain ⟨vL, vV, hr⟩ := D1.out.rd; exact ⟨vL, vV, hr.kpT D1.out.head K2⟩) d2 D1.out.et D1.out.len D1.out.oks D1.out.nod
    have r2 : Qb (k + 1) F8.nul w2 := (K2.block _ R1.out.lt (by simp; omega)).trans R1.out
    have q2 : Qb k q w2 := (K2.block _ Q1.out.lt (by simp; omega)).trans Q1.out
    have l2 := q2.load
    have HK2 := hidOf2 (HK1.out.fresh K2 (fun b hb => .inl (by simp at hb; simp [hb])))
    have hs2 : k + 1 < w2.heap.size := r2.lt
    clear hRs d2 K2
    have hcall := writes_any D3 q
    go_wp2_with (first | (refine ldG l2 rfl _ rfl rfl ?_))
    refine hcall.mono ?_
    rintro e w4 ⟨rfl, ap, cq, D4, K4, f4⟩
    have r4 : Qb (k + 1) F8.nul w4 := (K4.block _ r2.lt (by simp; omega)).trans r2
    have hap : ∀ b ∈ blk ap, k + 1 < b := fun b hb => by
      rcases f4 b hb with h1 | h1
      · simp [blk] at h1
      · omega
    have hfr : ∀ b ∈ blk ap, b ∈ blk ao ∨ w.heap.size ≤ b := fun b hb => .inr (by have := hap b hb; omega)
    have HK4 := hidOf2 (HK2.out.trans K4)
    obtain ⟨ff, hff⟩ : ∃ f, (wrtO its q).1.f = f := ⟨_, rfl⟩
    have HFF := hidOf2 hff
    have r5 := r4.row ff
    have r4l := r4.lt
    have HZ := hidOf2 (D4.row r4 (fun b hb => by have := hap b hb; omega) ff.arr)
    have HK5 := hidOf2 (HK4.out.fresh (Kp.setRow1 w4 (k + 1) ff.arr) (fun b hb => .inr (by simp at hb; omega)))
    have HFR := hidOf2 hfr
    rw [hff]
    clear hcall D4 K4 f4 hap hfr HK4 hff
    go_wp2_with (first | (refine sdF (g := ff) r4 rfl _ _ rfl rfl rfl ?_))
    exact bodyPost_ret (rh_results r5 _ rfl rfl) rfl (HRP.out _ _ ⟨by rw [HO.out, HFF.out], ap, cq, by rw [HO.out]; exact HZ.out, HK5.out, HFR.out⟩)
  · have hO : hndO its s q = redO its q := by unfold hndO; rw [if_neg (by omega), if_neg (by omega), if_pos hc]
    have HO := hidOf2 hO
    have hb9 : hndB q = true := by unfold hndB; simp; omega
    rw [hb9] at HRP
    have hci : (bv : Int) / 32 = 2 := by omega
    clear hO hbv hb9
    have hRs := Rests_any D1.out.head
    clear hc
    go_wp2_with fail
    refine hRs.mono ?_
    rintro e w2 ⟨rfl, d2, K2⟩
    have D3 : Dv T E its Ss.nul none 0 w2 := Dv.nul (by obtain ⟨vL, vV, hr⟩ := D1.out.rd; exact ⟨vL, vV, hr.kpT D1.out.head K2⟩) d2 D1.out.et D1.out.len D1.out.oks D1.out.nod
    have r2 : Qb (k + 1) F8.nul w2 := (K2.block _ R1.out.lt (by simp; omega)).trans R1.out
    have q2 : Qb k q w2 := (K2.block _ Q1.out.lt (by simp; omega)).trans Q1.out
    have l2 := q2.load
    have HK2 := hidOf2 (HK1.out.fresh K2 (fun b hb => .inl (by simp at hb; simp [hb])))
    have hs2 : k + 1 < w2.heap.size := r2.lt
    clear hRs d2 K2
    have hcall := reads_any D3 q
    go_wp2_with (first | (refine ldG l2 rfl _ rfl rfl ?_))
    refine hcall.mono ?_
    rintro e w4 ⟨rfl, ap, cq, D4, K4, f4⟩
    have r4 : Qb (k + 1) F8.nul w4 := (K4.block _ r2.lt (by simp; omega)).trans r2
    have hap : ∀ b ∈ blk ap, k + 1 < b := fun b hb => by
      rcases f4 b hb with h1 | h1
      · simp [blk] at h1
      · omega
    have hfr : ∀ b ∈ blk ap, b ∈ blk ao ∨ w.heap.size ≤ b := fun b hb => .inr (by have := hap b hb; omega)
    have HK4 := hidOf2 (HK2.out.trans K4)
    obtain ⟨ff, hff⟩ : ∃ f, (redO its q).1.f = f := ⟨_, rfl⟩
    have HFF := hidOf2 hff
    have r5 := r4.row ff
    have r4l := r4.lt
    have HZ := hidOf2 (D4.row r4 (fun b hb => by have := hap b hb; omega) ff.arr)
    have HK5 := hidOf2 (HK4.out.fresh (Kp.setRow1 w4 (k + 1) ff.arr) (fun b hb => .inr (by simp at hb; omega)))
    have HFR := hidOf2 hfr
    rw [hff]
    clear hcall D4 K4 f4 hap hfr HK4 hff
    go_wp2_with (first | (refine sdF (g := ff) r4 rfl _ _ rfl rfl rfl ?_))
    exact bodyPost_ret (rh_results r5 _ rfl rfl) rfl (HRP.out _ _ ⟨by rw [HO.out, HFF.out], ap, cq, by rw [HO.out]; exact HZ.out, HK5.out, HFR.out⟩)
  · have hO : hndO its s q = telO its s q := by unfold hndO; rw [if_neg (by omega), if_neg (by omega), if_neg (by omega), if_pos hc]
    have HO := hidOf2 hO
    have hb9 : hndB q = true := by unfold hndB; simp; omega
    rw [hb9] at HRP
    have hci : (bv : Int) / 32 = 3 := by omega
    clear hO hbv hb9
    have l1 := Q1.out.load
    have hcall := gives_any D1.out q
    clear hc
    go_wp2_with (first | (refine ldG l1 rfl _ rfl rfl ?_))
    refine hcall.mono ?_
    rintro e w4 ⟨rfl, ap, cq, D4, K4, f4⟩
    have r4 : Qb (k + 1) F8.nul w4 := (K4.block _ R1.out.lt (by simp; omega)).trans R1.out
    have hs1 := R1.out.lt
    have hap : ∀ b ∈ blk ap, b < k ∨ k + 1 < b := fun b hb => by
      rcases f4 b hb with h1 | h1
      · exact .inl (HLW.out b h1)
      · omega
    have hfr : ∀ b ∈ blk ap, b ∈ blk ao ∨ w.heap.size ≤ b := fun b hb => (f4 b hb).imp id (fun h1 => by omega)
    have HK4 := hidOf2 (HK1.out.trans K4)
    obtain ⟨ff, hff⟩ : ∃ f, (telO its s q).1.f = f := ⟨_, rfl⟩
    have HFF := hidOf2 hff
    have r5 := r4.row ff
    have r4l := r4.lt
    have HZ := hidOf2 (D4.row r4 (fun b hb => by have := hap b hb; omega) ff.arr)
    have HK5 := hidOf2 (HK4.out.fresh (Kp.setRow1 w4 (k + 1) ff.arr) (fun b hb => .inr (by simp at hb; omega)))
    have HFR := hidOf2 hfr
    rw [hff]
    clear hcall D4 K4 f4 hap hfr HK4 hff
    go_wp2_with (first | (refine sdF (g := ff) r4 rfl _ _ rfl rfl rfl ?_))
    exact bodyPost_ret (rh_results r5 _ rfl rfl) rfl (HRP.out _ _ ⟨by rw [HO.out, HFF.out], ap, cq, by rw [HO.out]; exact HZ.out, HK5.out, HFR.out⟩)
  · have hO : hndO its s q = (.ok F8.nul, its, Ss.nul) := by unfold hndO; rw [if_neg (by omega), if_neg (by omega), if_neg (by omega), if_neg (by omega), if_pos hc]
    have HO := hidOf2 hO
    clear hO
    have hb9 : hndB q = false := by unfold hndB; simp; omega
    rw [hb9] at HRP
    have hci : (bv : Int) / 32 = 4 := by omega
    clear hbv hb9
    have hRs := Rests_any D1.out.head
    clear hc
    go_wp2_with fail
    refine hRs.mono ?_
    rintro e w2 ⟨rfl, d2, K2⟩
    have D3 : Dv T E its Ss.nul none 0 w2 := Dv.nul (by obtain ⟨vL, vV, hr⟩ := D1.out.rd; exact ⟨vL, vV, hr.kpT D1.out.head K2⟩) d2 D1.out.et D1.out.len D1.out.oks D1.out.nod
    have r2 : Qb (k + 1) F8.nul w2 := (K2.block _ R1.out.lt (by simp; omega)).trans R1.out
    have HK2 := hidOf2 (HK1.out.fresh K2 (fun b hb => .inl (by simp at hb; simp [hb])))
    have hs2 : k + 1 < w2.heap.size := r2.lt
    clear hRs d2 K2
    have r5 := r2.row F8.nul
    have HZ := hidOf2 (D3.row r2 (fun b hb => by simp [blk] at hb) F8.nul.arr)
    have HK5 := hidOf2 (HK2.out.fresh (Kp.setRow1 w2 (k + 1) F8.nul.arr) (fun b hb => .inr (by simp at hb; omega)))
    go_wp2_with (first | (refine sdF (g := F8.nul) r2 rfl _ _ rfl rfl rfl ?_))
    exact bodyPost_ret (rh_results r5 _ rfl rfl) rfl (HRP.out _ _ ⟨by rw [HO.out]; rfl, none, 0, by rw [HO.out]; exact HZ.out, HK5.out, fun b hb => by simp [blk] at hb⟩)
  · have hO : hndO its s q = (.bad (pix q) (psb q) 84148225, its, Ss.nul) := by unfold hndO; rw [if_neg (by omega), if_neg (by omega), if_neg (by omega), if_neg (by omega), if_neg (by omega)]
    have HO := hidOf2 hO
    clear hO
    have hb9 : hndB q = true := by unfold hndB; simp; omega
    rw [hb9] at HRP
    have x0 : ((bv : Int) / 32 == 0) = false := by simp; omega
    have x1 : ((bv : Int) / 32 == 1) = false := by simp; omega
    have x2 : ((bv : Int) / 32 == 2) = false := by simp; omega
    have x3 : ((bv : Int) / 32 == 3) = false := by simp; omega
    have x4 : ((bv : Int) / 32 == 4) = false := by simp; omega
    clear hbv hb9
    have hRs := Rests_any D1.out.head
    clear hc
    go_wp2_with fail
    refine hRs.mono ?_
    rintro e w2 ⟨rfl, d2, K2⟩
    have D3 : Dv T E its Ss.nul none 0 w2 := Dv.nul (by obtain ⟨vL, vV, hr⟩ := D1.out.rd; exact ⟨vL, vV, hr.kpT D1.out.head K2⟩) d2 D1.out.et D1.out.len D1.out.oks D1.out.nod
    have r2 : Qb (k + 1) F8.nul w2 := (K2.block _ R1.out.lt (by simp; omega)).trans R1.out
    have HK2 := hidOf2 (HK1.out.fresh K2 (fun b hb => .inl (by simp at hb; simp [hb])))
    have hs2 : k + 1 < w2.heap.size := r2.lt
    clear hRs d2 K2
    obtain ⟨ff, hff⟩ : ∃ f, frm 128 (pix q) (psb q) 84148225 = f := ⟨_, rfl⟩
    have hF : ∀ V, Calls Tryz.prog 19 #[.int .u8 128, .int .u16 (pix q : Int), .int .u8 (psb q : Int), .int .u32 84148225] V fun e w' => e = .returned (.agg ff.arr) ∧ Below V.heap.size V w' := fun V => hff ▸ r10Frame_any 128 _ _ 84148225 V (by decide) hix hsb (by decide)
    have HFF := hidOf2 hff
    clear hff
    go_wp2_with fail
    refine (hF _).mono ?_
    rintro e w4 ⟨rfl, b4⟩
    have r4 := r2.below b4
    have r5 := r4.row ff
    have HZ := hidOf2 ((D3.below b4).row r4 (fun b hb => by simp [blk] at hb) ff.arr)
    have HK5 := hidOf2 ((HK2.out.trans (Kp.of_below b4)).fresh (Kp.setRow1 w4 (k + 1) ff.arr) (fun b hb => .inr (by simp at hb; omega)))
    clear hF b4
    go_wp2_with (first | (refine sdF (g := ff) r4 rfl _ _ rfl rfl rfl ?_))
    exact bodyPost_ret (rh_results r5 _ rfl rfl) rfl (HRP.out _ _ ⟨by rw [HO.out, ← HFF.out]; rfl, none, 0, by rw [HO.out]; exact HZ.out, HK5.out, fun b hb => by simp [blk] at hb⟩)
end
end Go.Proofs.YtahfnknbmikmkaaGreat
namespace Go.Proofs.YtahfnknbmikmkaaGreat
open Go.RowKit Go.Proofs.Ty
set_option linter.unusedVariables false
set_option maxRecDepth 1000000
set_option linter.unusedSimpArgs false
theorem New10_any (D : Nat) (w : World) : Calls Tryz.prog 10 #[.pointer (some ⟨D, 0, none⟩)] w fun e w' => e = .returned (.tuple #[.pointer (some ⟨w.heap.size, 0, none⟩), .int .i64 0]) ∧ w' = w.alloc (.cells (psA D Ss.nul none 0) 91) := by
  go_enter Tryz.func10, Tryz.ntmps10
  go_wp2
  go_ret2
  exact ⟨rfl, rfl⟩
theorem Dv.kp {T E : Nat} {its : List Im} {s : Ss} {ao : Option Addr} {cp : Nat} {cs : List Nat} {x y : World} (h : Dv T E its s ao cp x) (hK : Kp cs x y) (hty : ∀ b ∈ cs, ∃ (A : Array Value) (U : TypeId) (fr : Nat × Nat), x.heap[b]? = some (Obj.cells A U fr) ∧ U ≠ 98 ∧ U ≠ 93 ∧ U ≠ 52 ∧ U ≠ 85) (hb : ∀ b ∈ blk ao, b ∉ cs) : Dv T E its s ao cp y := by
  have hne : ∀ (b : Nat) (A' : Array Value) (U : TypeId) (fr : Nat × Nat), x.heap[b]? = some (Obj.cells A' U fr) → (U = 98 ∨ U = 93 ∨ U = 52 ∨ U = 85) → y.heap[b]? = x.heap[b]? := fun b A' U fr hh hU => hK.block b (Array.getElem?_eq_some_iff.1 hh).1 (fun hm => by
    obtain ⟨A2, U2, fr2, h1, n1, n2, n3, n4⟩ := hty b hm
    rw [hh] at h1
    injection h1 with h1
    injection h1 with _ h2
    subst h2
    rcases hU with h | h | h | h
    · exact n1 h
    · exact n2 h
    · exact n3 h
    · exact n4 h)
  refine ⟨?_, (hne _ _ _ _ h.head (.inr (.inr (.inr rfl)))).trans h.head, bytes_same h.by_ hK.size (fun b hm hl => hK.block b hl (hb b ((own_blk _ _ _ _).1 hm))), h.cap, h.far, fun b hm => Nat.lt_of_lt_of_le (h.lt b hm) hK.size, h.et, h.len, h.oks, h.nod, h.ok⟩
  obtain ⟨vL, vV, hr⟩ := h.rd
  exact ⟨vL, vV, (hne _ _ _ _ hr.head (.inl rfl)).trans hr.head, hr.rowL.same hK.size (fun b A' fr _ h1 => hne _ _ _ _ h1 (.inr (.inl rfl))), hr.rowV.same hK.size (fun b A' fr _ h1 => hne _ _ _ _ h1 (.inr (.inr (.inl rfl))))⟩
/-- Where all of it lies. -/
structure Pl where
  Y : Nat
  X : Nat
  D : Nat
  R : Nat
  E : Nat
  S : Nat
  T : Nat
/-- Both servers, the program's dictionary with ia and its state s, the document's with ib and its state t. -/
structure Jt (w : World) (p : Pl) (ia ib : List Im) (s t : Ss) (ao : Option Addr) (cp : Nat) (ap : Option Addr) (cq : Nat) (x : World) : Prop where
  pv : Pv p.S p.D p.R ia s ao cp x
  dv : Dv p.T p.E ib t ap cq x
  prX : x.heap[p.X]? = some (.cells #[.pointer (some ⟨p.D, 0, none⟩), .pointer (some ⟨p.E, 0, none⟩)] 56 (0, 0))
  prY : x.heap[p.Y]? = some (.cells #[.pointer (some ⟨p.X, 0, none⟩), .pointer (some ⟨p.S, 0, none⟩), .pointer (some ⟨p.T, 0, none⟩)] 39 (0, 0))
  below : Below w.heap.size w x
  base : ∀ b ∈ ia.map Im.b, w.heap.size ≤ b
  bE : w.heap.size ≤ p.E
  bS : w.heap.size ≤ p.S
  bT : w.heap.size ≤ p.T
  ord : p.E < p.S ∧ p.S < p.T ∧ p.T < p.Y ∧ p.X < p.S
  farA : ∀ b ∈ blk ao, p.Y < b
  farB : ∀ b ∈ blk ap, p.Y < b
  sep : ∀ b ∈ blk ao, b ∉ blk ap
section
variable {w x y : World} {p : Pl} {ia ib its its' : List Im} {s s' t : Ss} {ao ao' ap ap' : Option Addr} {cp cp' cq cq' : Nat}
theorem Jt.next (h : Jt w p ia ib s t ao cp ap cq x) (hb : Below x.heap.size x y) : Jt w p ia ib s t ao cp ap cq y :=
  ⟨h.pv.below hb, h.dv.below hb, (hb.block _ (Array.getElem?_eq_some_iff.1 h.prX).1).trans h.prX, (hb.block _ (Array.getElem?_eq_some_iff.1 h.prY).1).trans h.prY, h.below.trans (hb.mono h.below.size), h.base, h.bE, h.bS, h.bT, h.ord, h.farA, h.farB, h.sep⟩
theorem Jt.cY (h : Jt w p ia ib s t ao cp ap cq x) : x.cell? ⟨p.Y, 0, none⟩ = some (.pointer (some ⟨p.X, 0, none⟩)) ∧ x.cell? ⟨p.Y, 1, none⟩ = some (.pointer (some ⟨p.S, 0, none⟩)) ∧ x.cell? ⟨p.Y, 2, none⟩ = some (.pointer (some ⟨p.T, 0, none⟩)) := ⟨Lib.cell_of_heap h.prY 0, Lib.cell_of_heap h.prY 1, Lib.cell_of_heap h.prY 2⟩
/-- The program's server has answered a frame. -/
theorem Jt.prog (h : Jt w p ia ib s t ao cp ap cq x) (hp : Pv p.S p.D p.R its' s' ao' cp' y) (hi : its'.map Im.b = ia.map Im.b) (hK : Kp (p.S :: (wl s ao ++ ia.map Im.b)) x y) (hf : ∀ b ∈ blk ao', b ∈ blk ao ∨ x.heap.size ≤ b) : Jt w p its' ib s' t ao' cp' ap cq y := by
  obtain ⟨o1, o2, o3, o4⟩ := h.ord
  have hwl : ∀ b ∈ wl s ao, b ∈ blk ao ∧ s.dn = 1 := fun b hb => by
    unfold wl at hb
    split at hb
    · rename_i h1; exact ⟨hb, h1⟩
    · cases hb
  have hno : ∀ b, b ≤ p.Y → b ≠ p.S → (∀ i ∈ ia, b ≠ i.b) → b ∉ p.S :: (wl s ao ++ ia.map Im.b) := fun b h1 h2 h3 hm => by
    simp at hm
    rcases hm with h4 | h4 | ⟨i, h4, h5⟩
    · exact h2 h4
    · have := h.farA b (hwl b h4).1; omega
    · exact h3 i h4 h5.symm
  have hit : ∀ i ∈ ia, i.b < p.S := fun i hi => h.pv.near i.b (List.mem_map.2 ⟨i, hi, rfl⟩)
  have hYlt := (Array.getElem?_eq_some_iff.1 h.prY).1
  have hXlt := (Array.getElem?_eq_some_iff.1 h.prX).1
  have hXi : ∀ i ∈ ia, p.X ≠ i.b := fun i hi e => by
    have h1 := h.pv.dct.b hi
    rw [← e, h.prX] at h1
    injection h1 with h1
    injection h1 with _ h2
    revert h2
    decide
  refine ⟨hp, h.dv.kp hK ?_ ?_, (hK.block _ hXlt (hno _ (by omega) (by omega) hXi)).trans h.prX, (hK.block _ hYlt (hno _ (Nat.le_refl _) (by omega) (fun i hi e => by have := hit i hi; omega))).trans h.prY, hK.below h.below h.below.size ?_, by rw [hi]; exact h.base, h.bE, h.bS, h.bT, h.ord, ?_, h.farB, ?_⟩
  · intro b hm
    simp at hm
    rcases hm with rfl | h4 | ⟨i, h4, rfl⟩
    · exact ⟨_, _, _, h.pv.head, by decide, by decide, by decide, by decide⟩
    · obtain ⟨h5, h6⟩ := hwl b h4
      obtain ⟨cur, h7⟩ := own_ty (h.pv.own h6) b ((own_blk _ _ _ _).2 h5)
      exact ⟨_, _, _, h7, by decide, by decide, by decide, by decide⟩
    · exact ⟨_, _, _, h.pv.dct.b h4, by decide, by decide, by decide, by decide⟩
  · intro b hb hm
    have h1 := h.farB b hb
    simp at hm
    rcases hm with h4 | h4 | ⟨i, h4, h5⟩
    · omega
    · exact h.sep b (hwl b h4).1 hb
    · have := hit i h4; omega
  · intro b hm
    simp at hm
    rcases hm with rfl | h4 | ⟨i, h4, rfl⟩
    · exact h.bS
    · have := h.farA b (hwl b h4).1; have := h.bS; omega
    · exact h.base _ (List.mem_map.2 ⟨i, h4, rfl⟩)
  · intro b hb
    rcases hf b hb with h1 | h1
    · exact h.farA b h1
    · omega
  · intro b hb hm
    rcases hf b hb with h1 | h1
    · exact h.sep b h1 hm
    · have := h.dv.lt b hm; omega
/-- The document's server has answered a frame. -/
theorem Jt.doc (h : Jt w p ia ib s t ao cp ap cq x) (hp : Dv p.T p.E its' s' ap' cq' y) (hK : Kp [p.T, p.E] x y) (hf : ∀ b ∈ blk ap', b ∈ blk ap ∨ x.heap.size ≤ b) : Jt w p ia its' s s' ao cp ap' cq' y := by
  obtain ⟨o1, o2, o3, o4⟩ := h.ord
  have hYlt := (Array.getElem?_eq_some_iff.1 h.prY).1
  have hXlt := (Array.getElem?_eq_some_iff.1 h.prX).1
  obtain ⟨vL, vV, hr⟩ := h.dv.rd
  have hXE : p.X ≠ p.E := fun e => by
    have h1 := hr.head
    rw [← e, h.prX] at h1
    injection h1 with h1
    injection h1 with _ h2
    revert h2
    decide
  refine ⟨h.pv.kp hK ?_ ?_, hp, (hK.block _ hXlt (by simp; omega)).trans h.prX, (hK.block _ hYlt (by simp; omega)).trans h.prY, hK.below h.below h.below.size ?_, h.base, h.bE, h.bS, h.bT, h.ord, h.farA, ?_, ?_⟩
  · intro b hm
    simp at hm
    rcases hm with rfl | rfl
    · exact ⟨_, _, _, h.dv.head, by decide, by decide, by decide, by decide⟩
    · exact ⟨_, _, _, hr.head, by decide, by decide, by decide, by decide⟩
  · intro b hb
    have := h.farA b hb
    simp
    omega
  · intro b hm
    simp at hm
    rcases hm with rfl | rfl
    · exact h.bT
    · exact h.bE
  · intro b hb
    rcases hf b hb with h1 | h1
    · exact h.farB b h1
    · omega
  · intro b hb hm
    rcases hf b hm with h1 | h1
    · exact h.sep b hb h1
    · have := h.pv.lt b hb; omega
end
end Go.Proofs.YtahfnknbmikmkaaGreat
namespace Go.Proofs.YtahfnknbmikmkaaGreat
open Go.RowKit Go.Proofs.Ty
set_option linter.unusedVariables false
set_option maxRecDepth 1000000
set_option linter.unusedSimpArgs false
theorem part8F (A : Array Value) (k : Nat) (v : Value) (h : A[k]? = some v) (w : World) : (part 5 A k).run Tryz.prog w = .ok v w := by
  obtain ⟨i0, hi0, hz0⟩ := u8size
  simp [part, isAgg, run_underlying Tryz.underlying5, sizeOf, typeInfo, hi0, hz0, h, go_sem]
theorem eq8F (f : F8) (d : Nat) (w : World) : (Op.equalIn (d + 2) 32 (.agg f.arr) (.agg f.arr)).run Tryz.prog w = .ok true w := by
  obtain ⟨i0, hi0, hz0⟩ := u8size
  have hg : ∀ k, k < 8 → ∃ z : Int, f.arr[k]? = some (.int .u8 z) := fun k hk => by
    obtain rfl | rfl | rfl | rfl | rfl | rfl | rfl | rfl : k = 0 ∨ k = 1 ∨ k = 2 ∨ k = 3 ∨ k = 4 ∨ k = 5 ∨ k = 6 ∨ k = 7 := by omega
    all_goals exact ⟨_, rfl⟩
  have he : ∀ k, k < 8 → ∃ v, (part 5 f.arr k).run Tryz.prog w = .ok v w ∧ (Op.equalIn (d + 1) 5 v v).run Tryz.prog w = .ok true w := fun k hk => by
    obtain ⟨z, hz⟩ := hg k hk
    refine ⟨_, part8F _ k _ hz w, ?_⟩
    rw [run_equalIn_int w d 5 .u8 .u8 z z Tryz.underlying5]
    simp
  obtain ⟨v0, p0, q0⟩ := he 0 (by omega)
  obtain ⟨v1, p1, q1⟩ := he 1 (by omega)
  obtain ⟨v2, p2, q2⟩ := he 2 (by omega)
  obtain ⟨v3, p3, q3⟩ := he 3 (by omega)
  obtain ⟨v4, p4, q4⟩ := he 4 (by omega)
  obtain ⟨v5, p5, q5⟩ := he 5 (by omega)
  obtain ⟨v6, p6, q6⟩ := he 6 (by omega)
  obtain ⟨v7, p7, q7⟩ := he 7 (by omega)
  generalize f.arr = A at *
  rw [Op.equalIn]
  have hr : List.range' 0 8 1 = [0, 1, 2, 3, 4, 5, 6, 7] := by decide
  simp [Sem.run_bind, run_underlying Tryz.underlying32, sizeOf, typeInfo, hi0, hz0, hr, p0, q0, p1, q1, p2, q2, p3, q3, p4, q4, p5, q5, p6, q6, p7, q7]
/-- A frame's block, beside both servers, is written. -/
theorem Jt.frame {w x y : World} {p : Pl} {ia ib : List Im} {s t : Ss} {ao ap : Option Addr} {cp cq j : Nat} {f : F8} (h : Jt w p ia ib s t ao cp ap cq x) (hq : Qb j f x) (hj : w.heap.size ≤ j ∧ p.Y < j) (hA : ∀ b ∈ blk ao, b ≠ j) (hB : ∀ b ∈ blk ap, b ≠ j) (hK : Kp [j] x y) : Jt w p ia ib s t ao cp ap cq y := by
  obtain ⟨o1, o2, o3, o4⟩ := h.ord
  refine ⟨h.pv.kp hK ?_ (fun b hb => by simp; exact hA b hb), h.dv.kp hK ?_ (fun b hb => by simp; exact hB b hb), (hK.block _ (Array.getElem?_eq_some_iff.1 h.prX).1 (by simp; omega)).trans h.prX, (hK.block _ (Array.getElem?_eq_some_iff.1 h.prY).1 (by simp; omega)).trans h.prY, hK.below h.below h.below.size (fun b hb => by simp at hb; omega), h.base, h.bE, h.bS, h.bT, h.ord, h.farA, h.farB, h.sep⟩
  · intro b hb
    simp at hb
    subst hb
    exact ⟨_, _, _, hq, by decide, by decide, by decide, by decide⟩
  · intro b hb
    simp at hb
    subst hb
    exact ⟨_, _, _, hq, by decide, by decide, by decide, by decide⟩
/-- Frames that lie beside stay. -/
theorem Jt.keepP {w x y : World} {p : Pl} {ia ib : List Im} {s t : Ss} {ao ap : Option Addr} {cp cq j : Nat} {f : F8} (h : Jt w p ia ib s t ao cp ap cq x) (hK : Kp (p.S :: (wl s ao ++ ia.map Im.b)) x y) (hj : p.Y < j) (hq : Qb j f x) (hA : ∀ b ∈ blk ao, b ≠ j) : Qb j f y := by
  obtain ⟨o1, o2, o3, o4⟩ := h.ord
  refine (hK.block j hq.lt (fun hm => ?_)).trans hq
  simp at hm
  rcases hm with h4 | h4 | ⟨i, h4, h5⟩
  · omega
  · unfold wl at h4
    split at h4
    · exact hA j h4 rfl
    · cases h4
  · have := h.pv.near i.b (List.mem_map.2 ⟨i, h4, rfl⟩); omega
theorem Jt.keepD {w x y : World} {p : Pl} {ia ib : List Im} {s t : Ss} {ao ap : Option Addr} {cp cq j : Nat} {f : F8} (h : Jt w p ia ib s t ao cp ap cq x) (hK : Kp [p.T, p.E] x y) (hj : p.Y < j) (hq : Qb j f x) : Qb j f y := by
  obtain ⟨o1, o2, o3, o4⟩ := h.ord
  exact (hK.block j hq.lt (by simp; omega)).trans hq
theorem hnd_b (its : List Im) (s : Ss) (q : F8) : (hndO its s q).2.1.map Im.b = its.map Im.b := by
  unfold hndO
  split
  · unfold takO
    split
    · rfl
    · split
      · rfl
      · split
        · rfl
        · split
          · exact finO_b _ _
          · rfl
  · split
    · exact wrtO_b _ _
    · split
      · rw [(redO_s its q).2.1]
      · split
        · unfold telO
          split
          · rfl
          · split
            · rfl
            · rfl
        · split <;> rfl
end Go.Proofs.YtahfnknbmikmkaaGreat
