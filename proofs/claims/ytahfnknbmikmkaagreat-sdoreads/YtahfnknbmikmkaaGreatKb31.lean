/- The document's writes: in segments. The document's reads. -/
import Derived.Test.YtahfnknbmikmkaaGreatKb30
namespace Go.Proofs.YtahfnknbmikmkaaGreat
open Go.RowKit Go.Proofs.Ty
set_option linter.unusedVariables false
set_option maxRecDepth 1000000
set_option linter.unusedSimpArgs false
theorem Db.w3 {T E : Nat} {w : World} (h : Db T E Ss.nul none 0 w) (ix sb : Nat) : Db T E (s1 ix sb) none 0 (((w.setCell ⟨T, 1, none⟩ (.int .i64 1)).setCell ⟨T, 2, none⟩ (.int .u16 (ix : Int))).setCell ⟨T, 3, none⟩ (.int .u8 (sb : Int))) := by
  have h : w.heap[T]? = some (.cells (dsC E Ss.nul none 0).toArray 85 (0, 0)) := h
  unfold Db
  simp [World.setCell, Array.getElem?_modify, h, dsC, s1, Ss.nul, szI]
theorem Db.w6 {T E ix sb : Nat} {w : World} (h : Db T E (s1 ix sb) none 0 w) (n : Nat) : Db T E { s1 ix sb with sz := some n } none 0 (w.setCell ⟨T, 6, none⟩ (.int .i64 (n : Int))) := by
  have h : w.heap[T]? = some (.cells (dsC E (s1 ix sb) none 0).toArray 85 (0, 0)) := h
  unfold Db
  simp [World.setCell, Array.getElem?_modify, h, dsC, s1, szI]
section
variable {T E : Nat} {its : List Im} {w : World}
set_option maxHeartbeats 16000000 in
theorem writes_seg (h : Dv T E its Ss.nul none 0 w) (q : F8) (hat : ¬ q.b0.toNat / 2 % 2 = 1) : Calls Tryz.prog 69 #[.pointer (some ⟨T, 0, none⟩), .agg q.arr, .int .u16 (pix q : Int), .int .u8 (psb q : Int)] w (DPost T E none (wrtO its q) w) := by
  obtain ⟨W, hW⟩ : ∃ W, w.alloc (.cells q.arr 32) = W := ⟨_, rfl⟩
  obtain ⟨k, hk⟩ : ∃ k, w.heap.size = k := ⟨_, rfl⟩
  have hWs : W.heap.size = k + 1 := by rw [← hW, size_alloc, hk]
  have b0 : Below w.heap.size w (W.alloc (.cells zA8 32)) := (hW ▸ (Below.refl _ _).alloc (Nat.le_refl _) _).alloc (by rw [hWs, hk]; omega) _
  have q0 : Qb k q (W.alloc (.cells zA8 32)) := (Lib.alloc_old W _ k (by omega)).trans (by rw [← hk, ← hW]; exact Qb.new w q)
  have r0 : Qb (k + 1) F8.nul (W.alloc (.cells zA8 32)) := by rw [← hWs]; exact heap_alloc_new W _
  have h0 := h.below b0
  have hTk : T < k := by rw [← hk]; exact h.head.lt
  have hET := h.et
  have hix := pix_lt q
  have hsb := psb_lt q
  have hn4 := num4_lt q
  have HB0 := hidOf2 b0
  have hwo : wrtO its q = if leaC its (pix q) (psb q) ≠ 0 then (.bad (pix q) (psb q) (leaC its (pix q) (psb q)), its, Ss.nul)
      else if q.b0.toNat % 2 = 1 ∧ 65536 < num4 q then (.bad (pix q) (psb q) 84148229, its, Ss.nul)
      else (.ok (frm 96 (pix q) (psb q) 0), its, ⟨1, pix q, psb q, 0, [], if q.b0.toNat % 2 = 1 then some (num4 q) else none⟩) := by unfold wrtO; rw [if_neg hat]
  obtain ⟨EE, hEE⟩ : ∃ e, DPost T E none (wrtO its q) w = e := ⟨_, rfl⟩
  have HRP : Hid (∀ O, wrtO its q = O → ∀ e w', DPost T E none O w e w' → EE e w') := fun O hO e w' hh => by rw [← hEE, hO]; exact hh
  rw [hEE]
  have hb0 := q.b0.toNat_lt
  have hb4 := q.b4.toNat_lt
  have hb5 := q.b5.toNat_lt
  have hb6 := q.b6.toNat_lt
  have hb7 := q.b7.toNat_lt
  clear h hEE b0
  obtain ⟨V, hV⟩ : ∃ V, W.alloc (.cells zA8 32) = V := ⟨_, rfl⟩
  rw [hV] at q0 r0 HB0 h0
  have HH0 := hidOf2 h0
  have hMy : Calls Tryz.prog 28 #[.pointer (some ⟨E, 0, none⟩), .int .u16 (pix q : Int), .int .u8 (psb q : Int), .slice none 0 0] V fun e w' => e = .returned (.int .u32 (wc its (pix q) (psb q) [] : Nat)) ∧ Below V.heap.size V w' := by
    obtain ⟨vL, vV, hr⟩ := h0.rd
    exact QMay_any hr h0.len h0.oks (pix q) (psb q) _ [] (bytes_nil _)
  have HLC : Hid (leaC its (pix q) (psb q) = if wc its (pix q) (psb q) [] = 100794368 ∨ wc its (pix q) (psb q) [] = 101253137 ∨ wc its (pix q) (psb q) [] = 100728834 then wc its (pix q) (psb q) [] else 0) := rfl
  have hwl := wc_lt its (pix q) (psb q) []
  obtain ⟨C, hC⟩ : ∃ c, wc its (pix q) (psb q) [] = c := ⟨_, rfl⟩
  obtain ⟨LC, hLC⟩ : ∃ c, leaC its (pix q) (psb q) = c := ⟨_, rfl⟩
  rw [hC] at hMy HLC hwl
  rw [hLC] at HLC hwo
  have HFR : Hid (∀ (a c : Nat) (V : World), a < 256 → c < 4294967296 → Calls Tryz.prog 19 #[.int .u8 (a : Int), .int .u16 (pix q : Int), .int .u8 (psb q : Int), .int .u32 (c : Int)] V fun e w' => e = .returned (.agg (frm a (pix q) (psb q) c).arr) ∧ Below V.heap.size V w') := fun a c V ha hc => r10Frame_any a _ _ c V ha hix hsb hc
  have HBAD : Hid (∀ (w6 w7 : World) (f : F8), Below V.heap.size V w6 → Below w6.heap.size w6 w7 → Qb (k + 1) F8.nul w7 → Dv T E its Ss.nul none 0 (w7.setRow (k + 1) f.arr) ∧ Kp [T, E] w (w7.setRow (k + 1) f.arr)) := fun w6 w7 f b6 b7 hq => by
    have d7 := (HH0.out.below b6).below b7
    have hl7 := hq.lt
    obtain ⟨vL, vV, hr⟩ := d7.rd
    exact ⟨Dv.nul ⟨vL, vV, hr.row hq _⟩ ((setRow_other _ _ _ _ (by omega)).trans d7.head) hET HH0.out.len HH0.out.oks HH0.out.nod, (Kp.of_below ((HB0.out.trans (b6.mono HB0.out.size)).trans (b7.mono (Nat.le_trans HB0.out.size b6.size)))).fresh (Kp.setRow1 _ _ _) (fun b hb => .inr (by simp at hb; omega))⟩
  have hnm : num4 q = q.b4.toNat + 256 * q.b5.toNat + 65536 * q.b6.toNat + 16777216 * q.b7.toNat := rfl
  obtain ⟨N, hN⟩ : ∃ n, num4 q = n := ⟨_, rfl⟩
  rw [hN] at hnm hwo hn4
  have c00 := q0.c0
  have c04 := q0.c4
  have c05 := q0.c5
  have c06 := q0.c6
  have c07 := q0.c7
  have cT := HH0.out.head.c.1
  have HR0 := hidOf2 r0
  have HWO := hidOf2 hwo
  clear h0 q0 r0 hwo hN hC hLC
  generalize q.b0.toNat = bv at *
  generalize q.b4.toNat = v4 at *
  generalize q.b5.toNat = v5 at *
  generalize q.b6.toNat = v6 at *
  generalize q.b7.toNat = v7 at *
  generalize pix q = ix at *
  generalize psb q = sb at *
  have d2 : (((bv : Int) / 2) % 2 == 1) = false := by simp; omega
  have hnmi : (v4 : Int) + 256 * (v5 : Int) + 65536 * (v6 : Int) + 16777216 * (v7 : Int) = (N : Int) := by omega
  clear hnm
  go_enter Tryz.func69, Tryz.ntmps69
  go_upto_region 1 with fail
  change Code.wp Tryz.prog _ _ _ (W.alloc (.cells zA8 32))
  rw [hV]
  obtain ⟨sd, hsd⟩ : ∃ b : Bool, ((bv : Int) % 2 == 1) = b := ⟨_, rfl⟩
  have HSD := hidOf2 (show sd = true ↔ bv % 2 = 1 from by rw [← hsd]; simp; omega)
  go_wp2_with fail
  refine hMy.mono ?_
  rintro e w1 ⟨rfl, b1⟩
  have r1 := HR0.out.below b1
  have HB1 := hidOf2 b1
  have HD1 := hidOf2 (HH0.out.below b1)
  clear hMy b1 HR0 HH0 cT c00 c04 c05 c06 c07
  by_cases hl : LC ≠ 0
  · have hCL : (C = 100794368 ∨ C = 101253137 ∨ C = 100728834) ∧ LC = C := by
      have h9 := HLC.out
      by_cases hh : C = 100794368 ∨ C = 101253137 ∨ C = 100728834
      · rw [if_pos hh] at h9; exact ⟨hh, h9⟩
      · rw [if_neg hh] at h9; exact absurd h9 hl
    obtain ⟨hC3, rfl⟩ := hCL
    have HO := hidOf2 (HWO.out.trans (if_pos hl))
    obtain ⟨ff, hff⟩ : ∃ f, frm 128 ix sb LC = f := ⟨_, rfl⟩
    have HF : Hid (∀ V, Calls Tryz.prog 19 #[.int .u8 128, .int .u16 (ix : Int), .int .u8 (sb : Int), .int .u32 (LC : Int)] V fun e w' => e = .returned (.agg ff.arr) ∧ Below V.heap.size V w') := fun V => hff ▸ HFR.out 128 LC V (by decide) hwl
    have HE : Hid ((Ro.bad ix sb LC).f = ff) := hff
    clear HWO HLC hl hff
    rcases hC3 with rfl | rfl | rfl
    all_goals
      go_wp2_with fail
      refine (HF.out _).mono ?_
      rintro e w7 ⟨rfl, b7⟩
      have r7 := r1.below b7
      have r8 := r7.row ff
      have HZ := hidOf2 (HBAD.out _ _ ff HB1.out b7 r7)
      clear HBAD HB1 HD1 r1 b7 HFR HF
      go_wp2_with (first | (refine sdF (g := ff) r7 rfl _ _ rfl rfl rfl ?_))
      exact bodyPost_ret (ws_results r8 _ rfl) rfl (HRP.out _ HO.out _ _ ⟨by rw [← HE.out], none, 0, HZ.out.1, HZ.out.2, fun b hb => by simp [blk] at hb⟩)
  · have hCn : ¬ (C = 100794368 ∨ C = 101253137 ∨ C = 100728834) := fun hh => hl (by rw [HLC.out, if_pos hh]; rcases hh with h | h | h <;> omega)
    have x1 : ((C : Int) == 100794368) = false := by simp; omega
    have x2 : ((C : Int) == 101253137) = false := by simp; omega
    have x3 : ((C : Int) == 100728834) = false := by simp; omega
    have HO1 := hidOf2 (HWO.out.trans (if_neg hl))
    clear HWO HLC hl hCn
    by_cases hs : sd = true
    · obtain rfl : sd = true := hs
      have hodd : bv % 2 = 1 := HSD.out.1 rfl
      by_cases hbig : 65536 < N
      · have x4 : decide ((65536 : Int) < (N : Int)) = true := by simp; omega
        have HO := hidOf2 (HO1.out.trans (if_pos ⟨hodd, hbig⟩))
        clear HO1
        go_wp2_with fail
        refine (HFR.out 128 84148229 _ (by decide) (by decide)).mono ?_
        rintro e w7 ⟨rfl, b7⟩
        have r7 := r1.below b7
        have r8 := r7.row (frm 128 ix sb 84148229)
        have HZ := hidOf2 (HBAD.out _ _ (frm 128 ix sb 84148229) HB1.out b7 r7)
        clear HBAD HB1 HD1 r1 b7 HFR
        go_wp2_with (first | (refine sdF (g := frm 128 ix sb 84148229) r7 rfl _ _ rfl rfl rfl ?_))
        exact bodyPost_ret (ws_results r8 _ rfl) rfl (HRP.out _ HO.out _ _ ⟨rfl, none, 0, HZ.out.1, HZ.out.2, fun b hb => by simp [blk] at hb⟩)
      · have x4 : decide ((65536 : Int) < (N : Int)) = false := by simp; omega
        have HO := hidOf2 (HO1.out.trans ((if_neg (fun h => hbig h.2)).trans (by rw [if_pos hodd])))
        obtain ⟨cT0, cT1, cT2, cT3, cT4, cT5, cT6⟩ := HD1.out.head.c
        have zT := fun j => HD1.out.head.zz j
        have z1 := zT 1
        have z2 := zT 2
        have z3 := zT 3
        have z6 := zT 6
        have hdb := (HD1.out.head.w3 ix sb).w6 N
        have hKT := ((((Kp.refl [T] w1).cells (T := T) (by simp) 1 (.int .i64 1)).cells (T := T) (by simp) 2 (.int .u16 (ix : Int))).cells (T := T) (by simp) 3 (.int .u8 (sb : Int))).cells (T := T) (by simp) 6 (.int .i64 (N : Int))
        have HX : Hid (∀ X, X = (((w1.setCell ⟨T, 1, none⟩ (.int .i64 1)).setCell ⟨T, 2, none⟩ (.int .u16 (ix : Int))).setCell ⟨T, 3, none⟩ (.int .u8 (sb : Int))).setCell ⟨T, 6, none⟩ (.int .i64 (N : Int)) → Db T E { s1 ix sb with sz := some N } none 0 X ∧ Kp [T] w1 X) := fun X hX => by subst hX; exact ⟨hdb, hKT⟩
        clear HO1 zT hdb hKT
        go_upto_region 24 with fail
        generalize hX : (((w1.setCell ⟨T, 1, none⟩ (.int .i64 1)).setCell ⟨T, 2, none⟩ (.int .u16 (ix : Int))).setCell ⟨T, 3, none⟩ (.int .u8 (sb : Int))).setCell ⟨T, 6, none⟩ (.int .i64 (N : Int)) = X
        obtain ⟨d5, K5⟩ := HX.out X hX.symm
        have r5 : Qb (k + 1) F8.nul X := (K5.block _ r1.lt (by simp; omega)).trans r1
        have hr5 : ∃ vL vV, Rd E (its.map Im.e) vL (its.map Im.v) vV X := by obtain ⟨vL, vV, hr⟩ := HD1.out.rd; exact ⟨vL, vV, hr.kpT HD1.out.head K5⟩
        have HK5 := hidOf2 ((Kp.of_below (bs := [T, E]) (HB0.out.trans (HB1.out.mono HB0.out.size))).fresh K5 (fun b hb => .inl (by simp at hb; simp [hb])))
        have HR5 := hidOf2 hr5
        have HD5 := hidOf2 d5
        clear HX hX cT0 cT1 cT2 cT3 cT4 cT5 cT6 z1 z2 z3 z6 K5 d5 hr5
        go_wp2_with fail
        refine (HFR.out 96 0 _ (by decide) (by decide)).mono ?_
        rintro e w7 ⟨rfl, b7⟩
        have r7 := r5.below b7
        have r7l := r7.lt
        have r8 := r7.row (frm 96 ix sb 0)
        have HZ : Hid (Dv T E its { s1 ix sb with sz := some N } none 0 (w7.setRow (k + 1) (frm 96 ix sb 0).arr) ∧ Kp [T, E] w (w7.setRow (k + 1) (frm 96 ix sb 0).arr)) := by
          obtain ⟨vL, vV, hr⟩ := HR5.out
          exact ⟨⟨⟨vL, vV, (hr.below b7).row r7 _⟩, (setRow_other _ _ _ _ (by omega)).trans (HD5.out.below b7), bytes_nil _, cp_nil, (fun b hb => by simp [blk] at hb), (fun b hb => by simp [blk] at hb), hET, HD1.out.len, HD1.out.oks, HD1.out.nod, ⟨(show (1 : Nat) ≤ 2 by decide), hix, hsb, (show (0 : Nat) ≤ 1 by decide), (show (0 : Nat) ≤ 65536 by decide), fun n hn => by injection hn with hn; omega⟩⟩, (HK5.out.trans (Kp.of_below b7)).fresh (Kp.setRow1 _ _ _) (fun b hb => .inr (by simp at hb; omega))⟩
        clear HBAD HB1 HD1 r1 r5 b7 HFR HR5 HD5 HK5
        go_wp2_with (first | (refine sdF (g := frm 96 ix sb 0) r7 rfl _ _ rfl rfl rfl ?_))
        exact bodyPost_ret (ws_results r8 _ rfl) rfl (HRP.out _ HO.out _ _ ⟨rfl, none, 0, HZ.out.1, HZ.out.2, fun b hb => by simp [blk] at hb⟩)
    · obtain rfl : sd = false := by simpa using hs
      have hodd : ¬ bv % 2 = 1 := fun h => by have := HSD.out.2 h; cases this
      have HO := hidOf2 (HO1.out.trans ((if_neg (fun h => hodd h.1)).trans (by rw [if_neg hodd])))
      obtain ⟨cT0, cT1, cT2, cT3, cT4, cT5, cT6⟩ := HD1.out.head.c
      have zT := fun j => HD1.out.head.zz j
      have z1 := zT 1
      have z2 := zT 2
      have z3 := zT 3
      have hdb := HD1.out.head.w3 ix sb
      have hKT := (((Kp.refl [T] w1).cells (T := T) (by simp) 1 (.int .i64 1)).cells (T := T) (by simp) 2 (.int .u16 (ix : Int))).cells (T := T) (by simp) 3 (.int .u8 (sb : Int))
      have HX : Hid (∀ X, X = ((w1.setCell ⟨T, 1, none⟩ (.int .i64 1)).setCell ⟨T, 2, none⟩ (.int .u16 (ix : Int))).setCell ⟨T, 3, none⟩ (.int .u8 (sb : Int)) → Db T E (s1 ix sb) none 0 X ∧ Kp [T] w1 X) := fun X hX => by subst hX; exact ⟨hdb, hKT⟩
      clear HO1 zT hdb hKT
      go_upto_region 24 with fail
      generalize hX : ((w1.setCell ⟨T, 1, none⟩ (.int .i64 1)).setCell ⟨T, 2, none⟩ (.int .u16 (ix : Int))).setCell ⟨T, 3, none⟩ (.int .u8 (sb : Int)) = X
      obtain ⟨d5, K5⟩ := HX.out X hX.symm
      have r5 : Qb (k + 1) F8.nul X := (K5.block _ r1.lt (by simp; omega)).trans r1
      have hr5 : ∃ vL vV, Rd E (its.map Im.e) vL (its.map Im.v) vV X := by obtain ⟨vL, vV, hr⟩ := HD1.out.rd; exact ⟨vL, vV, hr.kpT HD1.out.head K5⟩
      have HK5 := hidOf2 ((Kp.of_below (bs := [T, E]) (HB0.out.trans (HB1.out.mono HB0.out.size))).fresh K5 (fun b hb => .inl (by simp at hb; simp [hb])))
      have HR5 := hidOf2 hr5
      have HD5 := hidOf2 d5
      clear HX hX cT0 cT1 cT2 cT3 cT4 cT5 cT6 z1 z2 z3 K5 d5 hr5
      go_wp2_with fail
      refine (HFR.out 96 0 _ (by decide) (by decide)).mono ?_
      rintro e w7 ⟨rfl, b7⟩
      have r7 := r5.below b7
      have r7l := r7.lt
      have r8 := r7.row (frm 96 ix sb 0)
      have HZ : Hid (Dv T E its (s1 ix sb) none 0 (w7.setRow (k + 1) (frm 96 ix sb 0).arr) ∧ Kp [T, E] w (w7.setRow (k + 1) (frm 96 ix sb 0).arr)) := by
        obtain ⟨vL, vV, hr⟩ := HR5.out
        exact ⟨⟨⟨vL, vV, (hr.below b7).row r7 _⟩, (setRow_other _ _ _ _ (by omega)).trans (HD5.out.below b7), bytes_nil _, cp_nil, (fun b hb => by simp [blk] at hb), (fun b hb => by simp [blk] at hb), hET, HD1.out.len, HD1.out.oks, HD1.out.nod, ⟨(show (1 : Nat) ≤ 2 by decide), hix, hsb, (show (0 : Nat) ≤ 1 by decide), (show (0 : Nat) ≤ 65536 by decide), fun n hn => by cases hn⟩⟩, (HK5.out.trans (Kp.of_below b7)).fresh (Kp.setRow1 _ _ _) (fun b hb => .inr (by simp at hb; omega))⟩
      clear HBAD HB1 HD1 r1 r5 b7 HFR HR5 HD5 HK5
      go_wp2_with (first | (refine sdF (g := frm 96 ix sb 0) r7 rfl _ _ rfl rfl rfl ?_))
      exact bodyPost_ret (ws_results r8 _ rfl) rfl (HRP.out _ HO.out _ _ ⟨rfl, none, 0, HZ.out.1, HZ.out.2, fun b hb => by simp [blk] at hb⟩)
theorem writes_any (h : Dv T E its Ss.nul none 0 w) (q : F8) : Calls Tryz.prog 69 #[.pointer (some ⟨T, 0, none⟩), .agg q.arr, .int .u16 (pix q : Int), .int .u8 (psb q : Int)] w (DPost T E none (wrtO its q) w) := by
  by_cases hat : q.b0.toNat / 2 % 2 = 1
  · exact writes_now h q hat
  · exact writes_seg h q hat
end
end Go.Proofs.YtahfnknbmikmkaaGreat
namespace Go.Proofs.YtahfnknbmikmkaaGreat
open Go.RowKit Go.Proofs.Ty
set_option linter.unusedVariables false
set_option maxRecDepth 1000000
set_option linter.unusedSimpArgs false
theorem rs_results {Q : Nat} {f : F8} {w : World} (h : Qb Q f w) (tmps : Array Value) (h2 : tmps[6]?.getD undef = .pointer (some ⟨Q, 0, none⟩)) :
    (results Tryz.f70 tmps).run Tryz.prog w = .ok (.agg f.arr) w := by
  have l0 := h.load
  simp [Go.results, Tryz.results70, h2, asAddr, l0]
/-- The frame with the first j bytes laid. -/
def hk (ix sb : Nat) (b : List UInt8) (j : Nat) : F8 := ⟨.ofNat (67 + 4 * (4 - b.length)), .ofNat (ix % 256), .ofNat (ix / 256), .ofNat sb, if 0 < j then b.getD 0 0 else 0, if 1 < j then b.getD 1 0 else 0, if 2 < j then b.getD 2 0 else 0, if 3 < j then b.getD 3 0 else 0⟩
theorem hk_0 (ix sb : Nat) (b : List UInt8) : hk ix sb b 0 = frm (67 + 4 * (4 - b.length)) ix sb 0 := rfl
theorem hk_n (ix sb : Nat) (b : List UInt8) (h1 : 1 ≤ b.length) (h2 : b.length ≤ 4) : hk ix sb b b.length = here ix sb b := by
  match b, h1, h2 with
  | [x], _, _ => rfl
  | [x, y], _, _ => rfl
  | [x, y, z], _, _ => rfl
  | [x, y, z, u], _, _ => rfl
theorem hk_step (ix sb : Nat) (b : List UInt8) (j : Nat) (hj : j < b.length) (h4 : j < 4) : (hk ix sb b j).arr.setIfInBounds (4 + j) (.int .u8 (b[j].toNat : Int)) = (hk ix sb b (j + 1)).arr := by
  have hg : b.getD j 0 = b[j] := by simp [hj]
  obtain rfl | rfl | rfl | rfl : j = 0 ∨ j = 1 ∨ j = 2 ∨ j = 3 := by omega
  all_goals rw [← hg]
  all_goals simp [hk, F8.arr, F8.c]
theorem Db.w4 {T E : Nat} {w : World} (h : Db T E Ss.nul none 0 w) (ix sb : Nat) (l : List UInt8) (ao : Option Addr) (cp : Nat) : Db T E ⟨2, ix, sb, 0, l, none⟩ ao cp ((((w.setCell ⟨T, 1, none⟩ (.int .i64 2)).setCell ⟨T, 2, none⟩ (.int .u16 (ix : Int))).setCell ⟨T, 3, none⟩ (.int .u8 (sb : Int))).setCell ⟨T, 5, none⟩ (.slice ao l.length cp)) := by
  have h : w.heap[T]? = some (.cells (dsC E Ss.nul none 0).toArray 85 (0, 0)) := h
  unfold Db
  simp [World.setCell, Array.getElem?_modify, h, dsC, Ss.nul, szI]
section
variable {T E : Nat} {its : List Im} {w : World}
set_option maxHeartbeats 16000000 in
theorem reads_any (h : Dv T E its Ss.nul none 0 w) (q : F8) : Calls Tryz.prog 70 #[.pointer (some ⟨T, 0, none⟩), .int .u16 (pix q : Int), .int .u8 (psb q : Int)] w (DPost T E none (redO its q) w) := by
  obtain ⟨V, hV⟩ : ∃ W, w.alloc (.cells zA8 32) = W := ⟨_, rfl⟩
  obtain ⟨k, hk0⟩ : ∃ k, w.heap.size = k := ⟨_, rfl⟩
  have hVs : V.heap.size = k + 1 := by rw [← hV, size_alloc, hk0]
  have b0 : Below w.heap.size w V := hV ▸ (Below.refl _ _).alloc (Nat.le_refl _) _
  have r0 : Qb k F8.nul V := by rw [← hk0, ← hV]; exact heap_alloc_new w _
  have h0 := h.below b0
  have hTk : T < k := by rw [← hk0]; exact h.head.lt
  have hET := h.et
  have hix := pix_lt q
  have hsb := psb_lt q
  have HB0 := hidOf2 b0
  obtain ⟨EE, hEE⟩ : ∃ e, DPost T E none (redO its q) w = e := ⟨_, rfl⟩
  have HRP : Hid (∀ O, redO its q = O → ∀ e w', DPost T E none O w e w' → EE e w') := fun O hO e w' hh => by rw [← hEE, hO]; exact hh
  rw [hEE]
  have HRO : Hid (redO its q = if rdC its (pix q) (psb q) ≠ 0 then (.bad (pix q) (psb q) (rdC its (pix q) (psb q)), its, Ss.nul)
      else if 1 ≤ (rdL its (pix q) (psb q)).length ∧ (rdL its (pix q) (psb q)).length ≤ 4 then (.ok (here (pix q) (psb q) (rdL its (pix q) (psb q))), its, Ss.nul)
      else (.ok (frm 65 (pix q) (psb q) (rdL its (pix q) (psb q)).length), its, ⟨2, pix q, psb q, 0, rdL its (pix q) (psb q), none⟩)) := rfl
  have hLl := rdL_len its (pix q) (psb q)
  have hCl := rdC_lt its (pix q) (psb q)
  have hRd : Calls Tryz.prog 30 #[.pointer (some ⟨E, 0, none⟩), .int .u16 (pix q : Int), .int .u8 (psb q : Int)] V fun e w' => ∃ x, e = .returned (.tuple #[x, .int .u32 (rdC its (pix q) (psb q) : Nat)]) ∧ Bytes w' x (rdL its (pix q) (psb q)) ∧ Below V.heap.size V w' ∧ (∀ b, x.ownBlock = some b → V.heap.size ≤ b) ∧ Cp x ∧ (∀ b, x.ownBlock = some b → b < w'.heap.size) := by
    obtain ⟨vL, vV, hr⟩ := h0.rd
    exact QRead_g hr h0.len _ _
  have HFR : Hid (∀ (a c : Nat) (V : World), a < 256 → c < 4294967296 → Calls Tryz.prog 19 #[.int .u8 (a : Int), .int .u16 (pix q : Int), .int .u8 (psb q : Int), .int .u32 (c : Int)] V fun e w' => e = .returned (.agg (frm a (pix q) (psb q) c).arr) ∧ Below V.heap.size V w') := fun a c V ha hc => r10Frame_any a _ _ c V ha hix hsb hc
  have HH0 := hidOf2 h0
  have HR0 := hidOf2 r0
  have cT := h0.head.c.1
  clear h hEE b0 h0 r0
  generalize rdC its (pix q) (psb q) = C at *
  generalize rdL its (pix q) (psb q) = L at *
  generalize redO its q = RO at *
  generalize pix q = ix at *
  generalize psb q = sb at *
  go_enter Tryz.func70, Tryz.ntmps70
  go_upto_region 1 with fail
  change Code.wp Tryz.prog _ _ _ (w.alloc (.cells zA8 32))
  rw [hV]
  go_wp2_with fail
  refine hRd.mono ?_
  rintro e w1 ⟨x, rfl, hBy, b1, hNw, hCx, hLx⟩
  obtain ⟨ar, cr, rfl⟩ := bytes_shape hBy
  obtain ⟨n, hn⟩ : ∃ n, L.length = n := ⟨_, rfl⟩
  have r1 := HR0.out.below b1
  have HD1 := hidOf2 (HH0.out.below b1)
  have HB1 := hidOf2 (HB0.out.trans (b1.mono HB0.out.size))
  have HBy := hidOf2 hBy
  have HNw := hidOf2 hNw
  have HCx := hidOf2 hCx
  have HLx := hidOf2 hLx
  have HNL := hidOf2 hn
  rw [hn] at hLl HRO ⊢
  clear hRd hBy hNw hCx hLx b1 HR0 HH0 cT hn
  by_cases hC : C ≠ 0
  · have dC : ((C : Int) != 0) = true := by simp; omega
    have HO := hidOf2 (HRO.out.trans (if_pos hC))
    clear HRO
    go_wp2_with fail
    refine (HFR.out 128 C _ (by decide) hCl).mono ?_
    rintro e w7 ⟨rfl, b7⟩
    have r7 := r1.below b7
    have r7l := r7.lt
    have r8 := r7.row (frm 128 ix sb C)
    have HZ : Hid (Dv T E its Ss.nul none 0 (w7.setRow k (frm 128 ix sb C).arr) ∧ Kp [T, E] w (w7.setRow k (frm 128 ix sb C).arr)) := by
      have d7 := HD1.out.below b7
      obtain ⟨vL, vV, hr⟩ := d7.rd
      exact ⟨Dv.nul ⟨vL, vV, hr.row r7 _⟩ ((setRow_other _ _ _ _ (by omega)).trans d7.head) hET d7.len d7.oks d7.nod, (Kp.of_below (HB1.out.trans (b7.mono HB1.out.size))).fresh (Kp.setRow1 _ _ _) (fun b hb => .inr (by simp at hb; omega))⟩
    clear HB1 HD1 r1 b7 HFR
    go_wp2_with (first | (refine sdF (g := frm 128 ix sb C) r7 rfl _ _ rfl rfl rfl ?_))
    exact bodyPost_ret (rs_results r8 _ rfl) rfl (HRP.out _ HO.out _ _ ⟨rfl, none, 0, HZ.out.1, HZ.out.2, fun b hb => by simp [blk] at hb⟩)
  · obtain rfl : C = 0 := by omega
    have HR1 := hidOf2 (HRO.out.trans (if_neg (by simp)))
    clear HRO hC
    by_cases h4 : 1 ≤ n ∧ n ≤ 4
    · have HO := hidOf2 (HR1.out.trans (if_pos h4))
      have e1 : decide ((1 : Int) ≤ (n : Int)) = true := by simp; omega
      have e2 : decide ((n : Int) ≤ 4) = true := by simp; omega
      have HF : Hid (∀ V, Calls Tryz.prog 19 #[.int .u8 ((67 + 4 * (4 - n) : Nat) : Int), .int .u16 (ix : Int), .int .u8 (sb : Int), .int .u32 0] V fun e w' => e = .returned (.agg (hk ix sb L 0).arr) ∧ Below V.heap.size V w') := fun V => by
        have := HFR.out (67 + 4 * (4 - n)) 0 V (by omega) (by decide)
        rw [hk_0, HNL.out]
        exact this
      clear HR1
      have hsub : (67 : Int) + 4 * (4 - (n : Int)) = ((67 + 4 * (4 - n) : Nat) : Int) := by omega
      have hca : ∃ bb off, ar = some ⟨bb, off, none⟩ ∧ bb < w1.heap.size ∧ ∀ j (hj : j < L.length), w1.cell? ⟨bb, off + j, none⟩ = some (.int .u8 (L[j].toNat : Int)) := by
        obtain ⟨ao', cap', hv', h00, hcell⟩ := HBy.out
        injection hv' with e1 _ _
        subst e1
        obtain ⟨bb, off, ha, hlt, _⟩ := hcell 0 (by rw [HNL.out]; omega)
        refine ⟨bb, off, ha, hlt, fun j hj => ?_⟩
        obtain ⟨bb2, off2, ha2, _, hc2⟩ := hcell j hj
        rw [ha] at ha2
        injection ha2 with ha2
        injection ha2 with g1 g2
        subst g1 g2
        exact hc2
      obtain ⟨bb, off, har, hbb, hcl⟩ := hca
      subst har
      have HCL := hidOf2 hcl
      have hbk : bb ≠ k := by have := HNw.out bb rfl; omega
      clear hcl HBy HNw HCx HLx
      have hcase : n = 1 ∨ n = 2 ∨ n = 3 ∨ n = 4 := by omega
      have HFF : Hid (n = 1 ∨ n = 2 ∨ n = 3 ∨ n = 4) := hcase
      clear hcase
      obtain ⟨B, hB⟩ : ∃ B, 67 + 4 * (4 - n) = B := ⟨_, rfl⟩
      rw [hB] at HF hsub
      have hBi : (B : Int) = 67 + 4 * (4 - (n : Int)) := by omega
      have HBI := hidOf2 hBi
      clear hBi hsub
      rcases HFF.out with rfl | rfl | rfl | rfl
      all_goals
        obtain rfl : B = _ := hB.symm
        go_wp2_with fail
        refine (HF.out _).mono ?_
        rintro e w6 ⟨rfl, b6⟩
        obtain ⟨z, hz⟩ : ∃ z, w6.heap.size = z := ⟨_, rfl⟩
        have r6 := r1.below b6
        have r6l := r6.lt
        have y1 : Qb z F8.nul (w6.alloc (.cells zA8 32)) := by rw [← hz]; exact heap_alloc_new w6 _
        have ba : Below w6.heap.size w6 (w6.alloc (.cells zA8 32)) := (Below.refl _ _).alloc (Nat.le_refl _) _
        have y2 := y1.row (hk ix sb L 0)
        have by2 := below_row ba (by omega) (by rw [size_alloc]; omega) (q := z) (hk ix sb L 0).arr
        have Hy : Hid (∀ X, X = (w6.alloc (.cells zA8 32)).setRow z (hk ix sb L 0).arr → Qb z (hk ix sb L 0) X ∧ Below w6.heap.size w6 X) := fun X hX => by subst hX; exact ⟨y2, by2⟩
        clear y2 by2 ba
        go_upto_region 6 with (first | (refine sdF (g := hk ix sb L 0) y1 rfl _ _ rfl rfl rfl ?_))
        change Code.wp Tryz.prog _ _ _ ((w6.alloc (.cells zA8 32)).setRow z (hk ix sb L 0).arr)
        generalize hX : (w6.alloc (.cells zA8 32)).setRow z (hk ix sb L 0).arr = X
        obtain ⟨y3, b7⟩ := Hy.out X hX.symm
        have b67 := b6.trans (b7.mono b6.size)
        have HD7 := hidOf2 (HD1.out.below b67)
        have r7 := r6.below b7
        have HB7 := hidOf2 (HB1.out.trans (b67.mono HB1.out.size))
        have HCX := hidOf2 (show ∀ j (hj : j < L.length), X.cell? ⟨bb, off + j, none⟩ = some (.int .u8 (L[j].toNat : Int)) from fun j hj => (b67.cell (p := ⟨bb, off + j, none⟩) hbb).trans (HCL.out j hj))
        have hbz : bb ≠ z := by have := b6.size; omega
        have hbX : bb < X.heap.size := Nat.lt_of_lt_of_le hbb b67.size
        have HR7 := hidOf2 r7
        have HY3 := hidOf2 y3
        clear Hy hX y1 r6 y3 b7 b67 r7 HD1 HB1 HCL r1
        go_wp2_with fail
        go_loopw [10] (fun i x => ∃ j : Nat, j ≤ L.length ∧ i = .int .i64 j ∧ Hid (Qb z (hk ix sb L j) x) ∧ Hid (Kp [z] X x)) (fun i _ => L.length - (intOf i).toNat)
        case atStart => exact ⟨0, Nat.zero_le _, rfl, HY3, Kp.refl _ _⟩
        case round =>
          obtain ⟨j, hj, rfl, HQ, HK⟩ := hrel
          by_cases hjl : j < L.length
          · have cj := (World.cell?_of_block (a := ⟨bb, off + j, none⟩) (HK.out.block bb hbX (by simp; omega))).trans (HCX.out j hjl)
            have hnj := HNL.out
            have hj4 : j < 4 := by omega
            obtain ⟨vz, hvz⟩ := HQ.out.any8 (4 + j) (by omega)
            have hzz := HQ.out.zz (4 + j)
            have HN : Hid (∀ Y, Y = wr.setCell ⟨z, 4 + j, none⟩ (.int .u8 (L[j].toNat : Int)) → Qb z (hk ix sb L (j + 1)) Y ∧ Kp [z] X Y) := fun Y hY => by
              subst hY
              exact ⟨HQ.out.set (4 + j) _ (hk_step ix sb L j hjl hj4), HK.out.trans (Kp.cell1 wr z (4 + j) _)⟩
            have hlt8 := L[j].toNat_lt
            obtain ⟨lv, hlv⟩ : ∃ v, L[j].toNat = v := ⟨_, rfl⟩
            rw [hlv] at cj HN hlt8
            have hjn := hjl
            rw [hnj] at hjn
            clear hlv hjl
            rcases (show j = 0 ∨ j = 1 ∨ j = 2 ∨ j = 3 by omega) with rfl | rfl | rfl | rfl
            all_goals first
              | (exfalso; omega)
              | (first | rw [show ((0 : Nat) : Int) = 0 from rfl] | rw [show ((1 : Nat) : Int) = 1 from rfl] | rw [show ((2 : Nat) : Int) = 2 from rfl] | rw [show ((3 : Nat) : Int) = 3 from rfl]
                 try simp only [Nat.reduceAdd, Nat.add_zero] at hvz hzz HN cj
                 go_wp2
                 go_roundw
                 case rel =>
                   obtain ⟨n1, n2⟩ := HN.out _ rfl
                   exact ⟨_, (by rw [HNL.out]; exact hjn), by go_num, n1, n2⟩
                 case measure => simp [intOf, HNL.out])
          · obtain rfl : j = L.length := by omega
            have hy : Qb z (here ix sb L) wr := by have := HQ.out; rw [hk_n ix sb L (by rw [HNL.out]; decide) (by rw [HNL.out]; decide)] at this; exact this
            have hyl := hy.load
            have r8 : Qb k F8.nul wr := (HK.out.block k HR7.out.lt (by simp; omega)).trans HR7.out
            have r8l := r8.lt
            have r9 := r8.row (here ix sb L)
            have hle : ¬ L.length < L.length := Nat.lt_irrefl _
            have HZ : Hid (Dv T E its Ss.nul none 0 (wr.setRow k (here ix sb L).arr) ∧ Kp [T, E] w (wr.setRow k (here ix sb L).arr)) := by
              have hd8 : Db T E Ss.nul none 0 wr := (HK.out.block T HD7.out.head.lt (by simp; omega)).trans HD7.out.head
              obtain ⟨vL, vV, hr⟩ := HD7.out.rd
              have hne : ∀ (b : Nat) (A' : Array Value) (U : TypeId) (fr : Nat × Nat), X.heap[b]? = some (Obj.cells A' U fr) → U ≠ 32 → wr.heap[b]? = X.heap[b]? := fun b A' U fr hb hU => HK.out.block b (Array.getElem?_eq_some_iff.1 hb).1 (by
                rw [List.mem_singleton]
                rintro rfl
                rw [show X.heap[b]? = some (.cells (hk ix sb L 0).arr 32 (0, 0)) from HY3.out] at hb
                injection hb with hb
                injection hb with _ hb2
                exact hU hb2.symm)
              have hr8 : Rd E (its.map Im.e) vL (its.map Im.v) vV wr := ⟨(hne _ _ _ _ hr.head (by decide)).trans hr.head, hr.rowL.same HK.out.size (fun b A' fr _ h1 => hne _ _ _ _ h1 (by decide)), hr.rowV.same HK.out.size (fun b A' fr _ h1 => hne _ _ _ _ h1 (by decide))⟩
              exact ⟨Dv.nul ⟨vL, vV, hr8.row r8 _⟩ ((setRow_other _ _ _ _ (by omega)).trans hd8) hET HD7.out.len HD7.out.oks HD7.out.nod, ((Kp.of_below (bs := [T, E]) HB7.out).fresh HK.out (fun b hb => .inr (by simp at hb; omega))).fresh (Kp.setRow1 _ _ _) (fun b hb => .inr (by simp at hb; omega))⟩
            have hll := HNL.out
            rw [hll]
            clear HK HQ hy
            go_wp2_with (first | (refine ldG hyl rfl _ rfl rfl ?_) | (refine sdF (g := here ix sb L) r8 rfl _ _ rfl rfl rfl ?_))
            exact bodyPost_ret (rs_results r9 _ rfl) rfl (HRP.out _ HO.out _ _ ⟨rfl, none, 0, HZ.out.1, HZ.out.2, fun b hb => by simp [blk] at hb⟩)
    · have HO := hidOf2 (HR1.out.trans (if_neg h4))
      have d1 : decide ((1 : Int) ≤ (n : Int)) = false ∨ (decide ((1 : Int) ≤ (n : Int)) = true ∧ decide ((n : Int) ≤ 4) = false) := by
        by_cases h : 1 ≤ n
        · right; constructor
          · simp; omega
          · simp; omega
        · left; simp; omega
      obtain ⟨cT0, cT1, cT2, cT3, cT4, cT5, cT6⟩ := HD1.out.head.c
      have z1 := HD1.out.head.zz 1
      have z2 := HD1.out.head.zz 2
      have z3 := HD1.out.head.zz 3
      have z5 := HD1.out.head.zz 5
      have hdb := HD1.out.head.w4 ix sb L ar cr
      have hKT := ((((Kp.refl [T] w1).cells (T := T) (by simp) 1 (.int .i64 2)).cells (T := T) (by simp) 2 (.int .u16 (ix : Int))).cells (T := T) (by simp) 3 (.int .u8 (sb : Int))).cells (T := T) (by simp) 5 (.slice ar L.length cr)
      rw [HNL.out] at hdb hKT
      have HX : Hid (∀ X, X = (((w1.setCell ⟨T, 1, none⟩ (.int .i64 2)).setCell ⟨T, 2, none⟩ (.int .u16 (ix : Int))).setCell ⟨T, 3, none⟩ (.int .u8 (sb : Int))).setCell ⟨T, 5, none⟩ (.slice ar n cr) → Db T E ⟨2, ix, sb, 0, L, none⟩ ar cr X ∧ Kp [T] w1 X) := fun X hX => by subst hX; exact ⟨hdb, hKT⟩
      clear HR1 hdb hKT
      obtain d1 | ⟨d1, d2⟩ := d1
      all_goals
        go_upto_region 12 with fail
        generalize hX : (((w1.setCell ⟨T, 1, none⟩ (.int .i64 2)).setCell ⟨T, 2, none⟩ (.int .u16 (ix : Int))).setCell ⟨T, 3, none⟩ (.int .u8 (sb : Int))).setCell ⟨T, 5, none⟩ (.slice ar n cr) = X
        obtain ⟨d5, K5⟩ := HX.out X hX.symm
        have r5 : Qb k F8.nul X := (K5.block _ r1.lt (by simp; omega)).trans r1
        have hr5 : ∃ vL vV, Rd E (its.map Im.e) vL (its.map Im.v) vV X := by obtain ⟨vL, vV, hr⟩ := HD1.out.rd; exact ⟨vL, vV, hr.kpT HD1.out.head K5⟩
        have HK5 := hidOf2 ((Kp.of_below (bs := [T, E]) HB1.out).fresh K5 (fun b hb => .inl (by simp at hb; simp [hb])))
        have HBX := hidOf2 (bytes_same HBy.out K5.size (fun b hb _ => K5.block b (HLx.out b hb) (by have := HNw.out b hb; simp; omega)))
        have HLX := hidOf2 (show ∀ b ∈ blk ar, b < X.heap.size ∧ k < b from fun b hb => ⟨Nat.lt_of_lt_of_le (HLx.out b ((own_blk _ _ _ _).2 hb)) K5.size, by have := HNw.out b ((own_blk _ _ _ _).2 hb); omega⟩)
        have HR5 := hidOf2 hr5
        have HD5 := hidOf2 d5
        clear HX hX cT0 cT1 cT2 cT3 cT4 cT5 cT6 z1 z2 z3 z5 K5 d5 hr5
        go_wp2_with fail
        refine (HFR.out 65 n _ (by decide) (by omega)).mono ?_
        rintro e w7 ⟨rfl, b7⟩
        have r7 := r5.below b7
        have r7l := r7.lt
        have r8 := r7.row (frm 65 ix sb n)
        have HZ : Hid (Dv T E its ⟨2, ix, sb, 0, L, none⟩ ar cr (w7.setRow k (frm 65 ix sb n).arr) ∧ Kp [T, E] w (w7.setRow k (frm 65 ix sb n).arr)) := by
          obtain ⟨vL, vV, hr⟩ := HR5.out
          exact ⟨⟨⟨vL, vV, (hr.below b7).row r7 _⟩, (setRow_other _ _ _ _ (by omega)).trans (HD5.out.below b7), bytes_same (HBX.out.below b7) (by simp) (fun b hb _ => setRow_other _ _ _ _ (by have := (HLX.out b ((own_blk _ _ _ _).1 hb)).2; omega)), HCx.out, (fun b hb => by have := (HLX.out b hb).2; omega), (fun b hb => by have h1 := (HLX.out b hb).1; have h2 := b7.size; simp only [World.setRow, Array.size_modify]; omega), hET, HD1.out.len, HD1.out.oks, HD1.out.nod, ⟨(show (2 : Nat) ≤ 2 by decide), hix, hsb, (show (0 : Nat) ≤ 1 by decide), (show L.length ≤ 65536 by rw [HNL.out]; exact hLl), fun n hn => by cases hn⟩⟩, (HK5.out.trans (Kp.of_below b7)).fresh (Kp.setRow1 _ _ _) (fun b hb => .inr (by simp at hb; omega))⟩
        have HW : Hid (∀ b ∈ blk ar, w.heap.size ≤ b) := fun b hb => by have := (HLX.out b hb).2; omega
        clear HB1 HD1 r1 r5 b7 HFR HR5 HD5 HK5 HBX HLX
        go_wp2_with (first | (refine sdF (g := frm 65 ix sb n) r7 rfl _ _ rfl rfl rfl ?_))
        exact bodyPost_ret (rs_results r8 _ rfl) rfl (HRP.out _ HO.out _ _ ⟨rfl, ar, cr, HZ.out.1, HZ.out.2, fun b hb => .inr (HW.out b hb)⟩)
end
end Go.Proofs.YtahfnknbmikmkaaGreat
