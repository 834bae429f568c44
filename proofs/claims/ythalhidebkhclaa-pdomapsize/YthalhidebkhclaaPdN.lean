/- Contracts: Unpack. -/
import Derived.Test.YthalhidebkhclaaPdM
namespace Go.Proofs.Ythalhidebkhclaa
open Go.RowKit Go.Shelf Go.Proofs.Ty
set_option linter.unusedVariables false
set_option maxRecDepth 1000000
set_option linter.unusedSimpArgs false
attribute [local go_sem] Oper.semAt_some
theorem wrt_b (its : List Im) (ix sb : Nat) (l : List UInt8) : (wrt its ix sb l).map Im.b = its.map Im.b := by
  unfold wrt
  split
  · split
    · rfl
    · exact setV_b _ _ _
  · rfl
theorem wrN_b (its : List Im) (L : List Sl) (l : List UInt8) : ∀ k, (wrN its L l k).map Im.b = its.map Im.b
  | 0 => rfl
  | k + 1 => by unfold wrN; rw [wrt_b]; exact wrN_b its L l k
theorem Dct.grown {D R : Nat} {its : List Im} {A W : World} {row : Option Nat} (h : Dct D R its A) (hg : A.grownBy W row) (hr : ∀ r, row = some r → ∃ o : Obj, A.heap[r]? = some o ∧ o.isCells = false) : Dct D R its W :=
  ⟨(grown_cells h.head hg hr).trans h.head, (grown_cells h.row hg hr).trans h.row, fun i hi => (grown_cells (h.items i hi) hg hr).trans (h.items i hi), h.apart, h.sorted, h.len⟩
theorem Dct.low {D R n : Nat} {its : List Im} {A W : World} (h : Dct D R its A) (hD : D < n) (hR : R < n) (hi : ∀ b ∈ its.map Im.b, b < n) (hs : ∀ x, x < n → W.heap[x]? = A.heap[x]?) : Dct D R its W :=
  ⟨(hs D hD).trans h.head, (hs R hR).trans h.row, fun i him => (hs i.b (hi i.b (List.mem_map.2 ⟨i, him, rfl⟩))).trans (h.items i him), h.apart, h.sorted, h.len⟩
/-- What stands between two rounds of the writing. -/
structure Uw (w : World) (q D R DD : Nat) (bs : List Nat) (c : Int) (its : List Im) (W : World) : Prop where
  b0 : W.heap[q]? = some (.cells #[.pointer (some ⟨D, 0, none⟩)] 31 (0, 0))
  b1 : W.heap[q + 1]? = some (.cells #[.int .i64 c] 29 (0, 0))
  dd : W.heap[DD]? = some (.deferred (some []))
  kp : Kp bs w W
  dct : Dct D R its W
section
variable {w A W : World} {q D R DD B : Nat} {bs : List Nat} {cz : Int} {its : List Im}
theorem Uw.grown {row : Option Nat} (h : Uw w q D R DD bs cz its A) (hB : w.heap.size ≤ B) (hD : DD < B) (hg : A.grownBy W row) (hr : ∀ r, row = some r → B ≤ r ∧ ∃ o : Obj, A.heap[r]? = some o ∧ o.isCells = false) : Uw w q D R DD bs cz its W := by
  have hr2 := fun r e => (hr r e).2
  refine ⟨(grown_cells h.b0 hg hr2).trans h.b0, (grown_cells h.b1 hg hr2).trans h.b1, (hg.block DD (Array.getElem?_eq_some_iff.1 h.dd).1 (fun e => by have := (hr DD e.symm).1; omega)).trans h.dd, ⟨hg.os.trans h.kp.os, hg.tape.trans h.kp.tape, hg.output.trans h.kp.output, Nat.le_trans h.kp.size hg.size, fun k hk hn => (hg.block k (Nat.lt_of_lt_of_le hk h.kp.size) (fun e => by have := (hr k e.symm).1; omega)).trans (h.kp.block k hk hn)⟩, h.dct.grown hg hr2⟩
theorem Uw.below (h : Uw w q D R DD bs cz its A) (hb : Below A.heap.size A W) : Uw w q D R DD bs cz its W :=
  ⟨(hb.block q (Array.getElem?_eq_some_iff.1 h.b0).1).trans h.b0, (hb.block _ (Array.getElem?_eq_some_iff.1 h.b1).1).trans h.b1, (hb.block _ (Array.getElem?_eq_some_iff.1 h.dd).1).trans h.dd, ⟨hb.os.trans h.kp.os, hb.tape.trans h.kp.tape, hb.output.trans h.kp.output, Nat.le_trans h.kp.size hb.size, fun k hk hn => (hb.block k (Nat.lt_of_lt_of_le hk h.kp.size)).trans (h.kp.block k hk hn)⟩, h.dct.below hb⟩
theorem Uw.c (h : Uw w q D R DD bs cz its W) : W.cell? ⟨q + 1, 0, none⟩ = some (.int .i64 cz) := Lib.cell_of_heap h.b1 0
end
set_option maxRecDepth 100000 in
set_option maxHeartbeats 8000000 in
theorem pdUnpack_ok {D R : Nat} {its : List Im} {w : World} (h : Dct D R its w) (v : Value) (L : List Sl) (hWd : Wide 3 slC w v L) (hL : L.length ≤ 8796093022000) (vb : Value) (l : List UInt8) (hB : Bytes w vb l) (hC : Cp vb) (hl : l.length < 9223372036854775808) (hc : ckC its true L = 0) (hm : Mn its) (hs : szC L ≤ l.length)
    (hf : ∀ k, k < L.length → wc its (L.getD k Sl.nul).ix (L.getD k Sl.nul).sb (pcL L l k) = 0)
    (hap : ∀ b, v.ownBlock = some b → b ∉ its.map Im.b) (hapb : ∀ b, vb.ownBlock = some b → b ∉ its.map Im.b) :
    Calls Try.prog 8 #[.pointer (some ⟨D, 0, none⟩), v, vb] w fun e w' => e = .returned (.int .i64 0) ∧ Dct D R (wrN its L l L.length) w' ∧ Kp (its.map Im.b) w w' := by
  obtain ⟨bp, hbp⟩ := parts13 hB hC hm hc hs
  obtain ⟨ao, cap, hv⟩ := hWd.shape
  have HBY := hidOf hB
  obtain ⟨ab, cb, hvb, _⟩ := hB
  obtain ⟨N, hN⟩ : ∃ N, L.length = N := ⟨_, rfl⟩
  rw [hN] at hv
  subst hv
  obtain ⟨q, hq⟩ : ∃ q, w.heap.size = q := ⟨_, rfl⟩
  have HU0 := Up.start w D
  obtain ⟨w1, hw1⟩ : ∃ x, w.alloc (.cells #[.pointer (some ⟨D, 0, none⟩)] 31) = x := ⟨_, rfl⟩
  obtain ⟨w2, hw2⟩ : ∃ x, w1.alloc (.cells #[.int .i64 0] 29) = x := ⟨_, rfl⟩
  rw [hw1, hw2, hq] at HU0
  have s1 : w1.heap.size = q + 1 := by rw [← hw1, size_alloc, hq]
  have b1 : Below w.heap.size w w2 := HU0.old
  have c1 : w2.cell? ⟨q, 0, none⟩ = some (.pointer (some ⟨D, 0, none⟩)) := Lib.cell_of_heap HU0.b0 0
  have hCk := pdCheck_any (h.below b1) (.slice ao N cap) L (hWd.same b1.size (fun b _ hl => b1.block b hl)) hL true
  rw [hc] at hCk
  have HSZ : Hid (∀ X, Below w.heap.size w X → Calls Try.prog 14 #[.slice ao N cap] X fun e w' => e = .returned (.int .i64 (szC L : Nat)) ∧ Below X.heap.size X w') := fun X hX => pdSize_any (.slice ao N cap) L (hWd.same hX.size (fun b _ hl => hX.block b hl)) hL
  have HU := hidOf HU0
  obtain ⟨m, hm1⟩ : ∃ m, szC L = m := ⟨_, rfl⟩
  obtain ⟨n, hn1⟩ : ∃ n, l.length = n := ⟨_, rfl⟩
  rw [hm1, hn1] at hs
  have HM := hidOf hm1
  have d2 : decide ((n : Int) < (m : Int)) = false := by simp; omega
  rw [hn1] at hvb
  have HD := hidOf h
  have HWD := hidOf hWd
  have HN := hidOf hN
  have HMN := hidOf hm
  have HC := hidOf hc
  have HBP := hidOf hbp
  have HFF := hidOf hf
  have HAP := hidOf hap
  have HAPB := hidOf hapb
  subst hvb
  clear h hWd b1 hN HU0 hc hm1 hn1 hl hbp hf hm hC hap hapb
  refine (callsIn_wide (n := 4)).1 ?_
  refine callsIn_of_wp_marks Try.func8 rfl trivial ?_ rfl
  simp only [Try.ntmps8, List.size_toArray, List.length_cons, List.length_nil, Nat.reduceAdd, Nat.reduceSub, Array.replicate_succ, Array.replicate_zero, List.push_toArray, List.append_toArray, List.nil_append, List.cons_append]
  gi_wp2_with (refine ⟨trivial, ?_⟩; first | (gi_at_call 18; refine (callsIn_wide.2 hCk).mono ?_; rintro e X3 ⟨rfl, b3⟩; have HU3 := hidOf (HU.out.below b3); have hS3 := HSZ.out X3 HU3.out.old; clear b3) | (gi_at_call 14; refine (callsIn_wide.2 hS3).mono ?_; rw [HM.out]; rintro e X4 ⟨rfl, b4⟩; have HU4 := hidOf (HU3.out.below b4); clear b4) | (gi_at_call 19; refine (pieces_in Fence.wide 3 trivial rfl _ _ _ _ _ _ _).mono ?_; rintro e w' ⟨rfl, rfl⟩))
  have s4 := HU4.out.old.size
  have hqX := (Array.getElem?_eq_some_iff.1 HU4.out.b1).1
  obtain ⟨g, hg⟩ : ∃ g, X4.heap.size = g := ⟨_, rfl⟩
  rw [hg] at s4 hqX
  obtain ⟨v2, hv2⟩ : ∃ x, X4.alloc (.cells #[.slice ao N cap] 23) = x := ⟨_, rfl⟩
  obtain ⟨w5, hw5⟩ : ∃ x, v2.alloc (.cells #[.slice ab n cb] 24) = x := ⟨_, rfl⟩
  rw [hg, hv2, hw5]
  have sv2 : v2.heap.size = g + 1 := by rw [← hv2, size_alloc, hg]
  have s5 : w5.heap.size = g + 2 := by rw [← hw5, size_alloc, sv2]
  have bv2 : Below X4.heap.size X4 v2 := by rw [← hv2]; exact (Below.refl _ _).alloc (Nat.le_refl _) _
  have bv3 : Below v2.heap.size v2 w5 := by rw [← hw5]; exact (Below.refl _ _).alloc (Nat.le_refl _) _
  have U5 : Up w q D 0 w5 := (HU4.out.below bv2).below bv3
  have y2 : w5.heap[g]? = some (.cells #[.slice ao N cap] 23 (0, 0)) := (bv3.block g (by omega)).trans (by rw [← hv2, ← hg]; exact heap_alloc_new X4 _)
  have y3 : w5.heap[g + 1]? = some (.cells #[.slice ab n cb] 24 (0, 0)) := by rw [← hw5, ← sv2]; exact heap_alloc_new v2 _
  have hNL := HN.out
  have hseq := pieces_seqN g (g + 1) ao ab N cap n cb L hNL hL (off L) bp w5 y2 y3 (HWD.out.same U5.old.size (fun b _ hl => U5.old.block b hl)) (fun k hk => off_ask HC.out k (by omega)) (fun k hk W => (HBP.out k (by omega)).1 W)
  have hOB : ∀ b, (Value.slice ao N cap).ownBlock = some b → 0 < L.length → b < q := fun b hb h0 => by
    obtain ⟨ao', cap', he, _, hc⟩ := HWD.out
    injection he with he
    obtain ⟨b', off, ha, hlt, _⟩ := hc 0 h0
    rw [he, ha] at hb
    simp [Value.ownBlock] at hb
    omega
  have hBl : ∀ b ∈ bks (g + 1) (.slice ao N cap) L.length, b < g + 2 ∧ b ≠ q ∧ b ≠ q + 1 := fun b hb => by
    unfold bks at hb
    simp only [List.mem_cons] at hb
    rcases hb with rfl | hb
    · omega
    · split at hb
      · have := hOB b (by simpa using hb) (by assumption)
        omega
      · cases hb
  refine rf_over (gf := 36) (lb := #[.pointer (some ⟨g, 0, none⟩), .pointer (some ⟨g + 1, 0, none⟩)]) rfl (enters_of Try.func36 (by kernel_rfl) rfl) hseq (fun _ => rfl) (fun b hb => by rw [s5]; exact (hBl b hb).1)
    (fun k X => Up w q D 0 X ∧ ∀ j, j < k → wc its (L.getD j Sl.nul).ix (L.getD j Sl.nul).sb (pcL L l j) = 0) (fun _ _ => False) ?hI ?hIx ?h0 ?round ?done ?stop
  case hI => exact fun k A B row hs hg hr => ⟨hs.1.grown (B := w5.heap.size) (by omega) hg hr, hs.2⟩
  case hIx => exact fun k A B row hs hg hr => hs
  case h0 => exact ⟨U5, fun j hj => by omega⟩
  case round =>
    rintro l' k X ⟨hP, hPz⟩ hk hl hlX
    obtain ⟨s, hs⟩ : ∃ s, L.getD k Sl.nul = s := ⟨_, rfl⟩
    obtain ⟨pv, hpv⟩ : ∃ p, bp k = p := ⟨_, rfl⟩
    obtain ⟨X1, hX1⟩ : ∃ x, X.alloc (.cells #[.int .u16 (s.ix : Int), .int .u8 (s.sb : Int), .int .i64 s.bt] 47) = x := ⟨_, rfl⟩
    have b9 : Below X.heap.size X X1 := by rw [← hX1]; exact (Below.refl _ _).alloc (Nat.le_refl _) _
    have hz : Sb X.heap.size s X1 := by rw [← hX1]; exact heap_alloc_new X _
    have sX1 : X1.heap.size = X.heap.size + 1 := by rw [← hX1, size_alloc]
    have hXs : g + 2 < X.heap.size ∨ g + 2 = X.heap.size := by omega
    refine ⟨fun a1 V => a1 = { tmps := #[.pointer (some ⟨D, 0, none⟩), .slice ao N cap, .slice ab n cb, .pointer (some ⟨q, 0, none⟩), undef, undef, .pointer (some ⟨q + 1, 0, none⟩), .pointer (some ⟨X.heap.size, 0, none⟩), pv, undef, undef, .bool false, .pointer (some ⟨D, 0, none⟩), .slice ao N cap, .int .u32 0, .bool false, .bool false, .slice ab n cb, .int .i64 (n : Int), .slice ao N cap, .int .i64 (m : Int), .bool false, .slice ao N cap, .slice ab n cb, .func (.func 36) #[] #[.pointer (some ⟨g, 0, none⟩), .pointer (some ⟨g + 1, 0, none⟩)], .agg s.arr, pv, undef, undef, undef, undef, undef, undef, undef, undef, undef, undef, undef, undef, undef, undef, undef, undef, undef, undef, undef, undef], defers := [] } ∧ V = X1, ?_, ?_⟩
    · have HF : Hid (Ka (bks (g + 1) (.slice ao N cap) L.length) w5.heap.size X X1) := Ka.below b9 (fun b hb => by have := hBl b hb; omega)
      simp only [pcV]
      rw [hs, hpv]
      simp only [Sl.arr, slC]
      clear hz b9 hP hseq hCk hS3 y2 y3 hPz hs hpv
      gi_wp2
      refine ⟨HF.out, ?_, ?_⟩ <;> first | trivial | rfl
    · rintro a1 V Y ⟨rfl, hV⟩ ⟨r, r', hr, hYe⟩
      rw [hV] at hr hYe
      have sY : Y.heap.size = X.heap.size + 1 := by rw [hYe]; simpa [World.putObj] using sX1
      have PY : Up w q D 0 Y := by
        rw [hYe]
        exact (hP.below b9).grown (B := w5.heap.size) (by omega) (grownBy_putObj' X1 l' _) (fun r0 e => by cases e; exact ⟨hl, _, hr, rfl⟩)
      have zY : Sb X.heap.size s Y := by rw [hYe]; exact (World.putObj_heap_other (by omega)).trans hz
      have y5 : Y.cell? ⟨q, 0, none⟩ = some (.pointer (some ⟨D, 0, none⟩)) := Lib.cell_of_heap PY.b0 0
      have z0 := zY.c0
      have z1 := zY.c1
      have z2 := zY.c2
      have hMy := May_any (HD.out.below PY.old) s.ix s.sb s.hx s.hs pv (pcL L l k) (by rw [← hpv]; exact (HBP.out k (by omega)).2 Y (HBY.out.below PY.old))
      obtain ⟨cc, hcc⟩ : ∃ c, wc its s.ix s.sb (pcL L l k) = c := ⟨_, rfl⟩
      rw [hcc] at hMy
      have HCC : Hid (wc its (L.getD k Sl.nul).ix (L.getD k Sl.nul).sb (pcL L l k) = cc) := by show _ = _; rw [hs, hcc]
      have HPY := hidOf PY
      have HPZ := hidOf hPz
      have HBLe := hidOf hBl
      have HS5 := hidOf s5
      have HXS := hidOf hXs
      clear hz b9 hP hseq hCk hS3 y2 y3 PY zY hr hYe hs hpv hBl hOB s5 hPz hcc hXs
      have h0 : cc = 0 := by rw [← HCC.out]; exact HFF.out k (by have := HN.out; omega)
      · have d3 : ((cc : Int) != 0) = false := by simp; omega
        gi_wp2_with (refine ⟨trivial, ?_⟩; gi_at_call 20; refine (CallsIn.inRound l' (callsIn_wide.2 hMy)).mono ?_; rintro e X5 ⟨rfl, b5⟩; have HB5 := hidOf b5; clear b5)
        have hs5 := HS5.out
        have b5 := HB5.out
        refine ⟨Ka.below b5 (fun b hb => by have := HBLe.out b hb; have := HXS.out; omega), HPY.out.below b5, fun j hj => ?_⟩
        by_cases hjk : j = k
        · subst hjk; rw [HCC.out]; exact h0
        · exact HPZ.out j (by omega)
  case done =>
    rintro DD X hD ⟨hU, _⟩ hK
    clear hseq hCk hS3 y2 y3 hBl hOB
    have HUX := hidOf hU
    clear hU
    gi_wp2_with (refine ⟨trivial, ?_⟩; gi_at_call 19; refine (pieces_in Fence.wide 3 trivial rfl _ _ _ _ _ _ _).mono ?_; rintro e w' ⟨rfl, rfl⟩)
    have hqX2 := (Array.getElem?_eq_some_iff.1 HUX.out.b1).1
    have hDDX := (Array.getElem?_eq_some_iff.1 hK).1
    have sX := HUX.out.old.size
    obtain ⟨j, hj⟩ : ∃ j, X.heap.size = j := ⟨_, rfl⟩
    rw [hj] at hqX2 hDDX sX
    obtain ⟨z2, hz2⟩ : ∃ x, X.alloc (.cells #[.slice ao N cap] 23) = x := ⟨_, rfl⟩
    obtain ⟨w6, hw6⟩ : ∃ x, z2.alloc (.cells #[.slice ab n cb] 24) = x := ⟨_, rfl⟩
    rw [hj, hz2, hw6]
    have sz2 : z2.heap.size = j + 1 := by rw [← hz2, size_alloc, hj]
    have s6 : w6.heap.size = j + 2 := by rw [← hw6, size_alloc, sz2]
    have bz2 : Below X.heap.size X z2 := by rw [← hz2]; exact (Below.refl _ _).alloc (Nat.le_refl _) _
    have bz3 : Below z2.heap.size z2 w6 := by rw [← hw6]; exact (Below.refl _ _).alloc (Nat.le_refl _) _
    have C6 : Below X.heap.size X w6 := bz2.trans (bz3.mono bz2.size)
    have U6 : Up w q D 0 w6 := HUX.out.below C6
    have K6 : w6.heap[DD]? = some (.deferred (some [])) := (C6.block DD (by omega)).trans hK
    have y2 : w6.heap[j]? = some (.cells #[.slice ao N cap] 23 (0, 0)) := (bz3.block j (by omega)).trans (by rw [← hz2, ← hj]; exact heap_alloc_new X _)
    have y3 : w6.heap[j + 1]? = some (.cells #[.slice ab n cb] 24 (0, 0)) := by rw [← hw6, ← sz2]; exact heap_alloc_new z2 _
    have W6 : Uw w q D R DD (its.map Im.b) 0 its w6 := ⟨U6.b0, U6.b1, K6, ⟨U6.old.os, U6.old.tape, U6.old.output, U6.old.size, fun k hk _ => U6.old.block k hk⟩, HD.out.below U6.old⟩
    have hseq := pieces_seqN j (j + 1) ao ab N cap n cb L hNL hL (off L) bp w6 y2 y3 (HWD.out.same U6.old.size (fun b _ hl => U6.old.block b hl)) (fun k hk => off_ask HC.out k (by omega)) (fun k hk W => (HBP.out k (by omega)).1 W)
    have hit : ∀ b ∈ its.map Im.b, b < w.heap.size := fun b hb => by
      obtain ⟨i, hi, rfl⟩ := List.mem_map.1 hb
      exact (Array.getElem?_eq_some_iff.1 (HD.out.items i hi)).1
    have hBl : ∀ b ∈ bks (j + 1) (.slice ao N cap) L.length, b < j + 2 ∧ b ∉ its.map Im.b := fun b hb => by
      unfold bks at hb
      simp only [List.mem_cons] at hb
      rcases hb with rfl | hb
      · exact ⟨by omega, fun h => by have := hit _ h; omega⟩
      · split at hb
        · have h9 : (Value.slice ao N cap).ownBlock = some b := by simpa using hb
          refine ⟨?_, HAP.out b h9⟩
          obtain ⟨ao', cap', he, _, hc⟩ := HWD.out
          injection he with he
          obtain ⟨b', off, ha, hlt, _⟩ := hc 0 (by assumption)
          rw [he, ha] at h9
          simp [Value.ownBlock] at h9
          omega
        · cases hb
    refine rf_over (gf := 36) (lb := #[.pointer (some ⟨j, 0, none⟩), .pointer (some ⟨j + 1, 0, none⟩)]) rfl (enters_of Try.func36 (by kernel_rfl) rfl) hseq (fun _ => rfl) (fun b hb => by rw [s6]; exact (hBl b hb).1)
      (fun k Z => Uw w q D R DD (its.map Im.b) 0 (wrN its L l k) Z) (fun _ _ => False) ?hI2 ?hIx2 ?h02 ?round2 ?done2 ?stop2
    case hI2 => exact fun k A B row hs hg hr => hs.grown (B := w6.heap.size) (by omega) (by omega) hg hr
    case hIx2 => exact fun k A B row hs hg hr => hs
    case h02 => exact W6
    case round2 =>
      rintro l' k Z hP hk hl hlX
      obtain ⟨s, hs⟩ : ∃ s, L.getD k Sl.nul = s := ⟨_, rfl⟩
      obtain ⟨pv, hpv⟩ : ∃ p, bp k = p := ⟨_, rfl⟩
      obtain ⟨X1, hX1⟩ : ∃ x, Z.alloc (.cells #[.int .u16 (s.ix : Int), .int .u8 (s.sb : Int), .int .i64 s.bt] 47) = x := ⟨_, rfl⟩
      have b9 : Below Z.heap.size Z X1 := by rw [← hX1]; exact (Below.refl _ _).alloc (Nat.le_refl _) _
      have hz : Sb Z.heap.size s X1 := by rw [← hX1]; exact heap_alloc_new Z _
      have sX1 : X1.heap.size = Z.heap.size + 1 := by rw [← hX1, size_alloc]
      refine ⟨fun a1 V => a1 = { tmps := #[.pointer (some ⟨D, 0, none⟩), .slice ao N cap, .slice ab n cb, .pointer (some ⟨q, 0, none⟩), undef, undef, .pointer (some ⟨q + 1, 0, none⟩), undef, undef, .pointer (some ⟨Z.heap.size, 0, none⟩), pv, .bool false, .pointer (some ⟨D, 0, none⟩), .slice ao N cap, .int .u32 0, .bool false, .bool false, .slice ab n cb, .int .i64 (n : Int), .slice ao N cap, .int .i64 (m : Int), .bool false, .slice ao N cap, .slice ab n cb, .func (.func 36) #[] #[.pointer (some ⟨g, 0, none⟩), .pointer (some ⟨g + 1, 0, none⟩)], undef, undef, undef, undef, undef, undef, undef, undef, undef, undef, .slice ao N cap, .slice ab n cb, .func (.func 36) #[] #[.pointer (some ⟨j, 0, none⟩), .pointer (some ⟨j + 1, 0, none⟩)], .agg s.arr, pv, undef, undef, undef, undef, undef, undef, undef], defers := [] } ∧ V = X1, ?_, ?_⟩
      · have HF : Hid (Ka (bks (j + 1) (.slice ao N cap) L.length) w6.heap.size Z X1) := Ka.below b9 (fun b hb => by have := hBl b hb; omega)
        simp only [pcV]
        rw [hs, hpv]
        simp only [Sl.arr, slC]
        clear hz b9 hP hseq y2 y3 hs hpv W6 K6 U6
        gi_wp2
        refine ⟨HF.out, ?_, ?_⟩ <;> first | trivial | rfl
      · rintro a1 V Y ⟨rfl, hV⟩ ⟨r, r', hr, hYe⟩
        rw [hV] at hr hYe
        have sY : Y.heap.size = Z.heap.size + 1 := by rw [hYe]; simpa [World.putObj] using sX1
        have PY : Uw w q D R DD (its.map Im.b) 0 (wrN its L l k) Y := by
          rw [hYe]
          exact (hP.below b9).grown (B := w6.heap.size) (by omega) (by omega) (grownBy_putObj' X1 l' _) (fun r0 e => by cases e; exact ⟨hl, _, hr, rfl⟩)
        have zY : Sb Z.heap.size s Y := by rw [hYe]; exact (World.putObj_heap_other (by omega)).trans hz
        have y5 : Y.cell? ⟨q, 0, none⟩ = some (.pointer (some ⟨D, 0, none⟩)) := Lib.cell_of_heap PY.b0 0
        have z0 := zY.c0
        have z1 := zY.c1
        have z2' := zY.c2
        have hWr := Write_any PY.dct s.ix s.sb s.hx s.hs pv (pcL L l k) (by rw [← hpv]; exact (HBP.out k (by omega)).2 Y (bytes_same HBY.out PY.kp.size (fun b hb hlt => PY.kp.block b hlt (HAPB.out b hb))))
        rw [wrN_b] at hWr
        have HWN : Hid (wrN its L l (k + 1) = wrt (wrN its L l k) s.ix s.sb (pcL L l k)) := by show _ = _; rw [← hs]; rfl
        generalize wc (wrN its L l k) s.ix s.sb (pcL L l k) = wcc at hWr
        have HPY := hidOf PY
        have HBLe := hidOf hBl
        have HS6 := hidOf s6
        have HIT := hidOf hit
        clear hz b9 hP hseq y2 y3 W6 K6 U6 PY zY hr hYe hs hpv hBl s6 hit
        gi_wp2_with (refine ⟨trivial, ?_⟩; gi_at_call 21; refine (CallsIn.inRound l' (callsIn_wide.2 hWr)).mono ?_; rintro e X5 ⟨rfl, d5, k5⟩; have HK5 := hidOf (And.intro d5 k5); clear d5 k5)
        obtain ⟨d5, k5⟩ := HK5.out
        have hs6 := HS6.out
        have hni : ∀ x, w.heap.size ≤ x → x ∉ its.map Im.b := fun x hx h => by have := HIT.out x h; omega
        have hP := HPY.out
        have hqY := (Array.getElem?_eq_some_iff.1 hP.b0).1
        have hq1Y := (Array.getElem?_eq_some_iff.1 hP.b1).1
        have hDY := (Array.getElem?_eq_some_iff.1 hP.dd).1
        refine ⟨⟨fun b hb => k5.block b (by have := (HBLe.out b hb).1; omega) (HBLe.out b hb).2, k5.size, fun y h1 h2 => k5.block y h2 (hni y (by omega))⟩, ⟨(k5.block q hqY (hni q (by omega))).trans hP.b0, (k5.block (q + 1) hq1Y (hni _ (by omega))).trans hP.b1, (k5.block DD hDY (hni _ (by omega))).trans hP.dd, hP.kp.trans k5, ?_⟩⟩
        rw [HWN.out]
        exact d5
    case done2 =>
      rintro D2 V hD2 hP hK2
      have hDn : DD ≠ D2 := by omega
      have hq1V := (Array.getElem?_eq_some_iff.1 hP.b1).1
      have c3 := hP.c
      have f3 : V.frozen? ⟨q + 1, 0, none⟩ = false := Lib.frozen_of_heap hP.b1 0
      clear hseq y2 y3 W6 K6 U6 hBl
      have HPV := hidOf hP
      clear hP
      gi_wp2
      obtain ⟨V1, hV1⟩ : ∃ x, V.setCell ⟨q + 1, 0, none⟩ (.int .i64 0) = x := ⟨_, rfl⟩
      rw [hV1]
      have e1 : ∀ x, x ≠ q + 1 → V1.heap[x]? = V.heap[x]? := fun x hx => by rw [← hV1]; exact Below.heap_setCell V ⟨q + 1, 0, none⟩ _ x hx
      have k1 : V1.heap[D2]? = some (.deferred (some [])) := (e1 D2 (by omega)).trans hK2
      refine ⟨by simp, .inl ⟨_, _, rfl, run_takeDeferred k1, ?_⟩⟩
      have hDq : DD ≠ q + 1 := by intro e; have := HPV.out.dd; rw [e, HPV.out.b1] at this; cases this
      have k2 : (V1.putObj D2 (.deferred none)).heap[DD]? = some (.deferred (some [])) := (World.putObj_heap_other hDn).trans ((e1 DD hDq).trans HPV.out.dd)
      refine ⟨by simp, .inl ⟨_, _, rfl, run_takeDeferred k2, ?_⟩⟩
      obtain ⟨V2, hV2⟩ : ∃ x, (V1.putObj D2 (.deferred none)).putObj DD (.deferred none) = x := ⟨_, rfl⟩
      rw [hV2]
      have e2 : ∀ x, x ≠ DD → x ≠ D2 → V2.heap[x]? = V1.heap[x]? := fun x h1 h2 => by rw [← hV2]; exact (World.putObj_heap_other h1).trans (World.putObj_heap_other h2)
      have b1 : V1.heap[q + 1]? = some (.cells #[.int .i64 0] 29 (0, 0)) := by
        rw [← hV1]
        simp only [World.setCell, Array.getElem?_modify, HPV.out.b1]
        simp
      have c9 : V2.cell? ⟨q + 1, 0, none⟩ = some (.int .i64 0) := Lib.cell_of_heap ((e2 (q + 1) (fun e => hDq e.symm) (by omega)).trans b1) 0
      have low : ∀ x, x < w.heap.size → V2.heap[x]? = V.heap[x]? := fun x hx => (e2 x (by omega) (by omega)).trans (e1 x (by omega))
      have sV2 : V2.heap.size = V.heap.size := by rw [← hV2, ← hV1]; simp [World.putObj, World.setCell]
      refine ⟨.int .i64 0, by simp [results, Try.results8, asAddr, go_sem, run_underlying Try.underlying29, c9], rfl, ?_, ?_⟩
      · rw [hNL]
        refine HPV.out.dct.low (Array.getElem?_eq_some_iff.1 HD.out.head).1 (Array.getElem?_eq_some_iff.1 HD.out.row).1 ?_ low
        rw [wrN_b]
        exact hit
      · have kp := HPV.out.kp
        refine ⟨?_, ?_, ?_, by rw [sV2]; exact kp.size, fun x hx hn => (low x hx).trans (kp.block x hx hn)⟩
        · rw [← hV2, ← hV1]; exact kp.os
        · rw [← hV2, ← hV1]; exact kp.tape
        · rw [← hV2, ← hV1]; exact kp.output
    case stop2 => exact fun DD k X _ _ h _ => h.elim
  case stop => exact fun DD k X _ _ h _ => h.elim
end Go.Proofs.Ythalhidebkhclaa
