/- Contracts: Unpack, of bytes that cannot be. -/
import Derived.Test.YthalhidebkhclaaPdL
namespace Go.Proofs.Ythalhidebkhclaa
open Go.RowKit Go.Shelf Go.Proofs.Ty
set_option linter.unusedVariables false
set_option maxRecDepth 1000000
set_option linter.unusedSimpArgs false
attribute [local go_sem] Oper.semAt_some
/-- The pieces as values. -/
theorem parts13 {its : List Im} {inn : Bool} {L : List Sl} {w : World} {vb : Value} {l : List UInt8} (hB : Bytes w vb l) (hC : Cp vb) (hm : Mn its) (hc : ckC its inn L = 0) (hs : szC L ≤ l.length) :
    ∃ bp : Nat → Value, ∀ k, k < L.length → (∀ W, (Instr.sliceAt 24 vb (some (.int .i64 (off L k : Nat))) (some (.int .i64 (off L (k + 1) : Nat))) none).run Try.prog W = .ok (bp k) W) ∧ (∀ x, Bytes x vb l → Bytes x (bp k) (pcL L l k)) := by
  have H : ∀ k, ∃ p : Value, k < L.length → (∀ W, (Instr.sliceAt 24 vb (some (.int .i64 (off L k : Nat))) (some (.int .i64 (off L (k + 1) : Nat))) none).run Try.prog W = .ok p W) ∧ (∀ x, Bytes x vb l → Bytes x p (pcL L l k)) := fun k => by
    by_cases hk : k < L.length
    · have h1 := (off_ask hc k hk).2.2.1
      have h2 := off_mono hc (L.length - (k + 1)) (k + 1) (by omega)
      rw [show k + 1 + (L.length - (k + 1)) = L.length by omega, ← sz_off hm hc] at h2
      obtain ⟨a, c, h3, h4, _⟩ := bslice_lh hB hC (off L k) (off L (k + 1)) h1 (by omega)
      exact ⟨_, fun _ => ⟨h3, h4⟩⟩
    · exact ⟨undef, fun h => absurd h hk⟩
  exact ⟨fun k => Classical.choose (H k), fun k hk => Classical.choose_spec (H k) hk⟩
theorem Up.grown {w A W : World} {q D B : Nat} {c : Int} {row : Option Nat} (h : Up w q D c A) (hB : w.heap.size ≤ B) (hg : A.grownBy W row) (hr : ∀ r, row = some r → B ≤ r ∧ ∃ o : Obj, A.heap[r]? = some o ∧ o.isCells = false) : Up w q D c W := by
  have hr2 := fun r e => (hr r e).2
  exact ⟨(grown_cells h.b0 hg hr2).trans h.b0, (grown_cells h.b1 hg hr2).trans h.b1, below_grown h.old hB hg (fun r e => (hr r e).1)⟩
set_option maxRecDepth 100000 in
set_option maxHeartbeats 8000000 in
theorem pdUnpack_form {D R : Nat} {its : List Im} {w : World} (h : Dct D R its w) (v : Value) (L : List Sl) (hWd : Wide 3 slC w v L) (hL : L.length ≤ 8796093022000) (vb : Value) (l : List UInt8) (hB : Bytes w vb l) (hC : Cp vb) (hl : l.length < 9223372036854775808) (hc : ckC its true L = 0) (hm : Mn its) (hs : szC L ≤ l.length)
    (hf : ¬ ∀ k, k < L.length → wc its (L.getD k Sl.nul).ix (L.getD k Sl.nul).sb (pcL L l k) = 0) :
    Calls Try.prog 8 #[.pointer (some ⟨D, 0, none⟩), v, vb] w fun e w' => e = .returned (.int .i64 8) ∧ Below w.heap.size w w' := by
  obtain ⟨bp, hbp⟩ := parts13 hB hC hm hc hs
  obtain ⟨ao, cap, hv⟩ := hWd.shape
  have HBY := hidOf hB
  obtain ⟨ab, cb, hvb, _⟩ := hB
  obtain ⟨N, hN⟩ : ∃ N, L.length = N := ⟨_, rfl⟩
  rw [hN] at hv
  subst hv
  obtain ⟨q, hq⟩ : ∃ q, w.heap.size = q := ⟨_, rfl⟩
  have HU0 := Up.start w D
  obtain ⟨w1, hw1⟩ : ∃ x, w.alloc (.cells #[.pointer (some ⟨D, 0, none⟩)] 31) = x := ⟨_, rfl⟩
  obtain ⟨w2, hw2⟩ : ∃ x, w1.alloc (.cells #[.int .i64 0] 29) = x := ⟨_, rfl⟩
  rw [hw1, hw2, hq] at HU0
  have s1 : w1.heap.size = q + 1 := by rw [← hw1, size_alloc, hq]
  have b1 : Below w.heap.size w w2 := HU0.old
  have c1 : w2.cell? ⟨q, 0, none⟩ = some (.pointer (some ⟨D, 0, none⟩)) := Lib.cell_of_heap HU0.b0 0
  have hCk := pdCheck_any (h.below b1) (.slice ao N cap) L (hWd.same b1.size (fun b _ hl => b1.block b hl)) hL true
  rw [hc] at hCk
  have HSZ : Hid (∀ X, Below w.heap.size w X → Calls Try.prog 14 #[.slice ao N cap] X fun e w' => e = .returned (.int .i64 (szC L : Nat)) ∧ Below X.heap.size X w') := fun X hX => pdSize_any (.slice ao N cap) L (hWd.same hX.size (fun b _ hl => hX.block b hl)) hL
  have HU := hidOf HU0
  obtain ⟨m, hm1⟩ : ∃ m, szC L = m := ⟨_, rfl⟩
  obtain ⟨n, hn1⟩ : ∃ n, l.length = n := ⟨_, rfl⟩
  rw [hm1, hn1] at hs
  have HM := hidOf hm1
  have d2 : decide ((n : Int) < (m : Int)) = false := by simp; omega
  rw [hn1] at hvb
  have HD := hidOf h
  have HWD := hidOf hWd
  have HN := hidOf hN
  have HMN := hidOf hm
  have HC := hidOf hc
  have HBP := hidOf hbp
  have HFF := hidOf hf
  subst hvb
  clear h hWd b1 hN HU0 hc hm1 hn1 hl hbp hf hm hC
  refine (callsIn_wide (n := 4)).1 ?_
  refine callsIn_of_wp_marks Try.func8 rfl trivial ?_ rfl
  simp only [Try.ntmps8, List.size_toArray, List.length_cons, List.length_nil, Nat.reduceAdd, Nat.reduceSub, Array.replicate_succ, Array.replicate_zero, List.push_toArray, List.append_toArray, List.nil_append, List.cons_append]
  gi_wp2_with (refine ⟨trivial, ?_⟩; first | (gi_at_call 18; refine (callsIn_wide.2 hCk).mono ?_; rintro e X3 ⟨rfl, b3⟩; have HU3 := hidOf (HU.out.below b3); have hS3 := HSZ.out X3 HU3.out.old; clear b3) | (gi_at_call 14; refine (callsIn_wide.2 hS3).mono ?_; rw [HM.out]; rintro e X4 ⟨rfl, b4⟩; have HU4 := hidOf (HU3.out.below b4); clear b4) | (gi_at_call 19; refine (pieces_in Fence.wide 3 trivial rfl _ _ _ _ _ _ _).mono ?_; rintro e w' ⟨rfl, rfl⟩))
  have s4 := HU4.out.old.size
  have hqX := (Array.getElem?_eq_some_iff.1 HU4.out.b1).1
  obtain ⟨g, hg⟩ : ∃ g, X4.heap.size = g := ⟨_, rfl⟩
  rw [hg] at s4 hqX
  obtain ⟨v2, hv2⟩ : ∃ x, X4.alloc (.cells #[.slice ao N cap] 23) = x := ⟨_, rfl⟩
  obtain ⟨w5, hw5⟩ : ∃ x, v2.alloc (.cells #[.slice ab n cb] 24) = x := ⟨_, rfl⟩
  rw [hg, hv2, hw5]
  have sv2 : v2.heap.size = g + 1 := by rw [← hv2, size_alloc, hg]
  have s5 : w5.heap.size = g + 2 := by rw [← hw5, size_alloc, sv2]
  have bv2 : Below X4.heap.size X4 v2 := by rw [← hv2]; exact (Below.refl _ _).alloc (Nat.le_refl _) _
  have bv3 : Below v2.heap.size v2 w5 := by rw [← hw5]; exact (Below.refl _ _).alloc (Nat.le_refl _) _
  have U5 : Up w q D 0 w5 := (HU4.out.below bv2).below bv3
  have y2 : w5.heap[g]? = some (.cells #[.slice ao N cap] 23 (0, 0)) := (bv3.block g (by omega)).trans (by rw [← hv2, ← hg]; exact heap_alloc_new X4 _)
  have y3 : w5.heap[g + 1]? = some (.cells #[.slice ab n cb] 24 (0, 0)) := by rw [← hw5, ← sv2]; exact heap_alloc_new v2 _
  have hNL := HN.out
  have hseq := pieces_seqN g (g + 1) ao ab N cap n cb L hNL hL (off L) bp w5 y2 y3 (HWD.out.same U5.old.size (fun b _ hl => U5.old.block b hl)) (fun k hk => off_ask HC.out k (by omega)) (fun k hk W => (HBP.out k (by omega)).1 W)
  have hOB : ∀ b, (Value.slice ao N cap).ownBlock = some b → 0 < L.length → b < q := fun b hb h0 => by
    obtain ⟨ao', cap', he, _, hc⟩ := HWD.out
    injection he with he
    obtain ⟨b', off, ha, hlt, _⟩ := hc 0 h0
    rw [he, ha] at hb
    simp [Value.ownBlock] at hb
    omega
  have hBl : ∀ b ∈ bks (g + 1) (.slice ao N cap) L.length, b < g + 2 ∧ b ≠ q ∧ b ≠ q + 1 := fun b hb => by
    unfold bks at hb
    simp only [List.mem_cons] at hb
    rcases hb with rfl | hb
    · omega
    · split at hb
      · have := hOB b (by simpa using hb) (by assumption)
        omega
      · cases hb
  refine rf_over (gf := 36) (lb := #[.pointer (some ⟨g, 0, none⟩), .pointer (some ⟨g + 1, 0, none⟩)]) rfl (enters_of Try.func36 (by kernel_rfl) rfl) hseq (fun _ => rfl) (fun b hb => by rw [s5]; exact (hBl b hb).1)
    (fun k X => Up w q D 0 X ∧ ∀ j, j < k → wc its (L.getD j Sl.nul).ix (L.getD j Sl.nul).sb (pcL L l j) = 0) (fun _ X => Up w q D 8 X) ?hI ?hIx ?h0 ?round ?done ?stop
  case hI => exact fun k A B row hs hg hr => ⟨hs.1.grown (B := w5.heap.size) (by omega) hg hr, hs.2⟩
  case hIx => exact fun k A B row hs hg hr => hs.grown (B := w5.heap.size) (by omega) hg hr
  case h0 => exact ⟨U5, fun j hj => by omega⟩
  case round =>
    rintro l' k X ⟨hP, hPz⟩ hk hl hlX
    obtain ⟨s, hs⟩ : ∃ s, L.getD k Sl.nul = s := ⟨_, rfl⟩
    obtain ⟨pv, hpv⟩ : ∃ p, bp k = p := ⟨_, rfl⟩
    obtain ⟨X1, hX1⟩ : ∃ x, X.alloc (.cells #[.int .u16 (s.ix : Int), .int .u8 (s.sb : Int), .int .i64 s.bt] 47) = x := ⟨_, rfl⟩
    have b9 : Below X.heap.size X X1 := by rw [← hX1]; exact (Below.refl _ _).alloc (Nat.le_refl _) _
    have hz : Sb X.heap.size s X1 := by rw [← hX1]; exact heap_alloc_new X _
    have sX1 : X1.heap.size = X.heap.size + 1 := by rw [← hX1, size_alloc]
    have hXs : g + 2 < X.heap.size ∨ g + 2 = X.heap.size := by omega
    refine ⟨fun a1 V => a1 = { tmps := #[.pointer (some ⟨D, 0, none⟩), .slice ao N cap, .slice ab n cb, .pointer (some ⟨q, 0, none⟩), undef, undef, .pointer (some ⟨q + 1, 0, none⟩), .pointer (some ⟨X.heap.size, 0, none⟩), pv, undef, undef, .bool false, .pointer (some ⟨D, 0, none⟩), .slice ao N cap, .int .u32 0, .bool false, .bool false, .slice ab n cb, .int .i64 (n : Int), .slice ao N cap, .int .i64 (m : Int), .bool false, .slice ao N cap, .slice ab n cb, .func (.func 36) #[] #[.pointer (some ⟨g, 0, none⟩), .pointer (some ⟨g + 1, 0, none⟩)], .agg s.arr, pv, undef, undef, undef, undef, undef, undef, undef, undef, undef, undef, undef, undef, undef, undef, undef, undef, undef, undef, undef, undef], defers := [] } ∧ V = X1, ?_, ?_⟩
    · have HF : Hid (Ka (bks (g + 1) (.slice ao N cap) L.length) w5.heap.size X X1) := Ka.below b9 (fun b hb => by have := hBl b hb; omega)
      simp only [pcV]
      rw [hs, hpv]
      simp only [Sl.arr, slC]
      clear hz b9 hP hseq hCk hS3 y2 y3 hPz hs hpv
      gi_wp2
      refine ⟨HF.out, ?_, ?_⟩ <;> first | trivial | rfl
    · rintro a1 V Y ⟨rfl, hV⟩ ⟨r, r', hr, hYe⟩
      rw [hV] at hr hYe
      have sY : Y.heap.size = X.heap.size + 1 := by rw [hYe]; simpa [World.putObj] using sX1
      have PY : Up w q D 0 Y := by
        rw [hYe]
        exact (hP.below b9).grown (B := w5.heap.size) (by omega) (grownBy_putObj' X1 l' _) (fun r0 e => by cases e; exact ⟨hl, _, hr, rfl⟩)
      have zY : Sb X.heap.size s Y := by rw [hYe]; exact (World.putObj_heap_other (by omega)).trans hz
      have y5 : Y.cell? ⟨q, 0, none⟩ = some (.pointer (some ⟨D, 0, none⟩)) := Lib.cell_of_heap PY.b0 0
      have z0 := zY.c0
      have z1 := zY.c1
      have z2 := zY.c2
      have hMy := May_any (HD.out.below PY.old) s.ix s.sb s.hx s.hs pv (pcL L l k) (by rw [← hpv]; exact (HBP.out k (by omega)).2 Y (HBY.out.below PY.old))
      obtain ⟨cc, hcc⟩ : ∃ c, wc its s.ix s.sb (pcL L l k) = c := ⟨_, rfl⟩
      rw [hcc] at hMy
      have HCC : Hid (wc its (L.getD k Sl.nul).ix (L.getD k Sl.nul).sb (pcL L l k) = cc) := by show _ = _; rw [hs, hcc]
      have HPY := hidOf PY
      have HPZ := hidOf hPz
      have HBLe := hidOf hBl
      have HS5 := hidOf s5
      have HXS := hidOf hXs
      clear hz b9 hP hseq hCk hS3 y2 y3 PY zY hr hYe hs hpv hBl hOB s5 hPz hcc hXs
      by_cases h0 : cc = 0
      · have d3 : ((cc : Int) != 0) = false := by simp; omega
        gi_wp2_with (refine ⟨trivial, ?_⟩; gi_at_call 20; refine (CallsIn.inRound l' (callsIn_wide.2 hMy)).mono ?_; rintro e X5 ⟨rfl, b5⟩; have HB5 := hidOf b5; clear b5)
        have hs5 := HS5.out
        have b5 := HB5.out
        refine ⟨Ka.below b5 (fun b hb => by have := HBLe.out b hb; have := HXS.out; omega), HPY.out.below b5, fun j hj => ?_⟩
        by_cases hjk : j = k
        · subst hjk; rw [HCC.out]; exact h0
        · exact HPZ.out j (by omega)
      · have d3 : ((cc : Int) != 0) = true := by simp; omega
        gi_wp2_with (refine ⟨trivial, ?_⟩; gi_at_call 20; refine (CallsIn.inRound l' (callsIn_wide.2 hMy)).mono ?_; rintro e X5 ⟨rfl, b5⟩; have HB5 := hidOf b5; have HU5 := hidOf (HPY.out.below b5); have c3 := HU5.out.c; have f3 : X5.frozen? ⟨q + 1, 0, none⟩ = false := Lib.frozen_of_heap HU5.out.b1 0; clear b5)
        have hs5 := HS5.out
        have b5 := HB5.out
        have hxs := HXS.out
        exact ⟨⟨fun b hb => (by cases hb), by simpa [World.setCell] using b5.size, fun j h1 h2 => (Below.heap_setCell X5 ⟨q + 1, 0, none⟩ _ j (by show j ≠ q + 1; omega)).trans (b5.block j h2)⟩, HU5.out.set (by omega) 8⟩
  case done =>
    rintro DD X hD ⟨_, hz⟩ hK
    exact absurd (fun k hk => hz k (by omega)) HFF.out
  case stop =>
    rintro DD k X hD hk hU hK
    have hU2 := hU.grown (B := w5.heap.size) (by omega) (grownBy_putObj' X DD (.deferred none)) (fun r0 e => by cases e; exact ⟨hD, _, hK, rfl⟩)
    have c9 := hU2.c
    have HU2 := hidOf hU2
    clear hU hU2 hseq hCk hS3 y2 y3 hBl hOB
    gi_wp2
    refine ⟨by simp, .inl ⟨_, _, rfl, run_takeDeferred hK, ?_⟩⟩
    exact ⟨.int .i64 8, by simp [results, Try.results8, asAddr, go_sem, run_underlying Try.underlying29, c9], rfl, HU2.out.old⟩
end Go.Proofs.Ythalhidebkhclaa
