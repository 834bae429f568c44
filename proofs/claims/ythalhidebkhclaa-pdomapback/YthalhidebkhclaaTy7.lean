/- Contracts: Decode. -/
import Derived.Test.YthalhidebkhclaaTyD
namespace Go.Proofs.Ythalhidebkhclaa
open Go.RowKit Go.Proofs.Ty
set_option linter.unusedVariables false
set_option maxRecDepth 1000000
theorem dec_results {Q : Nat} {v : Vl} {e : Int} {w : World} (h : Va Q v w) (tmps : Array Value) (h4 : tmps[4]?.getD undef = .pointer (some ⟨Q, 0, none⟩)) (h5 : tmps[5]?.getD undef = .int .i64 e) :
    (results Try.f56 tmps).run Try.prog w = .ok (.tuple #[.agg v.arr, .int .i64 e]) w := by
  have l0 := h.load
  simp [Go.results, Try.results56, h4, h5, asAddr, l0]
set_option maxHeartbeats 1000000 in
theorem Decode_v (t : Int) (ht : -9223372036854775808 ≤ t ∧ t < 9223372036854775808) (x : Value) (l : List UInt8) (w : World) (hB : Bytes w x l) :
    Calls Try.prog 56 #[.int .i64 t, x] w fun e w' => e = .returned (.tuple #[.agg (decW t l).arr, .int .i64 (decE t l)]) ∧ Below w.heap.size w w' := by
  have fA : Va w.heap.size Vl.nul (w.alloc (.cells #[.int .i64 0, .int .u64 0, .string ⟨#[]⟩] 42)) := Va.new w Vl.nul
  have bA : Below w.heap.size w (w.alloc (.cells #[.int .i64 0, .int .u64 0, .string ⟨#[]⟩] 42)) := (Below.refl _ _).alloc (Nat.le_refl _) _
  have sA := size_alloc w (.cells #[.int .i64 0, .int .u64 0, .string ⟨#[]⟩] 42)
  obtain ⟨W, hW⟩ : ∃ W, w.alloc (.cells #[.int .i64 0, .int .u64 0, .string ⟨#[]⟩] 42) = W := ⟨_, rfl⟩
  rw [hW] at fA bA sA
  have BW := hB.below bA
  have hF := fits_v t l.length
  have HE : Hid (decE t l = if fitE t l.length ≠ 0 then fitE t l.length else if chk t (decN t l) (decS t l) ≠ 0 then 8 else 0) := rfl
  have HW : Hid (decW t l = if decE t l = 0 then mkV t (decN t l) (decS t l) else Vl.nul) := rfl
  have HF := hidOf (@fit_zero t l.length)
  have hK := kindOf_any t
  have hN : decN t l = if kind t = 1 then joinL l else if kind t = 2 then extN (wid t) (joinL l) else 0 := rfl
  have hD : decS t l = if kind t = 1 ∨ kind t = 2 then ⟨#[]⟩ else ⟨l.toArray⟩ := rfl
  have HX := extend_any t
  have hz := siz_zero t
  have h8 := siz_le t
  have HL := hidOf (@extN_lt (wid t) (joinL l))
  have HW2 := hidOf (@kind_wid2 t)
  have hx : ∃ ao cap, x = .slice ao l.length cap := by obtain ⟨ao, cap, h, _⟩ := hB; exact ⟨ao, cap, h⟩
  obtain ⟨ao, cap, rfl⟩ := hx
  generalize hdE : decE t l = E at *
  generalize decW t l = V at *
  generalize fitE t l.length = F at *
  obtain ⟨q, hq⟩ : ∃ q, w.heap.size = q := ⟨_, rfl⟩
  rw [hq] at fA sA
  go_enter Try.func56, Try.ntmps56
  by_cases h0 : F = 0
  · subst h0
    have H0 := HF.out rfl
    have f1 := fA.alloc (.cells #[.int .i64 t, .int .u64 0, .string ⟨#[]⟩] 42)
    have g1 : Va W.heap.size (⟨t, 0, ⟨#[]⟩, ht, by decide, by decide⟩ : Vl) (W.alloc (.cells #[.int .i64 t, .int .u64 0, .string ⟨#[]⟩] 42)) := Va.new W _
    have b1 : Below W.heap.size W (W.alloc (.cells #[.int .i64 t, .int .u64 0, .string ⟨#[]⟩] 42)) := (Below.refl _ _).alloc (Nat.le_refl _) _
    have B1 := bA.trans (b1.mono (by omega))
    have BY := BW.below b1
    rw [sA] at g1
    go_wp2_with (go_at_call 70; refine (hF _).mono ?_; rintro e w2 ⟨rfl, rfl⟩)
    refine (hK _).mono ?_
    rintro e w5 ⟨rfl, hw5⟩
    rw [← hw5] at f1 g1 B1 BY
    clear hw5 b1
    have c1 := g1.c1
    have c2 := g1.c2
    have fr := g1.frozen
    have hTx := BY.text
    clear hF fA bA BW hK
    by_cases h1 : kind t = 1
    · have hl8 : l.length ≤ 8 := by
        have := H0.2.1 (by omega)
        omega
      have hJ := joined_v _ l w5 hl8 BY
      have hj := join8 hl8
      rw [h1]
      have fX := f1.other (p := ⟨q + 1, 1, none⟩) (by simp) (.int .u64 (joinL l))
      have gX : Va (q + 1) (⟨t, joinL l, ⟨#[]⟩, ht, hj, by decide⟩ : Vl) (w5.setCell ⟨q + 1, 1, none⟩ (.int .u64 (joinL l))) := g1.setN (joinL l) hj
      have BX := B1.setCell (p := ⟨q + 1, 1, none⟩) (by omega : w.heap.size ≤ q + 1) (.int .u64 (joinL l))
      have hC := Check_v (⟨t, joinL l, ⟨#[]⟩, ht, hj, by decide⟩ : Vl)
      have hu : (⟨t, joinL l, ⟨#[]⟩, ht, hj, by decide⟩ : Vl).chk = chk t (decN t l) (decS t l) := by rw [hN, hD]; simp [h1, Vl.chk]
      have hV : mkV t (decN t l) (decS t l) = (⟨t, joinL l, ⟨#[]⟩, ht, hj, by decide⟩ : Vl) := by rw [hN, hD]; simp only [h1]; exact mkV_eq _ _ _
      rw [hu] at hC
      rw [hV] at HW
      clear hu hV hN hD
      generalize hUU : (⟨t, joinL l, ⟨#[]⟩, ht, hj, by decide⟩ : Vl) = U at *
      clear hUU
      go_wp2_with (first | (go_at_call 71; refine hJ.mono ?_; rintro e w5 ⟨rfl, rfl⟩) | refine gX.ld rfl _ rfl rfl ?_)
      refine (hC _).mono ?_
      rintro e w3 ⟨rfl, b3⟩
      have f3 := fX.below b3
      have g3 := gX.below b3
      have B3 := BX.trans (b3.mono (by have := fX.lt; omega))
      have s3 := b3.size
      by_cases hc : chk t (decN t l) (decS t l) = 0
      · have e1 := hidOf (show E = 0 by rw [HE.out]; simp [hc])
        have e2 := hidOf (show V = U by rw [HW.out, if_pos e1.out])
        rw [hc]
        have D4 := f3.row U
        have B4 := below_row B3 (by omega : w.heap.size ≤ q) (by have := f3.lt; omega) U.arr
        clear HE HW
        go_wp2_with (first | refine g3.ld rfl _ rfl rfl ?_ | refine f3.sd U rfl _ _ rfl rfl rfl ?_)
        exact bodyPost_ret (dec_results D4 _ rfl rfl) rfl ⟨by rw [e1.out, e2.out]; rfl, B4⟩
      · have e1 := hidOf (show E = 8 by rw [HE.out]; simp [hc])
        have e2 := hidOf (show V = Vl.nul by rw [HW.out, if_neg (by rw [e1.out]; decide)])
        have d0 : ((chk t (decN t l) (decS t l) : Int) != 0) = true := by simpa using hc
        generalize chk t (decN t l) (decS t l) = C at *
        have D4 := f3.row Vl.nul
        have B4 := below_row B3 (by omega : w.heap.size ≤ q) (by have := f3.lt; omega) Vl.nul.arr
        clear HE HW
        go_wp2_with (first | refine f3.sd Vl.nul rfl _ _ rfl rfl rfl ?_)
        exact bodyPost_ret (dec_results D4 _ rfl rfl) rfl ⟨by rw [e1.out, e2.out]; rfl, B4⟩
    · by_cases h2 : kind t = 2
      · have hl8 : l.length ≤ 8 := by
          have := H0.2.1 (by omega)
          omega
        have hJ := joined_v _ l w5 hl8 BY
        have hj := join8 hl8
        have hEx := HX (joinL l) hj h2
        have he := HL.out (HW2.out h2)
        rw [h2]
        have fX := f1.other (p := ⟨q + 1, 1, none⟩) (by simp) (.int .u64 (extN (wid t) (joinL l)))
        have gX : Va (q + 1) (⟨t, extN (wid t) (joinL l), ⟨#[]⟩, ht, he, by decide⟩ : Vl) (w5.setCell ⟨q + 1, 1, none⟩ (.int .u64 (extN (wid t) (joinL l)))) := g1.setN (extN (wid t) (joinL l)) he
        have BX := B1.setCell (p := ⟨q + 1, 1, none⟩) (by omega : w.heap.size ≤ q + 1) (.int .u64 (extN (wid t) (joinL l)))
        have hC := Check_v (⟨t, extN (wid t) (joinL l), ⟨#[]⟩, ht, he, by decide⟩ : Vl)
        have hu : (⟨t, extN (wid t) (joinL l), ⟨#[]⟩, ht, he, by decide⟩ : Vl).chk = chk t (decN t l) (decS t l) := by rw [hN, hD]; simp [h2, Vl.chk]
        have hV : mkV t (decN t l) (decS t l) = (⟨t, extN (wid t) (joinL l), ⟨#[]⟩, ht, he, by decide⟩ : Vl) := by rw [hN, hD]; simp only [h2]; exact mkV_eq _ _ _
        rw [hu] at hC
        rw [hV] at HW
        clear hu hV hN hD
        generalize hUU : (⟨t, extN (wid t) (joinL l), ⟨#[]⟩, ht, he, by decide⟩ : Vl) = U at *
        clear hUU
        go_wp2_with (first | (go_at_call 71; refine hJ.mono ?_; rintro e w5 ⟨rfl, rfl⟩) | (go_at_call 66; refine (hEx _).mono ?_; rintro e w5 ⟨rfl, rfl⟩) | refine gX.ld rfl _ rfl rfl ?_)
        refine (hC _).mono ?_
        rintro e w3 ⟨rfl, b3⟩
        have f3 := fX.below b3
        have g3 := gX.below b3
        have B3 := BX.trans (b3.mono (by have := fX.lt; omega))
        have s3 := b3.size
        by_cases hc : chk t (decN t l) (decS t l) = 0
        · have e1 := hidOf (show E = 0 by rw [HE.out]; simp [hc])
          have e2 := hidOf (show V = U by rw [HW.out, if_pos e1.out])
          rw [hc]
          have D4 := f3.row U
          have B4 := below_row B3 (by omega : w.heap.size ≤ q) (by have := f3.lt; omega) U.arr
          clear HE HW
          go_wp2_with (first | refine g3.ld rfl _ rfl rfl ?_ | refine f3.sd U rfl _ _ rfl rfl rfl ?_)
          exact bodyPost_ret (dec_results D4 _ rfl rfl) rfl ⟨by rw [e1.out, e2.out]; rfl, B4⟩
        · have e1 := hidOf (show E = 8 by rw [HE.out]; simp [hc])
          have e2 := hidOf (show V = Vl.nul by rw [HW.out, if_neg (by rw [e1.out]; decide)])
          have d0 : ((chk t (decN t l) (decS t l) : Int) != 0) = true := by simpa using hc
          generalize chk t (decN t l) (decS t l) = C at *
          have D4 := f3.row Vl.nul
          have B4 := below_row B3 (by omega : w.heap.size ≤ q) (by have := f3.lt; omega) Vl.nul.arr
          clear HE HW
          go_wp2_with (first | refine f3.sd Vl.nul rfl _ _ rfl rfl rfl ?_)
          exact bodyPost_ret (dec_results D4 _ rfl rfl) rfl ⟨by rw [e1.out, e2.out]; rfl, B4⟩
      · have d1 : ((kind t : Int) == 1) = false := by simp; omega
        have d2 : ((kind t : Int) == 2) = false := by simp; omega
        have hs : (⟨l.toArray⟩ : ByteArray).size ≤ maxLen := by
          have := H0.2.2
          simp only [ByteArray.size, List.size_toArray, maxLen]
          omega
        have fX := f1.other (p := ⟨q + 1, 2, none⟩) (by simp) (.string ⟨l.toArray⟩)
        have gX : Va (q + 1) (⟨t, 0, ⟨l.toArray⟩, ht, by decide, hs⟩ : Vl) (w5.setCell ⟨q + 1, 2, none⟩ (.string ⟨l.toArray⟩)) := g1.setB ⟨l.toArray⟩ hs
        have BX := B1.setCell (p := ⟨q + 1, 2, none⟩) (by omega : w.heap.size ≤ q + 1) (.string ⟨l.toArray⟩)
        have hC := Check_v (⟨t, 0, ⟨l.toArray⟩, ht, by decide, hs⟩ : Vl)
        have hu : (⟨t, 0, ⟨l.toArray⟩, ht, by decide, hs⟩ : Vl).chk = chk t (decN t l) (decS t l) := by rw [hN, hD]; simp [h1, h2, Vl.chk]
        have hV : mkV t (decN t l) (decS t l) = (⟨t, 0, ⟨l.toArray⟩, ht, by decide, hs⟩ : Vl) := by rw [hN, hD]; simp only [h1, h2]; exact mkV_eq _ _ _
        rw [hu] at hC
        rw [hV] at HW
        clear hu hV hN hD
        generalize hUU : (⟨t, 0, ⟨l.toArray⟩, ht, by decide, hs⟩ : Vl) = U at *
        clear hUU
        go_wp2_with (refine gX.ld rfl _ rfl rfl ?_)
        refine (hC _).mono ?_
        rintro e w3 ⟨rfl, b3⟩
        have f3 := fX.below b3
        have g3 := gX.below b3
        have B3 := BX.trans (b3.mono (by have := fX.lt; omega))
        have s3 := b3.size
        by_cases hc : chk t (decN t l) (decS t l) = 0
        · have e1 := hidOf (show E = 0 by rw [HE.out]; simp [hc])
          have e2 := hidOf (show V = U by rw [HW.out, if_pos e1.out])
          rw [hc]
          have D4 := f3.row U
          have B4 := below_row B3 (by omega : w.heap.size ≤ q) (by have := f3.lt; omega) U.arr
          clear HE HW
          go_wp2_with (first | refine g3.ld rfl _ rfl rfl ?_ | refine f3.sd U rfl _ _ rfl rfl rfl ?_)
          exact bodyPost_ret (dec_results D4 _ rfl rfl) rfl ⟨by rw [e1.out, e2.out]; rfl, B4⟩
        · have e1 := hidOf (show E = 8 by rw [HE.out]; simp [hc])
          have e2 := hidOf (show V = Vl.nul by rw [HW.out, if_neg (by rw [e1.out]; decide)])
          have d0 : ((chk t (decN t l) (decS t l) : Int) != 0) = true := by simpa using hc
          generalize chk t (decN t l) (decS t l) = C at *
          have D4 := f3.row Vl.nul
          have B4 := below_row B3 (by omega : w.heap.size ≤ q) (by have := f3.lt; omega) Vl.nul.arr
          clear HE HW
          go_wp2_with (first | refine f3.sd Vl.nul rfl _ _ rfl rfl rfl ?_)
          exact bodyPost_ret (dec_results D4 _ rfl rfl) rfl ⟨by rw [e1.out, e2.out]; rfl, B4⟩
  · have d0 : ((F : Int) != 0) = true := by simpa using h0
    have e1 := hidOf (show E = F by rw [HE.out]; simp [h0])
    have e2 := hidOf (show V = Vl.nul by rw [HW.out, if_neg (by rw [e1.out]; exact h0)])
    have D4 := fA.row Vl.nul
    have B4 := below_row bA (by omega : w.heap.size ≤ q) (by omega) Vl.nul.arr
    clear HE HW
    go_wp2_with (first | (go_at_call 70; refine (hF _).mono ?_; rintro e w2 ⟨rfl, rfl⟩) | refine fA.sd Vl.nul rfl _ _ rfl rfl rfl ?_)
    exact bodyPost_ret (dec_results D4 _ rfl rfl) rfl ⟨by rw [e1.out, e2.out], B4⟩
end Go.Proofs.Ythalhidebkhclaa
