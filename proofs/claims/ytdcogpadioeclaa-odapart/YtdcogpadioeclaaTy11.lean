/- Contracts of the document's own: Decode. -/
import Derived.Test.YtdcogpadioeclaaTy10
import Derived.Test.YtdcogpadioeclaaTyD
namespace Go.Proofs.Ytdcogpadioeclaa
open Go.RowKit Go.Proofs.Ty
set_option linter.unusedVariables false
set_option maxRecDepth 1000000
theorem wide_dec {t : Int} {l : List UInt8} (h : 0 < siz t) (hl : l.length = siz t) : wideN (kind t == 2) l = decN t l := by
  have hk : kind t = 1 ∨ kind t = 2 := by
    have := siz_zero t
    omega
  rcases hk with hk | hk
  · rw [hk, decN, if_pos hk, wideN, if_neg (by simp)]
  · rw [hk, decN, if_neg (by omega), if_pos hk]
    have e := low_join l
    rw [hl] at e
    rw [← wide_low (joinL l) (siz t) (wid t) (sz2 hk), e]
    rfl
theorem decN_lt {t : Int} {l : List UInt8} (h : 0 < siz t) (hl : l.length = siz t) : decN t l < 18446744073709551616 := by
  have h8 := siz_le t
  unfold decN
  split
  · exact join8 (by omega)
  · split
    · rename_i h1 h2
      exact extN_lt _ _ (kind_wid2 h2)
    · omega
theorem rdec_results {Q : Nat} {v : Vl} {e : Int} {w : World} (h : Va Q v w) (tmps : Array Value) (h4 : tmps[4]?.getD undef = .pointer (some ⟨Q, 0, none⟩)) (h5 : tmps[5]?.getD undef = .int .i64 e) :
    (results Try.f54 tmps).run Try.prog w = .ok (.tuple #[.agg v.arr, .int .i64 e]) w := by
  have l0 := h.load
  simp [Go.results, Try.results54, h4, h5, asAddr, l0]
set_option maxHeartbeats 1000000 in
theorem r7Decode_v (t : Int) (ht : -9223372036854775808 ≤ t ∧ t < 9223372036854775808) (x : Value) (l : List UInt8) (w : World) (hB : Bytes w x l) :
    Calls Try.prog 54 #[.int .i64 t, x] w fun e w' => e = .returned (.tuple #[.agg (decW t l).arr, .int .i64 (decE t l)]) ∧ Below w.heap.size w w' := by
  have fA : Va w.heap.size Vl.nul (w.alloc (.cells #[.int .i64 0, .int .u64 0, .string ⟨#[]⟩] 33)) := Va.new w Vl.nul
  have bA : Below w.heap.size w (w.alloc (.cells #[.int .i64 0, .int .u64 0, .string ⟨#[]⟩] 33)) := (Below.refl _ _).alloc (Nat.le_refl _) _
  have sA := size_alloc w (.cells #[.int .i64 0, .int .u64 0, .string ⟨#[]⟩] 33)
  obtain ⟨W, hW⟩ : ∃ W, w.alloc (.cells #[.int .i64 0, .int .u64 0, .string ⟨#[]⟩] 33) = W := ⟨_, rfl⟩
  rw [hW] at fA bA sA
  have BW := hB.below bA
  have hI := r7Is_any t
  have hS := r7Size_any t
  have HF : Hid (fitE t l.length = if kind t = 0 then 1 else if l.length < siz t then 3 else if (0 < siz t ∧ siz t < l.length) ∨ 65536 < l.length then 2 else 0) := rfl
  have HE : Hid (decE t l = if fitE t l.length ≠ 0 then fitE t l.length else if chk t (decN t l) (decS t l) ≠ 0 then 8 else 0) := rfl
  have HW : Hid (decW t l = if decE t l = 0 then mkV t (decN t l) (decS t l) else Vl.nul) := rfl
  have hx : ∃ ao cap, x = .slice ao l.length cap := by obtain ⟨ao, cap, h, _⟩ := hB; exact ⟨ao, cap, h⟩
  obtain ⟨ao, cap, rfl⟩ := hx
  have hWd := hidOf (@wide_dec t l)
  have hDl := hidOf (@decN_lt t l)
  have hDS := hidOf (show 0 < siz t → decS t l = ⟨#[]⟩ by
    intro h
    have := siz_zero t
    unfold decS
    rw [if_pos (by omega)])
  have hDT := hidOf (show ¬ 0 < siz t → decS t l = ⟨l.toArray⟩ ∧ decN t l = 0 by
    intro h
    have := siz_zero t
    unfold decS decN
    rw [if_neg (by omega), if_neg (by omega), if_neg (by omega)]
    exact ⟨rfl, rfl⟩)
  have hwide := fun h w hB => r7Wide_v t (.slice ao l.length cap) l w h hB
  have h8 := siz_le t
  generalize hdE : decE t l = E at *
  generalize decW t l = V at *
  generalize fitE t l.length = F at *
  obtain ⟨q, hq⟩ : ∃ q, w.heap.size = q := ⟨_, rfl⟩
  rw [hq] at fA sA
  have D4 := fA.row Vl.nul
  have B4 := below_row bA (by omega : w.heap.size ≤ q) (by omega) Vl.nul.arr
  go_enter Try.func54, Try.ntmps54
  by_cases h0 : kind t = 0
  · have dk : (kind t != 0) = false := by simp [h0]
    rw [dk] at hI
    have e0 := hidOf (show F = 1 by rw [HF.out, if_pos h0])
    have e1 := hidOf (show E = 1 by rw [HE.out, e0.out]; simp)
    have e2 := hidOf (show V = Vl.nul by rw [HW.out, if_neg (by rw [e1.out]; decide)])
    clear HE HW HF
    go_wp2_with (first | (go_at_call 42; refine (hI _).mono ?_; rintro e w2 ⟨rfl, rfl⟩) | refine fA.sd Vl.nul rfl _ _ rfl rfl rfl ?_)
    exact bodyPost_ret (rdec_results D4 _ rfl rfl) rfl ⟨by rw [e1.out, e2.out]; rfl, B4⟩
  · have dk : (kind t != 0) = true := by simp [h0]
    rw [dk] at hI
    have f1 := fA.alloc (.cells #[.int .i64 t, .int .u64 0, .string ⟨#[]⟩] 33)
    have g1 : Va W.heap.size (⟨t, 0, ⟨#[]⟩, ht, by decide, by decide⟩ : Vl) (W.alloc (.cells #[.int .i64 t, .int .u64 0, .string ⟨#[]⟩] 33)) := Va.new W _
    have b1 : Below W.heap.size W (W.alloc (.cells #[.int .i64 t, .int .u64 0, .string ⟨#[]⟩] 33)) := (Below.refl _ _).alloc (Nat.le_refl _) _
    have B1 := bA.trans (b1.mono (by omega))
    have BY := BW.below b1
    rw [sA] at g1
    have l1 := f1.lt
    clear D4 B4
    have D5 := f1.row Vl.nul
    have B5 := below_row B1 (by omega : w.heap.size ≤ q) (by omega) Vl.nul.arr
    have HR := hidOf (And.intro f1 (And.intro g1 (And.intro B1 BY)))
    by_cases hs3 : l.length < siz t
    · have e0 := hidOf (show F = 3 by rw [HF.out, if_neg h0, if_pos hs3])
      have e1 := hidOf (show E = 3 by rw [HE.out, e0.out]; simp)
      have e2 := hidOf (show V = Vl.nul by rw [HW.out, if_neg (by rw [e1.out]; decide)])
      have d3 : decide ((l.length : Int) < (siz t : Int)) = true := decide_eq_true (by omega)
      clear HE HW HF
      go_wp2_with (first | (go_at_call 42; refine (hI _).mono ?_; rintro e w2 ⟨rfl, rfl⟩) | (go_at_call 41; refine (hS _).mono ?_; rintro e w2 ⟨rfl, rfl⟩) | refine f1.sd Vl.nul rfl _ _ rfl rfl rfl ?_)
      exact bodyPost_ret (rdec_results D5 _ rfl rfl) rfl ⟨by rw [e1.out, e2.out]; rfl, B5⟩
    · have d3 : decide ((l.length : Int) < (siz t : Int)) = false := decide_eq_false (by omega)
      by_cases hz : 0 < siz t
      · have dz : decide ((0 : Int) < (siz t : Int)) = true := decide_eq_true (by omega)
        by_cases hg : siz t < l.length
        · have dg : decide ((siz t : Int) < (l.length : Int)) = true := decide_eq_true (by omega)
          have e0 := hidOf (show F = 2 by rw [HF.out, if_neg h0, if_neg hs3, if_pos (.inl ⟨hz, hg⟩)])
          have e1 := hidOf (show E = 2 by rw [HE.out, e0.out]; simp)
          have e2 := hidOf (show V = Vl.nul by rw [HW.out, if_neg (by rw [e1.out]; decide)])
          clear HE HW HF
          go_wp2_with (first | (go_at_call 42; refine (hI _).mono ?_; rintro e w2 ⟨rfl, rfl⟩) | (go_at_call 41; refine (hS _).mono ?_; rintro e w2 ⟨rfl, rfl⟩) | refine f1.sd Vl.nul rfl _ _ rfl rfl rfl ?_)
          exact bodyPost_ret (rdec_results D5 _ rfl rfl) rfl ⟨by rw [e1.out, e2.out]; rfl, B5⟩
        · have dg : decide ((siz t : Int) < (l.length : Int)) = false := decide_eq_false (by omega)
          have dm : decide ((65536 : Int) < (l.length : Int)) = false := decide_eq_false (by omega)
          have hls : l.length = siz t := by omega
          have e0 := hidOf (show F = 0 by rw [HF.out, if_neg h0, if_neg hs3, if_neg (by omega)])
          rw [e0.out] at HE
          have hd := hDl.out hz hls
          have hw2 := hwide (by omega)
          rw [hWd.out hz hls] at hw2
          have hSS := hDS.out hz
          clear hls HF e0 hWd hDl hDS hDT hwide D5 B5 f1 g1 b1 B1 BY fA bA
          go_wp2_with (first | (go_at_call 42; refine (hI _).mono ?_; rintro e w2 ⟨rfl, rfl⟩) | (go_at_call 41; refine (hS _).mono ?_; rintro e w2 ⟨rfl, rfl⟩))
          obtain ⟨f1, g1, B1, BY⟩ := HR.out
          clear HR
          generalize w2.alloc (.cells #[.int .i64 t, .int .u64 0, .string ⟨#[]⟩] 33) = w5 at *
          have c1 := g1.c1
          have c2 := g1.c2
          have fr := g1.frozen
          have fX := f1.other (p := ⟨q + 1, 1, none⟩) (by simp) (.int .u64 (decN t l))
          have gX : Va (q + 1) (⟨t, decN t l, ⟨#[]⟩, ht, hd, by decide⟩ : Vl) (w5.setCell ⟨q + 1, 1, none⟩ (.int .u64 (decN t l))) := g1.setN (decN t l) hd
          have BX := B1.setCell (p := ⟨q + 1, 1, none⟩) (by omega : w.heap.size ≤ q + 1) (.int .u64 (decN t l))
          have hC := r7Check_v (⟨t, decN t l, ⟨#[]⟩, ht, hd, by decide⟩ : Vl)
          have hu : (⟨t, decN t l, ⟨#[]⟩, ht, hd, by decide⟩ : Vl).chk = chk t (decN t l) (decS t l) := by rw [hSS]; rfl
          have hV : mkV t (decN t l) (decS t l) = (⟨t, decN t l, ⟨#[]⟩, ht, hd, by decide⟩ : Vl) := by rw [hSS]; exact mkV_eq _ _ _
          rw [hu] at hC
          rw [hV] at HW
          clear hu hV
          generalize hUU : (⟨t, decN t l, ⟨#[]⟩, ht, hd, by decide⟩ : Vl) = U at *
          clear hUU
          refine (hw2 _ BY).mono ?_
          rintro e w5 ⟨rfl, rfl⟩
          go_wp2_with (refine gX.ld rfl _ rfl rfl ?_)
          refine (hC _).mono ?_
          rintro e w3 ⟨rfl, b3⟩
          have f3 := fX.below b3
          have g3 := gX.below b3
          have B3 := BX.trans (b3.mono (by have := fX.lt; omega))
          have s3 := b3.size
          by_cases hc : chk t (decN t l) (decS t l) = 0
          · have e1 := hidOf (show E = 0 by rw [HE.out]; simp [hc])
            have e2 := hidOf (show V = U by rw [HW.out, if_pos e1.out])
            rw [hc]
            have D4 := f3.row U
            have B4 := below_row B3 (by omega : w.heap.size ≤ q) (by have := f3.lt; omega) U.arr
            clear HE HW
            go_wp2_with (first | refine g3.ld rfl _ rfl rfl ?_ | refine f3.sd U rfl _ _ rfl rfl rfl ?_)
            exact bodyPost_ret (rdec_results D4 _ rfl rfl) rfl ⟨by rw [e1.out, e2.out]; rfl, B4⟩
          · have e1 := hidOf (show E = 8 by rw [HE.out]; simp [hc])
            have e2 := hidOf (show V = Vl.nul by rw [HW.out, if_neg (by rw [e1.out]; decide)])
            have d0 : ((chk t (decN t l) (decS t l) : Int) != 0) = true := by simpa using hc
            generalize chk t (decN t l) (decS t l) = C at *
            have D4 := f3.row Vl.nul
            have B4 := below_row B3 (by omega : w.heap.size ≤ q) (by have := f3.lt; omega) Vl.nul.arr
            clear HE HW
            go_wp2_with (first | refine f3.sd Vl.nul rfl _ _ rfl rfl rfl ?_)
            exact bodyPost_ret (rdec_results D4 _ rfl rfl) rfl ⟨by rw [e1.out, e2.out]; rfl, B4⟩
      · have dz : decide ((0 : Int) < (siz t : Int)) = false := decide_eq_false (by omega)
        by_cases hg : 65536 < l.length
        · have dg : decide ((65536 : Int) < (l.length : Int)) = true := decide_eq_true (by omega)
          have e0 := hidOf (show F = 2 by rw [HF.out, if_neg h0, if_neg hs3, if_pos (.inr hg)])
          have e1 := hidOf (show E = 2 by rw [HE.out, e0.out]; simp)
          have e2 := hidOf (show V = Vl.nul by rw [HW.out, if_neg (by rw [e1.out]; decide)])
          clear HE HW HF
          go_wp2_with (first | (go_at_call 42; refine (hI _).mono ?_; rintro e w2 ⟨rfl, rfl⟩) | (go_at_call 41; refine (hS _).mono ?_; rintro e w2 ⟨rfl, rfl⟩) | refine f1.sd Vl.nul rfl _ _ rfl rfl rfl ?_)
          exact bodyPost_ret (rdec_results D5 _ rfl rfl) rfl ⟨by rw [e1.out, e2.out]; rfl, B5⟩
        · have dg : decide ((65536 : Int) < (l.length : Int)) = false := decide_eq_false (by omega)
          have e0 := hidOf (show F = 0 by rw [HF.out, if_neg h0, if_neg hs3, if_neg (by omega)])
          rw [e0.out] at HE
          obtain ⟨hSS, hNN⟩ := hDT.out hz
          have hTx := hidOf BY.text
          have hs : (⟨l.toArray⟩ : ByteArray).size ≤ maxLen := by
            simp only [ByteArray.size, List.size_toArray, maxLen]
            omega
          clear HF e0 hWd hDl hDS hDT hwide D5 B5
          have fr := g1.frozen
          have c2 := g1.c2
          have hTy := hTx.out
          have fX := fA.alloc (.cells #[.int .i64 t, .int .u64 0, .string ⟨l.toArray⟩] 33)
          have gX : Va (q + 1) (⟨t, 0, ⟨l.toArray⟩, ht, by decide, hs⟩ : Vl) (W.alloc (.cells #[.int .i64 t, .int .u64 0, .string ⟨l.toArray⟩] 33)) := by have := Va.new W (⟨t, 0, ⟨l.toArray⟩, ht, by decide, hs⟩ : Vl); rw [sA] at this; exact this
          have BX := bA.trans (((Below.refl _ _).alloc (Nat.le_refl _) (.cells #[.int .i64 t, .int .u64 0, .string ⟨l.toArray⟩] 33)).mono (by omega))
          have hC := r7Check_v (⟨t, 0, ⟨l.toArray⟩, ht, by decide, hs⟩ : Vl)
          have hu : (⟨t, 0, ⟨l.toArray⟩, ht, by decide, hs⟩ : Vl).chk = chk t (decN t l) (decS t l) := by rw [hSS, hNN]; rfl
          have hV : mkV t (decN t l) (decS t l) = (⟨t, 0, ⟨l.toArray⟩, ht, by decide, hs⟩ : Vl) := by rw [hSS, hNN]; exact mkV_eq _ _ _
          rw [hu] at hC
          rw [hV] at HW
          clear hu hV
          generalize hUU : (⟨t, 0, ⟨l.toArray⟩, ht, by decide, hs⟩ : Vl) = U at *
          clear hUU
          go_wp2_with (first | (go_at_call 42; refine (hI _).mono ?_; rintro e w2 ⟨rfl, rfl⟩) | (go_at_call 41; refine (hS _).mono ?_; rintro e w2 ⟨rfl, rfl⟩) | refine gX.ld rfl _ rfl rfl ?_)
          refine (hC _).mono ?_
          rintro e w3 ⟨rfl, b3⟩
          have f3 := fX.below b3
          have g3 := gX.below b3
          have B3 := BX.trans (b3.mono (by have := fX.lt; omega))
          have s3 := b3.size
          by_cases hc : chk t (decN t l) (decS t l) = 0
          · have e1 := hidOf (show E = 0 by rw [HE.out]; simp [hc])
            have e2 := hidOf (show V = U by rw [HW.out, if_pos e1.out])
            rw [hc]
            have D4 := f3.row U
            have B4 := below_row B3 (by omega : w.heap.size ≤ q) (by have := f3.lt; omega) U.arr
            clear HE HW
            go_wp2_with (first | refine g3.ld rfl _ rfl rfl ?_ | refine f3.sd U rfl _ _ rfl rfl rfl ?_)
            exact bodyPost_ret (rdec_results D4 _ rfl rfl) rfl ⟨by rw [e1.out, e2.out]; rfl, B4⟩
          · have e1 := hidOf (show E = 8 by rw [HE.out]; simp [hc])
            have e2 := hidOf (show V = Vl.nul by rw [HW.out, if_neg (by rw [e1.out]; decide)])
            have d0 : ((chk t (decN t l) (decS t l) : Int) != 0) = true := by simpa using hc
            generalize chk t (decN t l) (decS t l) = C at *
            have D4 := f3.row Vl.nul
            have B4 := below_row B3 (by omega : w.heap.size ≤ q) (by have := f3.lt; omega) Vl.nul.arr
            clear HE HW
            go_wp2_with (first | refine f3.sd Vl.nul rfl _ _ rfl rfl rfl ?_)
            exact bodyPost_ret (rdec_results D4 _ rfl rfl) rfl ⟨by rw [e1.out, e2.out]; rfl, B4⟩
end Go.Proofs.Ytdcogpadioeclaa
