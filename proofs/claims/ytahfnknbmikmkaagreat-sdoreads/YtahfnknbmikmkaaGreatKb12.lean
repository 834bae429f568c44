/- Contracts of the document's own: Decode. Plain facts on dictionaries: what stays, whatever is written. Steps of the statements on dictionaries. The document's dictionary in memory; its places. -/
import Derived.Test.YtahfnknbmikmkaaGreatKb10
import Derived.Test.YtahfnknbmikmkaaGreatKb3
import Derived.Test.YtahfnknbmikmkaaGreatKb11
import Derived.Test.YtahfnknbmikmkaaGreatKb5
namespace Go.Proofs.YtahfnknbmikmkaaGreat
open Go.RowKit Go.Proofs.Ty
set_option linter.unusedVariables false
set_option maxRecDepth 1000000
theorem wide_dec {t : Int} {l : List UInt8} (h : 0 < siz t) (hl : l.length = siz t) : wideN (kind t == 2) l = decN t l := by
  have hk : kind t = 1 ∨ kind t = 2 := by
    have := siz_zero t
    omega
  rcases hk with hk | hk
  · rw [hk, decN, if_pos hk, wideN, if_neg (by simp)]
  · rw [hk, decN, if_neg (by omega), if_pos hk]
    have e := low_join l
    rw [hl] at e
    rw [← wide_low (joinL l) (siz t) (wid t) (sz2 hk), e]
    rfl
theorem decN_lt {t : Int} {l : List UInt8} (h : 0 < siz t) (hl : l.length = siz t) : decN t l < 18446744073709551616 := by
  have h8 := siz_le t
  unfold decN
  split
  · exact join8 (by omega)
  · split
    · rename_i h1 h2
      exact extN_lt _ _ (kind_wid2 h2)
    · omega
theorem rdec_results {Q : Nat} {v : Vl} {e : Int} {w : World} (h : Va Q v w) (tmps : Array Value) (h4 : tmps[4]?.getD undef = .pointer (some ⟨Q, 0, none⟩)) (h5 : tmps[5]?.getD undef = .int .i64 e) :
    (results Tryz.f50 tmps).run Tryz.prog w = .ok (.tuple #[.agg v.arr, .int .i64 e]) w := by
  have l0 := h.load
  simp [Go.results, Tryz.results50, h4, h5, asAddr, l0]
set_option maxHeartbeats 1000000 in
theorem r7Decode_v (t : Int) (ht : -9223372036854775808 ≤ t ∧ t < 9223372036854775808) (x : Value) (l : List UInt8) (w : World) (hB : Bytes w x l) :
    Calls Tryz.prog 50 #[.int .i64 t, x] w fun e w' => e = .returned (.tuple #[.agg (decW t l).arr, .int .i64 (decE t l)]) ∧ Below w.heap.size w w' := by
  have fA : Va w.heap.size Vl.nul (w.alloc (.cells #[.int .i64 0, .int .u64 0, .string ⟨#[]⟩] 52)) := Va.new w Vl.nul
  have bA : Below w.heap.size w (w.alloc (.cells #[.int .i64 0, .int .u64 0, .string ⟨#[]⟩] 52)) := (Below.refl _ _).alloc (Nat.le_refl _) _
  have sA := size_alloc w (.cells #[.int .i64 0, .int .u64 0, .string ⟨#[]⟩] 52)
  obtain ⟨W, hW⟩ : ∃ W, w.alloc (.cells #[.int .i64 0, .int .u64 0, .string ⟨#[]⟩] 52) = W := ⟨_, rfl⟩
  rw [hW] at fA bA sA
  have BW := hB.below bA
  have hI := r7Is_any t
  have hS := r7Size_any t
  have HF : Hid (fitE t l.length = if kind t = 0 then 1 else if l.length < siz t then 3 else if (0 < siz t ∧ siz t < l.length) ∨ 65536 < l.length then 2 else 0) := rfl
  have HE : Hid (decE t l = if fitE t l.length ≠ 0 then fitE t l.length else if chk t (decN t l) (decS t l) ≠ 0 then 8 else 0) := rfl
  have HW : Hid (decW t l = if decE t l = 0 then mkV t (decN t l) (decS t l) else Vl.nul) := rfl
  have hx : ∃ ao cap, x = .slice ao l.length cap := by obtain ⟨ao, cap, h, _⟩ := hB; exact ⟨ao, cap, h⟩
  obtain ⟨ao, cap, rfl⟩ := hx
  have hWd := hidOf (@wide_dec t l)
  have hDl := hidOf (@decN_lt t l)
  have hDS := hidOf (show 0 < siz t → decS t l = ⟨#[]⟩ by
    intro h
    have := siz_zero t
    unfold decS
    rw [if_pos (by omega)])
  have hDT := hidOf (show ¬ 0 < siz t → decS t l = ⟨l.toArray⟩ ∧ decN t l = 0 by
    intro h
    have := siz_zero t
    unfold decS decN
    rw [if_neg (by omega), if_neg (by omega), if_neg (by omega)]
    exact ⟨rfl, rfl⟩)
  have hwide := fun h w hB => r7Wide_v t (.slice ao l.length cap) l w h hB
  have h8 := siz_le t
  generalize hdE : decE t l = E at *
  generalize decW t l = V at *
  generalize fitE t l.length = F at *
  obtain ⟨q, hq⟩ : ∃ q, w.heap.size = q := ⟨_, rfl⟩
  rw [hq] at fA sA
  have D4 := fA.row Vl.nul
  have B4 := below_row bA (by omega : w.heap.size ≤ q) (by omega) Vl.nul.arr
  go_enter Tryz.func50, Tryz.ntmps50
  by_cases h0 : kind t = 0
  · have dk : (kind t != 0) = false := by simp [h0]
    rw [dk] at hI
    have e0 := hidOf (show F = 1 by rw [HF.out, if_pos h0])
    have e1 := hidOf (show E = 1 by rw [HE.out, e0.out]; simp)
    have e2 := hidOf (show V = Vl.nul by rw [HW.out, if_neg (by rw [e1.out]; decide)])
    clear HE HW HF
    go_wp2_with (first | (go_at_call 84; refine (hI _).mono ?_; rintro e w2 ⟨rfl, rfl⟩) | refine fA.sd Vl.nul rfl _ _ rfl rfl rfl ?_)
    exact bodyPost_ret (rdec_results D4 _ rfl rfl) rfl ⟨by rw [e1.out, e2.out]; rfl, B4⟩
  · have dk : (kind t != 0) = true := by simp [h0]
    rw [dk] at hI
    have f1 := fA.alloc (.cells #[.int .i64 t, .int .u64 0, .string ⟨#[]⟩] 52)
    have g1 : Va W.heap.size (⟨t, 0, ⟨#[]⟩, ht, by decide, by decide⟩ : Vl) (W.alloc (.cells #[.int .i64 t, .int .u64 0, .string ⟨#[]⟩] 52)) := Va.new W _
    have b1 : Below W.heap.size W (W.alloc (.cells #[.int .i64 t, .int .u64 0, .string ⟨#[]⟩] 52)) := (Below.refl _ _).alloc (Nat.le_refl _) _
    have B1 := bA.trans (b1.mono (by omega))
    have BY := BW.below b1
    rw [sA] at g1
    have l1 := f1.lt
    clear D4 B4
    have D5 := f1.row Vl.nul
    have B5 := below_row B1 (by omega : w.heap.size ≤ q) (by omega) Vl.nul.arr
    have HR := hidOf (And.intro f1 (And.intro g1 (And.intro B1 BY)))
    by_cases hs3 : l.length < siz t
    · have e0 := hidOf (show F = 3 by rw [HF.out, if_neg h0, if_pos hs3])
      have e1 := hidOf (show E = 3 by rw [HE.out, e0.out]; simp)
      have e2 := hidOf (show V = Vl.nul by rw [HW.out, if_neg (by rw [e1.out]; decide)])
      have d3 : decide ((l.length : Int) < (siz t : Int)) = true := decide_eq_true (by omega)
      clear HE HW HF
      go_wp2_with (first | (go_at_call 84; refine (hI _).mono ?_; rintro e w2 ⟨rfl, rfl⟩) | (go_at_call 85; refine (hS _).mono ?_; rintro e w2 ⟨rfl, rfl⟩) | refine f1.sd Vl.nul rfl _ _ rfl rfl rfl ?_)
      exact bodyPost_ret (rdec_results D5 _ rfl rfl) rfl ⟨by rw [e1.out, e2.out]; rfl, B5⟩
    · have d3 : decide ((l.length : Int) < (siz t : Int)) = false := decide_eq_false (by omega)
      by_cases hz : 0 < siz t
      · have dz : decide ((0 : Int) < (siz t : Int)) = true := decide_eq_true (by omega)
        by_cases hg : siz t < l.length
        · have dg : decide ((siz t : Int) < (l.length : Int)) = true := decide_eq_true (by omega)
          have e0 := hidOf (show F = 2 by rw [HF.out, if_neg h0, if_neg hs3, if_pos (.inl ⟨hz, hg⟩)])
          have e1 := hidOf (show E = 2 by rw [HE.out, e0.out]; simp)
          have e2 := hidOf (show V = Vl.nul by rw [HW.out, if_neg (by rw [e1.out]; decide)])
          clear HE HW HF
          go_wp2_with (first | (go_at_call 84; refine (hI _).mono ?_; rintro e w2 ⟨rfl, rfl⟩) | (go_at_call 85; refine (hS _).mono ?_; rintro e w2 ⟨rfl, rfl⟩) | refine f1.sd Vl.nul rfl _ _ rfl rfl rfl ?_)
          exact bodyPost_ret (rdec_results D5 _ rfl rfl) rfl ⟨by rw [e1.out, e2.out]; rfl, B5⟩
        · have dg : decide ((siz t : Int) < (l.length : Int)) = false := decide_eq_false (by omega)
          have dm : decide ((65536 : Int) < (l.length : Int)) = false := decide_eq_false (by omega)
          have hls : l.length = siz t := by omega
          have e0 := hidOf (show F = 0 by rw [HF.out, if_neg h0, if_neg hs3, if_neg (by omega)])
          rw [e0.out] at HE
          have hd := hDl.out hz hls
          have hw2 := hwide (by omega)
          rw [hWd.out hz hls] at hw2
          have hSS := hDS.out hz
          clear hls HF e0 hWd hDl hDS hDT hwide D5 B5 f1 g1 b1 B1 BY fA bA
          go_wp2_with (first | (go_at_call 84; refine (hI _).mono ?_; rintro e w2 ⟨rfl, rfl⟩) | (go_at_call 85; refine (hS _).mono ?_; rintro e w2 ⟨rfl, rfl⟩))
          obtain ⟨f1, g1, B1, BY⟩ := HR.out
          clear HR
          generalize w2.alloc (.cells #[.int .i64 t, .int .u64 0, .string ⟨#[]⟩] 52) = w5 at *
          have c1 := g1.c1
          have c2 := g1.c2
          have fr := g1.frozen
          have fX := f1.other (p := ⟨q + 1, 1, none⟩) (by simp) (.int .u64 (decN t l))
          have gX : Va (q + 1) (⟨t, decN t l, ⟨#[]⟩, ht, hd, by decide⟩ : Vl) (w5.setCell ⟨q + 1, 1, none⟩ (.int .u64 (decN t l))) := g1.setN (decN t l) hd
          have BX := B1.setCell (p := ⟨q + 1, 1, none⟩) (by omega : w.heap.size ≤ q + 1) (.int .u64 (decN t l))
          have hC := r7Check_v (⟨t, decN t l, ⟨#[]⟩, ht, hd, by decide⟩ : Vl)
          have hu : (⟨t, decN t l, ⟨#[]⟩, ht, hd, by decide⟩ : Vl).chk = chk t (decN t l) (decS t l) := by rw [hSS]; rfl
          have hV : mkV t (decN t l) (decS t l) = (⟨t, decN t l, ⟨#[]⟩, ht, hd, by decide⟩ : Vl) := by rw [hSS]; exact mkV_eq _ _ _
          rw [hu] at hC
          rw [hV] at HW
          clear hu hV
          generalize hUU : (⟨t, decN t l, ⟨#[]⟩, ht, hd, by decide⟩ : Vl) = U at *
          clear hUU
          refine (hw2 _ BY).mono ?_
          rintro e w5 ⟨rfl, rfl⟩
          go_wp2_with (refine gX.ld rfl _ rfl rfl ?_)
          refine (hC _).mono ?_
          rintro e w3 ⟨rfl, b3⟩
          have f3 := fX.below b3
          have g3 := gX.below b3
          have B3 := BX.trans (b3.mono (by have := fX.lt; omega))
          have s3 := b3.size
          by_cases hc : chk t (decN t l) (decS t l) = 0
          · have e1 := hidOf (show E = 0 by rw [HE.out]; simp [hc])
            have e2 := hidOf (show V = U by rw [HW.out, if_pos e1.out])
            rw [hc]
            have D4 := f3.row U
            have B4 := below_row B3 (by omega : w.heap.size ≤ q) (by have := f3.lt; omega) U.arr
            clear HE HW
            go_wp2_with (first | refine g3.ld rfl _ rfl rfl ?_ | refine f3.sd U rfl _ _ rfl rfl rfl ?_)
            exact bodyPost_ret (rdec_results D4 _ rfl rfl) rfl ⟨by rw [e1.out, e2.out]; rfl, B4⟩
          · have e1 := hidOf (show E = 8 by rw [HE.out]; simp [hc])
            have e2 := hidOf (show V = Vl.nul by rw [HW.out, if_neg (by rw [e1.out]; decide)])
            have d0 : ((chk t (decN t l) (decS t l) : Int) != 0) = true := by simpa using hc
            generalize chk t (decN t l) (decS t l) = C at *
            have D4 := f3.row Vl.nul
            have B4 := below_row B3 (by omega : w.heap.size ≤ q) (by have := f3.lt; omega) Vl.nul.arr
            clear HE HW
            go_wp2_with (first | refine f3.sd Vl.nul rfl _ _ rfl rfl rfl ?_)
            exact bodyPost_ret (rdec_results D4 _ rfl rfl) rfl ⟨by rw [e1.out, e2.out]; rfl, B4⟩
      · have dz : decide ((0 : Int) < (siz t : Int)) = false := decide_eq_false (by omega)
        by_cases hg : 65536 < l.length
        · have dg : decide ((65536 : Int) < (l.length : Int)) = true := decide_eq_true (by omega)
          have e0 := hidOf (show F = 2 by rw [HF.out, if_neg h0, if_neg hs3, if_pos (.inr hg)])
          have e1 := hidOf (show E = 2 by rw [HE.out, e0.out]; simp)
          have e2 := hidOf (show V = Vl.nul by rw [HW.out, if_neg (by rw [e1.out]; decide)])
          clear HE HW HF
          go_wp2_with (first | (go_at_call 84; refine (hI _).mono ?_; rintro e w2 ⟨rfl, rfl⟩) | (go_at_call 85; refine (hS _).mono ?_; rintro e w2 ⟨rfl, rfl⟩) | refine f1.sd Vl.nul rfl _ _ rfl rfl rfl ?_)
          exact bodyPost_ret (rdec_results D5 _ rfl rfl) rfl ⟨by rw [e1.out, e2.out]; rfl, B5⟩
        · have dg : decide ((65536 : Int) < (l.length : Int)) = false := decide_eq_false (by omega)
          have e0 := hidOf (show F = 0 by rw [HF.out, if_neg h0, if_neg hs3, if_neg (by omega)])
          rw [e0.out] at HE
          obtain ⟨hSS, hNN⟩ := hDT.out hz
          have hTx := hidOf BY.text
          have hs : (⟨l.toArray⟩ : ByteArray).size ≤ maxLen := by
            simp only [ByteArray.size, List.size_toArray, maxLen]
            omega
          clear HF e0 hWd hDl hDS hDT hwide D5 B5
          have fr := g1.frozen
          have c2 := g1.c2
          have hTy := hTx.out
          have fX := fA.alloc (.cells #[.int .i64 t, .int .u64 0, .string ⟨l.toArray⟩] 52)
          have gX : Va (q + 1) (⟨t, 0, ⟨l.toArray⟩, ht, by decide, hs⟩ : Vl) (W.alloc (.cells #[.int .i64 t, .int .u64 0, .string ⟨l.toArray⟩] 52)) := by have := Va.new W (⟨t, 0, ⟨l.toArray⟩, ht, by decide, hs⟩ : Vl); rw [sA] at this; exact this
          have BX := bA.trans (((Below.refl _ _).alloc (Nat.le_refl _) (.cells #[.int .i64 t, .int .u64 0, .string ⟨l.toArray⟩] 52)).mono (by omega))
          have hC := r7Check_v (⟨t, 0, ⟨l.toArray⟩, ht, by decide, hs⟩ : Vl)
          have hu : (⟨t, 0, ⟨l.toArray⟩, ht, by decide, hs⟩ : Vl).chk = chk t (decN t l) (decS t l) := by rw [hSS, hNN]; rfl
          have hV : mkV t (decN t l) (decS t l) = (⟨t, 0, ⟨l.toArray⟩, ht, by decide, hs⟩ : Vl) := by rw [hSS, hNN]; exact mkV_eq _ _ _
          rw [hu] at hC
          rw [hV] at HW
          clear hu hV
          generalize hUU : (⟨t, 0, ⟨l.toArray⟩, ht, by decide, hs⟩ : Vl) = U at *
          clear hUU
          go_wp2_with (first | (go_at_call 84; refine (hI _).mono ?_; rintro e w2 ⟨rfl, rfl⟩) | (go_at_call 85; refine (hS _).mono ?_; rintro e w2 ⟨rfl, rfl⟩) | refine gX.ld rfl _ rfl rfl ?_)
          refine (hC _).mono ?_
          rintro e w3 ⟨rfl, b3⟩
          have f3 := fX.below b3
          have g3 := gX.below b3
          have B3 := BX.trans (b3.mono (by have := fX.lt; omega))
          have s3 := b3.size
          by_cases hc : chk t (decN t l) (decS t l) = 0
          · have e1 := hidOf (show E = 0 by rw [HE.out]; simp [hc])
            have e2 := hidOf (show V = U by rw [HW.out, if_pos e1.out])
            rw [hc]
            have D4 := f3.row U
            have B4 := below_row B3 (by omega : w.heap.size ≤ q) (by have := f3.lt; omega) U.arr
            clear HE HW
            go_wp2_with (first | refine g3.ld rfl _ rfl rfl ?_ | refine f3.sd U rfl _ _ rfl rfl rfl ?_)
            exact bodyPost_ret (rdec_results D4 _ rfl rfl) rfl ⟨by rw [e1.out, e2.out]; rfl, B4⟩
          · have e1 := hidOf (show E = 8 by rw [HE.out]; simp [hc])
            have e2 := hidOf (show V = Vl.nul by rw [HW.out, if_neg (by rw [e1.out]; decide)])
            have d0 : ((chk t (decN t l) (decS t l) : Int) != 0) = true := by simpa using hc
            generalize chk t (decN t l) (decS t l) = C at *
            have D4 := f3.row Vl.nul
            have B4 := below_row B3 (by omega : w.heap.size ≤ q) (by have := f3.lt; omega) Vl.nul.arr
            clear HE HW
            go_wp2_with (first | refine f3.sd Vl.nul rfl _ _ rfl rfl rfl ?_)
            exact bodyPost_ret (rdec_results D4 _ rfl rfl) rfl ⟨by rw [e1.out, e2.out]; rfl, B4⟩
end Go.Proofs.YtahfnknbmikmkaaGreat
namespace Go.Proofs.YtahfnknbmikmkaaGreat
open Go.RowKit Go.Proofs.Ty Go.Sort Go.Lib
set_option linter.unusedVariables false
set_option maxRecDepth 1000000
set_option linter.unusedSimpArgs false
theorem low_mod (n k : Nat) : lowL n k = lowL (n % 256 ^ k) k := by
  have h := low_join (lowL n k)
  rw [lowL_length, join_low] at h
  exact h.symm
theorem ext_mod (n b z : Nat) (h : (z = 1 ∧ b = 8) ∨ (z = 2 ∧ b = 16) ∨ (z = 4 ∧ b = 32) ∨ (z = 8 ∧ b = 64)) : extN b n % 256 ^ z = n % 256 ^ z := by
  rcases h with ⟨rfl, rfl⟩ | ⟨rfl, rfl⟩ | ⟨rfl, rfl⟩ | ⟨rfl, rfl⟩ <;> unfold extN <;> split <;> omega
/-- What was read is written as it was. -/
theorem dec_enc (t : Int) (ht : -9223372036854775808 ≤ t ∧ t < 9223372036854775808) (l : List UInt8) (h : decE t l = 0) : (decW t l).chk = 0 ∧ (decW t l).enc = l := by
  have hF : fitE t l.length = 0 := by
    by_cases hc : fitE t l.length = 0
    · exact hc
    · unfold decE at h
      rw [if_pos hc] at h
      exact absurd h hc
  obtain ⟨hk, hl, hm⟩ := fit_zero hF
  have hC : chk t (decN t l) (decS t l) = 0 := by
    by_cases hc : chk t (decN t l) (decS t l) = 0
    · exact hc
    · unfold decE at h
      rw [if_neg (by omega), if_pos hc] at h
      omega
  have hz := siz_zero t
  by_cases hs : 0 < siz t
  · have hll := hl hs
    have hN := decN_lt hs hll
    have hk2 : kind t = 1 ∨ kind t = 2 := by omega
    have hS : decS t l = ⟨#[]⟩ := by unfold decS; rw [if_pos hk2]
    have hW : decW t l = ⟨t, decN t l, ⟨#[]⟩, ht, hN, by decide⟩ := by
      unfold decW
      rw [if_pos h, hS]
      exact mkV_eq _ _ _
    rw [hS] at hC
    rw [hW]
    refine ⟨hC, ?_⟩
    show encV t (decN t l) ⟨#[]⟩ = l
    unfold encV encL
    rw [if_pos hC, if_pos hs]
    have e : decN t l % 256 ^ siz t = joinL l % 256 ^ siz t := by
      unfold decN
      rcases hk2 with hk2 | hk2
      · rw [if_pos hk2]
      · rw [if_neg (by omega), if_pos hk2]
        exact ext_mod _ _ _ (sz2 hk2)
    rw [low_mod, e, ← low_mod, ← hll, low_join]
  · have hN : decN t l = 0 := by unfold decN; rw [if_neg (by omega), if_neg (by omega)]
    have hS : decS t l = ⟨l.toArray⟩ := by unfold decS; rw [if_neg (by omega)]
    have hsz : (⟨l.toArray⟩ : ByteArray).size ≤ maxLen := by
      simp only [ByteArray.size, List.size_toArray, maxLen]
      omega
    have hW : decW t l = ⟨t, 0, ⟨l.toArray⟩, ht, by decide, hsz⟩ := by
      unfold decW
      rw [if_pos h, hS, hN]
      exact mkV_eq _ _ _
    rw [hS, hN] at hC
    rw [hW]
    refine ⟨hC, ?_⟩
    show encV t 0 ⟨l.toArray⟩ = l
    unfold encV encL
    rw [if_pos hC, if_neg hs]
theorem dec_t (t : Int) (ht : -9223372036854775808 ≤ t ∧ t < 9223372036854775808) (l : List UInt8) (h : decE t l = 0) : (decW t l).t = t := by
  have hF : fitE t l.length = 0 := by
    by_cases hc : fitE t l.length = 0
    · exact hc
    · unfold decE at h
      rw [if_pos hc] at h
      exact absurd h hc
  obtain ⟨hk, hl, hm⟩ := fit_zero hF
  have hz := siz_zero t
  by_cases hs : 0 < siz t
  · have hll := hl hs
    have hN := decN_lt hs hll
    have hk2 : kind t = 1 ∨ kind t = 2 := by omega
    have hS : decS t l = ⟨#[]⟩ := by unfold decS; rw [if_pos hk2]
    have hW : decW t l = ⟨t, decN t l, ⟨#[]⟩, ht, hN, by decide⟩ := by
      unfold decW
      rw [if_pos h, hS]
      exact mkV_eq _ _ _
    rw [hW]
  · have hN : decN t l = 0 := by unfold decN; rw [if_neg (by omega), if_neg (by omega)]
    have hS : decS t l = ⟨l.toArray⟩ := by unfold decS; rw [if_neg (by omega)]
    have hsz : (⟨l.toArray⟩ : ByteArray).size ≤ maxLen := by
      simp only [ByteArray.size, List.size_toArray, maxLen]
      omega
    have hW : decW t l = ⟨t, 0, ⟨l.toArray⟩, ht, by decide, hsz⟩ := by
      unfold decW
      rw [if_pos h, hS, hN]
      exact mkV_eq _ _ _
    rw [hW]
theorem ord_zero {a b : Vl} (h : ordE a b = 0) : a.chk = 0 ∧ b.chk = 0 ∧ a.t = b.t := by
  unfold ordE at h
  by_cases h1 : a.chk = 0
  · rw [if_neg (by simpa using h1)] at h
    by_cases h2 : b.chk = 0
    · rw [if_neg (by simpa using h2)] at h
      by_cases h3 : a.t = b.t
      · exact ⟨h1, h2, h3⟩
      · rw [if_pos h3] at h; exact absurd h (by decide)
    · rw [if_pos h2] at h; exact absurd h h2
  · rw [if_pos h1] at h; exact absurd h h1
theorem zero_ord {a b : Vl} (h1 : a.chk = 0) (h2 : b.chk = 0) (h3 : a.t = b.t) : ordE a b = 0 := by
  unfold ordE
  rw [if_neg (by simpa using h1), if_neg (by simpa using h2), if_neg (by simpa using h3)]
theorem num_plain {v : Vl} (h : 0 < siz v.t) : v.plain.t = v.t ∧ v.plain.n = v.n := by
  have hz := siz_zero v.t
  have hk : kind v.t = 1 ∨ kind v.t = 2 := by omega
  rw [Vl.plain_num hk]
  exact ⟨rfl, rfl⟩
theorem num_chk {v : Vl} (h : 0 < siz v.t) : v.plain.chk = v.chk := by
  have hz := siz_zero v.t
  have hk : kind v.t = 1 ∨ kind v.t = 2 := by omega
  obtain ⟨h1, h2⟩ := num_plain h
  unfold Vl.chk
  rw [h1, h2]
  unfold Ty.chk
  rcases hk with hk | hk <;> simp [hk]
theorem num_ordE {v u : Vl} (h : 0 < siz v.t) : ordE v.plain u = ordE v u := by
  unfold ordE
  rw [num_chk h, (num_plain h).1]
theorem num_ordN {v u : Vl} (h : 0 < siz v.t) : ordN v.plain u = ordN v u := by
  have hz := siz_zero v.t
  have hk : kind v.t = 1 ∨ kind v.t = 2 := by omega
  obtain ⟨h1, h2⟩ := num_plain h
  unfold ordN
  rw [num_ordE h]
  unfold ordR
  rw [h1, h2]
  rcases hk with hk | hk <;> simp [hk]
/-- What is known of an item while nothing is set or loaded. -/
structure Gd (i : Im) : Prop where
  lim : i.e.li = true → ordE i.e.df i.e.mn = 0 ∧ ordE i.e.df i.e.mx = 0
  val : i.e.li = true → wiB i.e i.v = true ∧ wiC i.e i.v = 0
  con : i.e.ac ≠ 2 → i.e.ac ≠ 1 → i.v = i.e.df
theorem can_zero {e : En} (h : e.can = 0) : e.df.chk = 0 ∧ (e.li = true → 0 < siz e.df.t ∧ e.btw = true) := by
  unfold En.can at h
  by_cases h1 : e.df.chk = 0
  · rw [if_neg (by simpa using h1)] at h
    refine ⟨h1, fun hl => ?_⟩
    split at h
    · exact absurd h (by decide)
    · split at h
      · exact absurd h (by decide)
      · rename_i h3
        exact Decidable.not_not.1 (fun h4 => h3 ⟨hl, h4⟩)
  · rw [if_pos h1] at h; exact absurd h h1
theorem chkG_all {s l : List En} (h : chkG s l = 0) : ∀ e ∈ l, e.can = 0 := by
  induction l generalizing s with
  | nil => intro e he; simp at he
  | cons x r ih =>
    rw [chkG] at h
    split at h
    · rename_i h1; exact absurd h h1
    · rename_i h1
      split at h
      · exact absurd h (by decide)
      · intro e he
        rcases List.mem_cons.1 he with rfl | he
        · exact Decidable.not_not.1 h1
        · exact ih h e he
theorem gd_new {e : En} (h : e.can = 0) (b : Nat) : Gd ⟨b, e.plain, e.plain.df⟩ := by
  obtain ⟨h1, h2⟩ := can_zero h
  have key : e.li = true → (ordE e.plain.df e.mn = 0 ∧ ordE e.plain.df e.mx = 0) ∧ 0 ≤ ordN e.plain.df e.mn ∧ ordN e.plain.df e.mx ≤ 0 := fun hl => by
    obtain ⟨hz, hb⟩ := h2 hl
    show (ordE e.df.plain e.mn = 0 ∧ ordE e.df.plain e.mx = 0) ∧ 0 ≤ ordN e.df.plain e.mn ∧ ordN e.df.plain e.mx ≤ 0
    rw [num_ordE hz, num_ordE hz, num_ordN hz, num_ordN hz]
    unfold En.btw at hb
    simpa [and_assoc] using hb
  refine ⟨fun hl => (key hl).1, fun hl => ?_, fun _ _ => rfl⟩
  obtain ⟨⟨k1, k2⟩, k3, k4⟩ := key hl
  have hB : wiB e.plain e.plain.df = true := by
    show (decide (ordE e.plain.df e.mn = 0) && decide (ordE e.plain.df e.mx = 0)) = true
    rw [k1, k2]; rfl
  refine ⟨hB, ?_⟩
  show wiC e.plain e.plain.df = 0
  unfold wiC
  rw [if_neg (by rw [hB]; simp), if_neg (show ¬ 0 < ordN e.plain.df e.plain.mx from by show ¬ 0 < ordN e.plain.df e.mx; omega), if_neg (show ¬ ordN e.plain.df e.plain.mn < 0 from by show ¬ ordN e.plain.df e.mn < 0; omega)]
/-- Of these entries, in these blocks. -/
structure Al (es : List En) (bs : List Nat) (its : List Im) : Prop where
  e : its.map Im.e = es
  b : its.map Im.b = bs
theorem Al.set {es : List En} {bs : List Nat} {its : List Im} (h : Al es bs its) (b : Nat) (v : Vl) : Al es bs (setV its b v) := ⟨by rw [setV_e]; exact h.e, by rw [setV_b]; exact h.b⟩
theorem wc_zero {its : List Im} {ix sb : Nat} {l : List UInt8} (h : wc its ix sb l = 0) : ∃ i, fnd its ix sb = some i ∧ (i.e.ac = 1 ∨ i.e.ac = 2) ∧ decE i.e.df.t l = 0 ∧ bey i.e (decW i.e.df.t l) = 0 := by
  unfold wc at h
  split at h
  · exact absurd h (noc_ne _ _)
  · rename_i i hf
    refine ⟨i, hf, ?_⟩
    unfold wcode at h
    split at h
    · exact absurd h (by decide)
    · rename_i h1
      have ha : i.e.ac = 1 ∨ i.e.ac = 2 := by omega
      split at h
      · rename_i h2; exact ⟨ha, h2, h⟩
      · split at h
        · exact absurd h (by decide)
        · split at h <;> exact absurd h (by decide)
end Go.Proofs.YtahfnknbmikmkaaGreat
namespace Go.Proofs.YtahfnknbmikmkaaGreat
open Go.RowKit Go.Proofs.Ty Go.Sort Go.Lib
set_option linter.unusedVariables false
set_option maxRecDepth 1000000
set_option linter.unusedSimpArgs false
theorem info_size {t : TypeId} {n : Nat} (h : (Tryz.prog.info? t).map (·.size) = some n) : ∃ i0, Tryz.prog.info? t = some i0 ∧ i0.size = n := by
  cases hh : Tryz.prog.info? t with
  | none => rw [hh] at h; cases h
  | some i0 => rw [hh] at h; exact ⟨i0, rfl, by simpa using h⟩
theorem exec_idxE {a : Act} {o : Oper} {s i : Operand} {b off n c k : Nat} (ho : o.op = .indexAddr 22 s i) (hs : a.eval s = .slice (some ⟨b, off, none⟩) n c) (hi : a.eval i = .int .i64 (k : Int)) (hk : k < n) (w : World) : (execOp a.eval o).run Tryz.prog w = .ok (.value (.pointer (some ⟨b, off + k * 14, none⟩))) w := by
  have h1 : (0 : Int) ≤ (k : Int) := by omega
  have h2 : (k : Int) < (n : Int) := by omega
  unfold execOp
  simp only [ho, hs, hi]
  obtain ⟨i0, hi0, hz0⟩ := info_size infoE
  simp [go_sem, run_underlying Tryz.underlying22, sizeOf, typeInfo, hi0, hz0, h1, h2, Addr.add_mid]
theorem load_bytes (x : World) (D k : Nat) (ao : Option Addr) (l c : Nat) (hc : x.cell? ⟨D, k, none⟩ = some (.slice ao l c)) : (loadVar 47 ⟨D, k, none⟩).run Tryz.prog x = .ok (.slice ao l c) x := by
  simp [go_sem, run_underlying Tryz.underlying47, hc]
section
variable {w : World} {ops : Array Oper} {rest : List Oper} {o : Oper} {a : Act} {Q : Exit → Act → World → Prop}
theorem bs0E (hgd : Region.wanted o (yielded ops a.tmps) = true) (ho : o.op = .buildSlice 22 0 #[]) (hh : wpList Tryz.prog ops Q rest (a.put o.dst (.slice (some ⟨w.heap.size, 0, none⟩) 0 0)) (w.alloc (.cells #[] 93))) : wpList Tryz.prog ops Q (o :: rest) a w :=
  BigFrame.wpList_want hgd fun _ hK => wp_bs0g Tryz.underlying22 infoEz ho (hK _ _ hh)
theorem apE (hgd : Region.wanted o (yielded ops a.tmps) = true) (s x : Operand) (ho : o.op = .call { callee := .builtin .append, args := #[s, x], argTypes := #[22, 22] })
    (base : Nat) (v : Value) (xs : List En) (hs : a.eval s = v) (hown : w.ownsRow base 93 14 v xs.length (flatW DE xs))
    (vx : Value) (l : List En) (hx : a.eval x = vx) (hB : Wide 14 enC w vx l) (h63 : xs.length + l.length ≤ 1172812402927) (hbase : base ≤ w.heap.size)
    (h : ∀ v' w', w'.ownsRow base 93 14 v' (xs ++ l).length (flatW DE (xs ++ l)) → w.grownBy w' v.ownBlock → wpList Tryz.prog ops Q rest (a.put o.dst v') w') : wpList Tryz.prog ops Q (o :: rest) a w :=
  BigFrame.wpList_want hgd fun _ hK => wp_append_wide DE s x 22 93 _ 120 Tryz.underlying22 infoEz rfl ho base v xs hs hown vx l hx hB (by unfold maxLen; omega) (by omega) hbase fun v' w' h1 h2 => hK _ _ (h v' w' h1 h2)
end
theorem own0E (w : World) : (w.alloc (.cells #[] 93)).ownsRow w.heap.size 93 14 (.slice (some ⟨w.heap.size, 0, none⟩) 0 0) ([] : List En).length (flatW DE []) := own_empty_e w 93 14
end Go.Proofs.YtahfnknbmikmkaaGreat
namespace Go.Proofs.YtahfnknbmikmkaaGreat
open Go.RowKit Go.Proofs.Ty Go.Sort Go.Lib
set_option linter.unusedVariables false
set_option maxRecDepth 1000000
set_option linter.unusedSimpArgs false
def DV : Dec Vl := ⟨vlC, 3, by decide, fun _ => rfl, fun v u hu => by simp [vlC] at hu; rcases hu with rfl | rfl | rfl <;> rfl⟩
theorem infoVz : (Tryz.prog.info? 52).map (fun i => (i.zero, i.size, i.bytes)) = some (some (.agg #[.int .i64 0, .int .u64 0, .string ⟨#[]⟩]), 3, 32) := by kernel_rfl
theorem wp_bs1 {α : Type} (D : Dec α) {w : World} {o : Oper} {a : Act} {K : Act → World → Prop} {Q : Exit → Act → World → Prop} (s : α) (t e : TypeId) (z : Value) (bytes : Nat) (x : Operand) (ho : o.op = .buildSlice t 1 #[(0, x)]) (hx : a.eval x = .agg (D.dec s).toArray)
    (ht : Tryz.prog.underlying t = some (.slice e)) (hinfo : (Tryz.prog.info? e).map (fun i => (i.zero, i.size, i.bytes)) = some (some z, D.c, bytes)) (hsmall : D.c ≤ 1000)
    (h : K (a.put o.dst (.slice (some ⟨w.heap.size, 0, none⟩) 1 1)) (w.alloc (.cells (D.dec s).toArray e))) : o.wp Tryz.prog a w K Q := by
  obtain ⟨i0, hi, hz0, hz1, hz2⟩ := info_parts hinfo
  refine wp_buildSlice t e 1 _ ho (D.dec s).toArray i0 z ht hi hz0 (by rw [hz1]; omega) (by rw [hz1]; have := D.pos; omega) ?_ h
  rw [hz1]
  have hsz : (Value.agg (D.dec s).toArray).cells.size = D.c := by simp [Value.cells, D.len]
  have := Go.Great.fill_whole D.pos [Value.agg (D.dec s).toArray] ((Array.range (1 * D.c)).map (z.cells[· % z.cells.size]!)) (by intro v hv; simp at hv; subst hv; exact hsz) (by simp)
  simpa [hx, Value.cells] using this
theorem r8place_any (e : En) (w : World) : Calls Tryz.prog 101 #[.agg e.arr] w fun x w' => x = .returned (.int .i64 e.pl) ∧ Below w.heap.size w w' := by
  have h0 := Eb.new w e
  have B0 : Below w.heap.size w (w.alloc (.cells e.arr 93)) := (Below.refl _ _).alloc (Nat.le_refl _) _
  obtain ⟨c0, c1, _⟩ := h0.c
  have HX : Hid (e.pl = e.ix * 256 + e.sb) := rfl
  have h1 := e.hix
  have h2 := e.hsb
  generalize e.pl = P at *
  generalize e.ix = A at *
  generalize e.sb = B at *
  clear h0
  go_enter Tryz.func101, Tryz.ntmps101
  go_wp2
  go_ret
  exact ⟨ret_int (by rw [HX.out]; omega), B0⟩
/-- The document's dictionary at E: its entries, its values. -/
structure Rd (E : Nat) (L : List En) (vL : Value) (V : List Vl) (vV : Value) (w : World) : Prop where
  head : w.heap[E]? = some (.cells #[vL, vV] 98 (0, 0))
  rowL : RT 93 14 enC w vL L
  rowV : RT 52 3 vlC w vV V
section
variable {E : Nat} {L : List En} {vL : Value} {V : List Vl} {vV : Value} {w x : World}
theorem Rd.lt (h : Rd E L vL V vV w) : E < w.heap.size := (Array.getElem?_eq_some_iff.1 h.head).1
theorem Rd.c (h : Rd E L vL V vV w) : w.cell? ⟨E, 0, none⟩ = some vL ∧ w.cell? ⟨E, 1, none⟩ = some vV := ⟨by rw [Lib.cell_of_heap h.head]; rfl, by rw [Lib.cell_of_heap h.head]; rfl⟩
theorem Rd.below (h : Rd E L vL V vV w) (hb : Below w.heap.size w x) : Rd E L vL V vV x := ⟨(hb.block E h.lt).trans h.head, h.rowL.below hb, h.rowV.below hb⟩
theorem Rd.frozen (h : Rd E L vL V vV w) (k : Nat) : w.frozen? ⟨E, k, none⟩ = false := Lib.frozen_of_heap h.head _
theorem set_kept (w : World) (E k : Nat) (u : Value) : w.grownBy (w.setCell ⟨E, k, none⟩ u) (some E) := ⟨rfl, rfl, rfl, by simp [World.setCell], fun j hj hne => Below.heap_setCell w ⟨E, k, none⟩ u j (fun e => hne (by rw [show j = E from e]))⟩
theorem Rd.setL (h : Rd E L vL V vV w) {L' : List En} {u : Value} (hr : RT 93 14 enC w u L') : Rd E L' u V vV (w.setCell ⟨E, 0, none⟩ u) := by
  have hg := set_kept w E 0 u
  refine ⟨?_, hr.grown hg (hr.ne h.head (by decide)), h.rowV.grown hg (h.rowV.ne h.head (by decide))⟩
  have hh := h.head
  simp only [World.setCell, Array.getElem?_modify, hh]
  simp
theorem Rd.setV (h : Rd E L vL V vV w) {V' : List Vl} {u : Value} (hr : RT 52 3 vlC w u V') : Rd E L vL V' u (w.setCell ⟨E, 1, none⟩ u) := by
  have hg := set_kept w E 1 u
  refine ⟨?_, h.rowL.grown hg (h.rowL.ne h.head (by decide)), hr.grown hg (hr.ne h.head (by decide))⟩
  have hh := h.head
  simp only [World.setCell, Array.getElem?_modify, hh]
  simp
end
theorem load_ents (x : World) (D k : Nat) (ao : Option Addr) (l c : Nat) (hc : x.cell? ⟨D, k, none⟩ = some (.slice ao l c)) : (loadVar 22 ⟨D, k, none⟩).run Tryz.prog x = .ok (.slice ao l c) x := by
  simp [go_sem, run_underlying Tryz.underlying22, hc]
theorem load_vals (x : World) (D k : Nat) (ao : Option Addr) (l c : Nat) (hc : x.cell? ⟨D, k, none⟩ = some (.slice ao l c)) : (loadVar 96 ⟨D, k, none⟩).run Tryz.prog x = .ok (.slice ao l c) x := by
  simp [go_sem, run_underlying Tryz.underlying96, hc]
theorem store_vals (x : World) (D k : Nat) (u : Value) (ao : Option Addr) (l c : Nat) (hc : x.cell? ⟨D, k, none⟩ = some u) (hf : x.frozen? ⟨D, k, none⟩ = false) : (storeVar 96 ⟨D, k, none⟩ (.slice ao l c)).run Tryz.prog x = .ok () (x.setCell ⟨D, k, none⟩ (.slice ao l c)) := by
  simp [go_sem, run_underlying Tryz.underlying96, hc, hf]
theorem wp_store_cell {o : Oper} {a : Act} {w w' : World} {K : Act → World → Prop} {Q : Exit → Act → World → Prop} (ty : TypeId) (x y : Operand) (ho : o.op = .store ty x y) (b k : Nat) (hx : a.eval x = .pointer (some ⟨b, k, none⟩)) (v : Value) (hy : a.eval y = v)
    (hr : (storeVar ty ⟨b, k, none⟩ v).run Tryz.prog w = .ok () w') (h : K (a.put o.dst undef) w') : o.wp Tryz.prog a w K Q := by
  unfold Oper.wp execOp
  simp only [ho, hx, hy, Instr.storeAt, Instr.sureAddr, Sem.run_bind, Sem.run_pure, Result.andThen_ok, hr]
  exact h
/-- The first k of a row, what is behind them. -/
theorem re_take {w : World} {v : Value} {l : List En} (h : RT 93 14 enC w v l) (k : Nat) (hk : k ≤ l.length) : ∃ v1, (∀ W, (Instr.sliceAt 22 v none (some (.int .i64 k)) none).run Tryz.prog W = .ok v1 W) ∧ ∀ x, Wide 14 enC x v l → Wide 14 enC x v1 (l.take k) := by
  obtain ⟨i0, hi, hz0, hz1, hz2⟩ := info_parts infoEz
  obtain ⟨ao, cap, rfl⟩ := h.wide.shape
  have hcap := h.cap _ _ _ rfl
  have a0 : (0 : Int) ≤ (k : Int) := by omega
  have a1 : (k : Int) ≤ (cap : Int) := by omega
  cases ao with
  | none =>
    obtain ⟨ao', cap', hv, h0, _⟩ := h.wide
    injection hv with e1 _ e3
    obtain ⟨rfl, rfl⟩ := h0 e1.symm
    subst e3
    have : k = 0 := by simpa using hk
    subst this
    refine ⟨.slice none 0 0, fun W => ?_, fun x hx => by simpa using hx⟩
    simp [Instr.sliceAt, run_underlying Tryz.underlying22, go_sem, sizeOf, typeInfo, hi, hz1, Addr.add]
  | some a =>
    refine ⟨.slice (some a) k cap, fun W => ?_, fun x hx => ?_⟩
    · simp [Instr.sliceAt, run_underlying Tryz.underlying22, go_sem, sizeOf, typeInfo, hi, hz1, Addr.add, a0, a1]
    · obtain ⟨ao', cap', hv, h0, hc⟩ := hx
      injection hv with e1 _ e3
      subst e1 e3
      refine ⟨_, _, by rw [List.length_take, Nat.min_eq_left hk], (fun h => by cases h), fun j hj => ?_⟩
      rw [List.length_take] at hj
      obtain ⟨b, off, e, hlt, hr⟩ := hc j (by omega)
      refine ⟨b, off, e, hlt, ?_⟩
      rw [List.getElem_take]; exact hr
theorem re_drop {w : World} {v : Value} {l : List En} (h : RT 93 14 enC w v l) (k : Nat) (hk : k ≤ l.length) : ∃ v1, (∀ W, (Instr.sliceAt 22 v (some (.int .i64 k)) none none).run Tryz.prog W = .ok v1 W) ∧ ∀ x, Wide 14 enC x v l → Wide 14 enC x v1 (l.drop k) := by
  obtain ⟨i0, hi, hz0, hz1, hz2⟩ := info_parts infoEz
  obtain ⟨ao, cap, rfl⟩ := h.wide.shape
  have hcap := h.cap _ _ _ rfl
  have a0 : (0 : Int) ≤ (k : Int) := by omega
  have a1 : (k : Int) ≤ (l.length : Int) := by omega
  have a2 : (l.length : Int) ≤ (cap : Int) := by omega
  cases ao with
  | none =>
    obtain ⟨ao', cap', hv, h0, _⟩ := h.wide
    injection hv with e1 _ e3
    obtain ⟨rfl, rfl⟩ := h0 e1.symm
    subst e3
    have : k = 0 := by simpa using hk
    subst this
    refine ⟨.slice none 0 0, fun W => ?_, fun x hx => by simpa using hx⟩
    simp [Instr.sliceAt, run_underlying Tryz.underlying22, go_sem, sizeOf, typeInfo, hi, hz1, Addr.add]
  | some a =>
    refine ⟨.slice (some (if cap = k then a else if k * 14 = 0 then a else ⟨a.block, a.off + k * 14, none⟩)) (l.length - k) (cap - k), fun W => ?_, fun x hx => ?_⟩
    · simp [Instr.sliceAt, run_underlying Tryz.underlying22, go_sem, sizeOf, typeInfo, hi, hz1, Addr.add, a0, a1, a2]
      split <;> rfl
    · obtain ⟨ao', cap', hv, h0, hc⟩ := hx
      injection hv with e1 _ e3
      subst e1 e3
      refine ⟨_, _, by rw [List.length_drop], (fun h => by cases h), fun j hj => ?_⟩
      rw [List.length_drop] at hj
      obtain ⟨b, off, e, hlt, hr⟩ := hc (k + j) (by omega)
      injection e with e
      subst e
      rw [if_neg (by omega)]
      by_cases hk0 : k * 14 = 0
      · rw [if_pos hk0]
        refine ⟨b, off, rfl, hlt, ?_⟩
        have : k = 0 := by omega
        subst this
        simpa using hr
      · rw [if_neg hk0]
        refine ⟨b, off + k * 14, rfl, hlt, ?_⟩
        rw [List.getElem_drop, show off + k * 14 + j * 14 = off + (k + j) * 14 by omega]
        exact hr
end Go.Proofs.YtahfnknbmikmkaaGreat
