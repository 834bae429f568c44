/- The law TypesDecodes returns true whatever comes in. -/
import Derived.Test.YtoihcjokifjcgaaTyL
import Derived.Test.YtoihcjokifjcgaaTyE
import Derived.Test.YtoihcjokifjcgaaTyLa
import Derived.Test.YtoihcjokifjcgaaTy11
import Derived.Test.YtoihcjokifjcgaaTy12
namespace Go.Proofs.Ytoihcjokifjcgaa
open Go.RowKit Go.Proofs.Ty
set_option linter.unusedVariables false
set_option maxRecDepth 1000000
theorem low_mod (n k : Nat) : lowL n k = lowL (n % 256 ^ k) k := by
  have h := low_join (lowL n k)
  rw [lowL_length, join_low] at h
  exact h.symm
theorem ext_mod (n b z : Nat) (h : (z = 1 ∧ b = 8) ∨ (z = 2 ∧ b = 16) ∨ (z = 4 ∧ b = 32) ∨ (z = 8 ∧ b = 64)) : extN b n % 256 ^ z = n % 256 ^ z := by
  rcases h with ⟨rfl, rfl⟩ | ⟨rfl, rfl⟩ | ⟨rfl, rfl⟩ | ⟨rfl, rfl⟩ <;> unfold extN <;> split <;> omega
/-- What was read is written as it was. -/
theorem dec_enc (t : Int) (ht : -9223372036854775808 ≤ t ∧ t < 9223372036854775808) (l : List UInt8) (h : decE t l = 0) : (decW t l).chk = 0 ∧ (decW t l).enc = l := by
  have hF : fitE t l.length = 0 := by
    by_cases hc : fitE t l.length = 0
    · exact hc
    · unfold decE at h
      rw [if_pos hc] at h
      exact absurd h hc
  obtain ⟨hk, hl, hm⟩ := fit_zero hF
  have hC : chk t (decN t l) (decS t l) = 0 := by
    by_cases hc : chk t (decN t l) (decS t l) = 0
    · exact hc
    · unfold decE at h
      rw [if_neg (by omega), if_pos hc] at h
      omega
  have hz := siz_zero t
  by_cases hs : 0 < siz t
  · have hll := hl hs
    have hN := decN_lt hs hll
    have hk2 : kind t = 1 ∨ kind t = 2 := by omega
    have hS : decS t l = ⟨#[]⟩ := by unfold decS; rw [if_pos hk2]
    have hW : decW t l = ⟨t, decN t l, ⟨#[]⟩, ht, hN, by decide⟩ := by
      unfold decW
      rw [if_pos h, hS]
      exact mkV_eq _ _ _
    rw [hS] at hC
    rw [hW]
    refine ⟨hC, ?_⟩
    show encV t (decN t l) ⟨#[]⟩ = l
    unfold encV encL
    rw [if_pos hC, if_pos hs]
    have e : decN t l % 256 ^ siz t = joinL l % 256 ^ siz t := by
      unfold decN
      rcases hk2 with hk2 | hk2
      · rw [if_pos hk2]
      · rw [if_neg (by omega), if_pos hk2]
        exact ext_mod _ _ _ (sz2 hk2)
    rw [low_mod, e, ← low_mod, ← hll, low_join]
  · have hN : decN t l = 0 := by unfold decN; rw [if_neg (by omega), if_neg (by omega)]
    have hS : decS t l = ⟨l.toArray⟩ := by unfold decS; rw [if_neg (by omega)]
    have hsz : (⟨l.toArray⟩ : ByteArray).size ≤ maxLen := by
      simp only [ByteArray.size, List.size_toArray, maxLen]
      omega
    have hW : decW t l = ⟨t, 0, ⟨l.toArray⟩, ht, by decide, hsz⟩ := by
      unfold decW
      rw [if_pos h, hS, hN]
      exact mkV_eq _ _ _
    rw [hS, hN] at hC
    rw [hW]
    refine ⟨hC, ?_⟩
    show encV t 0 ⟨l.toArray⟩ = l
    unfold encV encL
    rw [if_pos hC, if_neg hs]
set_option maxHeartbeats 4000000 in
theorem tdec_walk (t : Int) (ht : -9223372036854775808 ≤ t ∧ t < 9223372036854775808) (xb : Value) (l : List UInt8) (w : World) (hB : Bytes w xb l) (hl : l.length ≤ 140737488351232) :
    Calls Try.prog 4 #[.int .i64 t, xb] w fun e w' => e = .returned (.bool true) ∧ Below w.heap.size w w' := by
  have hD := fun x w => Decode_v t ht x l w
  have hD7 := fun x w => r7Decode_v t ht x l w
  have hL := lives7_any
  have HX := hidOf (dec_enc t ht l)
  have hsame := vlB_same (decW t l)
  have hE := Encode_v (decW t l)
  have own0 := own_empty w
  have b0 : Below w.heap.size w (w.alloc (.cells #[] 5)) := (Below.refl _ _).alloc (Nat.le_refl _) _
  have s0 := size_alloc w (.cells #[] 5)
  have hB0 := hB.below b0
  have hlt0 := own_lt own0
  generalize decW t l = V at *
  generalize decE t l = E at *
  go_enter Try.func4, Try.ntmps4
  go_wp2_with (at_builtin; refine append_bytes rfl _ _ rfl w.heap.size _ ([] : List UInt8) rfl own0 xb l rfl hB0 (by simp; omega) (by omega) ?_)
  intro v1 w1 o1 g1
  have b1 : Below w.heap.size w w1 := b0.grown g1 (by omega) hlt0
  have hB1 : Bytes w1 v1 l := bytes_of_own o1
  have hBx := hB.below b1
  have s1 := b1.size
  clear own0 b0 s0 hB0 hlt0 o1 g1
  have hD1 := hD v1 w1 hB1
  go_wp2_with fail
  refine hD1.mono ?_
  rintro e w2 ⟨rfl, b2⟩
  have B2 := b1.trans (b2.mono (by omega))
  have s2 := b2.size
  have hB2 := hBx.below b2
  have gn : Va w2.heap.size Vl.nul (w2.alloc (.cells #[.int .i64 0, .int .u64 0, .string ⟨#[]⟩] 24)) := Va.new w2 Vl.nul
  have g3 := gn.row V
  have k3 : Below w2.heap.size w2 ((w2.alloc (.cells #[.int .i64 0, .int .u64 0, .string ⟨#[]⟩] 24)).setRow w2.heap.size V.arr) := below_row ((Below.refl _ _).alloc (Nat.le_refl _) _) (Nat.le_refl _) (by rw [size_alloc]; omega) _
  have B3 := B2.trans (k3.mono (by omega))
  have hB3 := hB2.below k3
  have s3 := k3.size
  clear hD1 b1 b2 hB1 hBx hB2 B2 k3
  have hD2 := hD7 xb _ hB3
  go_wp2_with (first | refine gn.sd V rfl _ _ rfl rfl rfl ?_)
  generalize (w2.alloc (.cells #[.int .i64 0, .int .u64 0, .string ⟨#[]⟩] 24)).setRow w2.heap.size V.arr = w3 at *
  refine hD2.mono ?_
  rintro e w4 ⟨rfl, b4⟩
  have f4 := g3.below b4
  have B4 := B3.trans (b4.mono (by omega))
  have s4 := b4.size
  have hB4 := hB3.below b4
  obtain ⟨hn, h5, f5, B5, k5⟩ := keepV f4 B4 (by omega) V
  have hB5 := hB4.below k5
  have s5 := k5.size
  clear gn g3 B3 hB3 hD2 hD hD7 b4 f4 B4 hB4 k5
  by_cases h0 : E = 0
  · subst h0
    obtain ⟨e1, e2⟩ := HX.out rfl
    rw [e1, e2] at hE
    clear HX e1 e2
    go_wp2_with (first | refine hn.sd V rfl _ _ rfl rfl rfl ?_ | refine f5.ld rfl _ rfl rfl ?_ | refine h5.ld rfl _ rfl rfl ?_ | (refine neqv V V rfl _ _ rfl rfl rfl ?_; rw [hsame]))
    refine (hE _).mono ?_
    rintro e w6 ⟨x6, rfl, hB6, b6⟩
    have B6 := B5.trans (b6.mono (by omega))
    have hTx := (hB5.below b6).text
    have hT6 := hB6.text
    have s6 := b6.size
    clear hE hn h5 f5 B5 hB5 hB6 b6
    go_wp2_with fail
    refine (hL _).mono ?_
    rintro e w7 ⟨rfl, b7⟩
    have B7 := B6.trans (b7.mono (by omega))
    clear hTx hT6
    go_wp2
    go_ret
    exact ⟨rfl, B7⟩
  · have d0 : ((E : Int) != 0) = true := by simpa using h0
    go_wp2_with (first | refine hn.sd V rfl _ _ rfl rfl rfl ?_ | refine f5.ld rfl _ rfl rfl ?_ | refine h5.ld rfl _ rfl rfl ?_ | (refine neqv V V rfl _ _ rfl rfl rfl ?_; rw [hsame]))
    refine (hL _).mono ?_
    rintro e w7 ⟨rfl, b7⟩
    have B7 := B5.trans (b7.mono (by omega))
    go_wp2
    go_ret
    exact ⟨rfl, B7⟩
end Go.Proofs.Ytoihcjokifjcgaa
