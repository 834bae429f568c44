/- The law BitsNumbers returns true whatever number, width and text come in. -/
import Derived.Test.YtcpgpnilglbmoaaRNum
import Derived.Test.YtcpgpnilglbmoaaLives
namespace Go.Proofs.Ytcpgpnilglbmoaa
open Go.RowKit Go.Proofs.Bits
set_option linter.unusedVariables false

theorem num_back (n : Nat) (wd : Int) (h : numE n wd = 0) : valV (numV n wd) = n ∧ valE (numV n wd) = 0 := by
  unfold numE at h
  split at h
  · simp at h
  · rename_i hc
    obtain ⟨k, rfl⟩ := Int.eq_ofNat_of_zero_le (show 0 ≤ wd by omega)
    have e : numV n (k : Int) = numL n k := by unfold numV; rw [if_neg hc]; rfl
    simp only [Int.toNat_natCast] at hc
    have hl := numL_length n k
    have he : err (numL n k) = 0 := by
      unfold err
      rw [if_neg (by omega), if_pos (numL_all n k)]
    have hz : n / 2 ^ k = 0 := by omega
    have hlt : n < 2 ^ k := by
      rcases Nat.lt_or_ge n (2 ^ k) with h | h
      · exact h
      · have := Nat.div_pos h (Nat.two_pow_pos k); omega
    rw [e]
    constructor
    · unfold valV
      rw [if_pos he, if_neg (by omega), numL_val, Nat.mod_eq_of_lt hlt]
    · unfold valE
      rw [if_pos he, if_neg (by omega)]

set_option maxHeartbeats 1000000 in
theorem numbers_walk (n : Nat) (wd : Int) (s : ByteArray) (w : World) (hu : n < 18446744073709551616) :
    Calls Try.prog 3 #[.int .u64 n, .int .i64 wd, .string s] w fun e w' => e = .returned (.bool true) ∧ Below w.heap.size w w' := by
  have HU : Hid (n < 18446744073709551616) := hu
  clear hu
  go_enter Try.func3, Try.ntmps3
  go_wp2_with fail
  refine (Number_any n wd _ HU.out).mono ?_
  rintro e w1 ⟨rfl, b1⟩
  go_wp2_with fail
  refine (rNumber_any n wd _ HU.out).mono ?_
  rintro e w2 ⟨rfl, b2⟩
  go_wp2_with fail
  refine (Value_any s _).mono ?_
  rintro e w3 ⟨rfl, b3⟩
  go_wp2_with fail
  refine (rValue_any s _).mono ?_
  rintro e w4 ⟨rfl, rfl⟩
  go_wp2_with fail
  refine (Valid_any s _).mono ?_
  rintro e w5 ⟨rfl, b5⟩
  go_wp2_with fail
  refine (Check_any s _).mono ?_
  rintro e w6 ⟨rfl, rfl⟩
  have s1 := b1.size
  have s2 := b2.size
  have s3 := b3.size
  have s5 := b5.size
  by_cases h0 : numE n wd = 0
  · have hh := num_back n wd h0
    have HV : Hid (valV (numV n wd) = n) := hh.1
    have HE : Hid (valE (numV n wd) = 0) := hh.2
    rw [h0]
    clear hh h0
    go_wp2_with fail
    refine (Value_any _ _).mono ?_
    rintro e w7 ⟨rfl, b7⟩
    rw [show (⟨(numV n wd).toArray⟩ : ByteArray).data.toList = numV n wd from rfl, HV.out, HE.out]
    go_wp2_with fail
    refine (lives_any _).mono ?_
    rintro e w8 ⟨rfl, b8⟩
    go_wp2
    go_ret
    have s7 := b7.size
    exact ⟨rfl, ((((b1.trans (b2.mono (by omega))).trans (b3.mono (by omega))).trans (b5.mono (by omega))).trans (b7.mono (by omega))).trans (b8.mono (by omega))⟩
  · have hb0 : (numE n wd == 0) = false := by simp [h0]
    go_wp2_with fail
    refine (lives_any _).mono ?_
    rintro e w8 ⟨rfl, b8⟩
    go_wp2
    go_ret
    exact ⟨rfl, (((b1.trans (b2.mono (by omega))).trans (b3.mono (by omega))).trans (b5.mono (by omega))).trans (b8.mono (by omega))⟩

theorem numbers_int (a : Int) (ha : (Lit.int .u64 a).wf = true) (wd : Int) (s : ByteArray) (w : World) :
    Calls Try.prog 3 #[.int .u64 a, .int .i64 wd, .string s] w fun e w' => e = .returned (.bool true) ∧ Below w.heap.size w w' := by
  have hx : 0 ≤ a ∧ a ≤ 18446744073709551615 := by simpa [Lit.wf, IntKind.min, IntKind.max, IntKind.signed, IntKind.bits] using ha
  obtain ⟨n, rfl⟩ := Int.eq_ofNat_of_zero_le hx.1
  exact numbers_walk n wd s w (by omega)
end Go.Proofs.Ytcpgpnilglbmoaa
