/- Contracts of Value and Number. -/
import Derived.Test.YtffajokpfobalaaBuild
import Derived.Test.YtffajokpfobalaaMathN
import Derived.Test.YtffajokpfobalaaSums
namespace Go.Proofs.Ytffajokpfobalaa
open Go.RowKit Go.Proofs.Bits
set_option linter.unusedVariables false
set_option maxRecDepth 1000000

theorem wrap64_small (x : Nat) (h : x < 9223372036854775808) : IntKind.u64.wrap ((x : Int) * 2) = ((x * 2 : Nat) : Int) := by
  have e : ∀ n : Int, IntKind.u64.wrap n = n % 18446744073709551616 := fun n => by simp [IntKind.wrap, IntKind.bits, IntKind.signed]
  rw [e]; omega
theorem or_bit (x b : Nat) (hb : b ≤ 1) : x * 2 ||| b = x * 2 + b := by
  exact nat_join 1 (x * 2) b (by omega) (by omega)
theorem num_val (x : Nat) (c : UInt8) (hc : c.toNat = 48 ∨ c.toNat = 49) (h : x < 9223372036854775808) :
    bits BinOp.or IntKind.u64 (IntKind.u64.wrap ((x : Int) * 2)) ((c.toNat : Int) - 48) = ((valStep x c : Nat) : Int) := by
  rw [wrap64_small x h, show ((c.toNat : Int) - 48) = ((c.toNat - 48 : Nat) : Int) by omega, u64_or_nat _ _ (by omega) (by omega), or_bit _ _ (by omega)]
  rfl
theorem val_small (s : ByteArray) (pos : Nat) (hall : s.data.toList.all isBit = true) (hp : pos < s.size) (h64 : ¬ 64 < s.size) : val (s.data.toList.take pos) < 9223372036854775808 := by
  have h1 : (s.data.toList.take pos).all isBit = true := by
    rw [List.all_eq_true] at hall ⊢
    exact fun c hc => hall c (List.mem_of_mem_take hc)
  have h2 := val_lt _ h1
  have h3 : (s.data.toList.take pos).length = pos := by rw [List.length_take, size_len]; omega
  rw [h3] at h2
  exact Nat.lt_of_lt_of_le h2 (Nat.pow_le_pow_right (n := 2) (i := pos) (j := 63) (by omega) (by omega))

theorem num_bit (n j : Nat) (hu : n < 18446744073709551616) : wrap32 (48 + wrap32 (bits BinOp.and IntKind.u64 ((n : Int) / 2 ^ j) 1)) = ((bitc (n / 2 ^ j % 2)).toNat : Int) := by
  have e : ((n : Int) / 2 ^ j) = ((n / 2 ^ j : Nat) : Int) := by simp
  have hd : n / 2 ^ j < 18446744073709551616 := Nat.lt_of_le_of_lt (Nat.div_le_self _ _) hu
  rw [e, show (1 : Int) = ((1 : Nat) : Int) from rfl, u64_and_nat _ _ hd (by omega), nat_mask1, bitc_val _ (by omega)]
  simp only [wrap32]
  omega

set_option maxHeartbeats 400000 in
theorem Number_ok (n wd : Nat) (w : World) (hu : n < 18446744073709551616) (hw : wd ≤ 64) (hn : n / 2 ^ wd = 0) :
    Calls Try.prog 41 #[.int .u64 n, .int .i64 wd] w fun e w' => e = .returned (.tuple #[.string ⟨(numL n wd).toArray⟩, .int .i64 0]) ∧ Below w.heap.size w w' := by
  have hd1 : decide ((wd : Int) < 0) = false := by simp
  have hd2 : decide (64 < (wd : Int)) = false := by simp; omega
  have hd3 : ((n : Int) / 2 ^ wd != 0) = false := by
    have : ((n : Int) / 2 ^ wd) = ((n / 2 ^ wd : Nat) : Int) := by simp
    rw [this, hn]; rfl
  have HU : Hid (n < 18446744073709551616) := hu
  clear hn hu
  go_enter Try.func41, Try.ntmps41
  go_wp2_with fail
  go_loopw [21] (fun i wr => ∃ k : Nat, k ≤ wd ∧ i = .int .i64 k ∧ Lib.IsBuilderF 48 5 w.heap.size w.heap.size (Lib.byteCells (numL (n / 2 ^ (wd - k)) k)) wr ∧ Below w.heap.size w wr ∧ w.heap.size < wr.heap.size) (fun i _ => wd - (intOf i).toNat)
  case atStart => exact ⟨0, Nat.zero_le _, rfl, Lib.IsBuilderF.of (Lib.fresh_isBuilder 48 5 w), (Below.refl _ _).alloc (Nat.le_refl _) _, by simp⟩
  case round =>
    obtain ⟨k, hk, rfl, hI, hb, hlt⟩ := hrel
    by_cases hkw : k < wd
    · have HS : Hid (numL (n / 2 ^ (wd - (k + 1))) (k + 1) = numL (n / 2 ^ (wd - k)) k ++ [bitc (n / 2 ^ (wd - 1 - k) % 2)]) := numL_next n wd k hkw
      have hl := numL_length (n / 2 ^ (wd - k)) k
      generalize numL (n / 2 ^ (wd - k)) k = acc at hl hI HS
      have hbc := bitc_bit (n / 2 ^ (wd - 1 - k) % 2)
      go_wp2_with fail
      rw [num_bit n (wd - 1 - k) HU.out]
      refine (WriteRune_byte w.heap.size w.heap.size acc (bitc (n / 2 ^ (wd - 1 - k) % 2)) _ rfl (by omega) _ hI (by omega) (by omega)).mono ?_
      rintro e w2 ⟨rfl, hI2, b2, k2⟩
      have s2 := b2.size
      go_wp2
      go_roundw
      case rel => exact ⟨k + 1, by omega, by go_num, by rw [HS.out]; exact hI2, hb.trans b2, by omega⟩
      case measure => simp [intOf]; omega
    · obtain rfl : k = wd := by omega
      rw [Nat.sub_self, Nat.pow_zero, Nat.div_one] at hI
      go_wp2_with (go_at_call 16; refine (Try.Builder_String_any_k w.heap.size w.heap.size _ _ hI (by omega)).mono ?_)
      rintro e w2 ⟨rfl, _, b2, _⟩
      go_wp2
      go_ret2
      exact ⟨rfl, hb.trans b2⟩

set_option maxHeartbeats 400000 in
theorem Number_bad (n : Nat) (wd : Int) (w : World) (h : wd < 0 ∨ 64 < wd ∨ n / 2 ^ wd.toNat ≠ 0) :
    Calls Try.prog 41 #[.int .u64 n, .int .i64 wd] w fun e w' => e = .returned (.tuple #[.string ⟨#[]⟩, .int .i64 1]) ∧ Below w.heap.size w w' := by
  by_cases h1 : wd < 0
  · have hd1 : decide (wd < 0) = true := by simpa using h1
    clear h
    go_enter Try.func41, Try.ntmps41
    go_wp2
    go_ret2
    exact ⟨rfl, Below.refl _ _⟩
  · by_cases h2 : 64 < wd
    · have hd1 : decide (wd < 0) = false := by simpa using h1
      have hd2 : decide (64 < wd) = true := by simpa using h2
      clear h
      go_enter Try.func41, Try.ntmps41
      go_wp2
      go_ret2
      exact ⟨rfl, Below.refl _ _⟩
    · obtain ⟨k, rfl⟩ := Int.eq_ofNat_of_zero_le (Int.not_lt.1 h1)
      have hd1 : decide ((k : Int) < 0) = false := by simp
      have hd2 : decide (64 < (k : Int)) = false := by simpa using h2
      have hd3 : ((n : Int) / 2 ^ k != 0) = true := by
        have hne : n / 2 ^ k ≠ 0 := by
          rcases h with h | h | h
          · omega
          · omega
          · simpa using h
        have : ((n : Int) / 2 ^ k) = ((n / 2 ^ k : Nat) : Int) := by simp
        rw [this, bne_iff_ne]; omega
      clear h h1
      go_enter Try.func41, Try.ntmps41
      go_wp2
      go_ret2
      exact ⟨rfl, Below.refl _ _⟩

theorem Number_any (n : Nat) (wd : Int) (w : World) (hu : n < 18446744073709551616) :
    Calls Try.prog 41 #[.int .u64 n, .int .i64 wd] w fun e w' => e = .returned (.tuple #[.string ⟨(numV n wd).toArray⟩, .int .i64 (numE n wd)]) ∧ Below w.heap.size w w' := by
  by_cases h : wd < 0 ∨ 64 < wd ∨ n / 2 ^ wd.toNat ≠ 0
  · rw [numV, numE, if_pos h, if_pos h]
    exact Number_bad n wd w h
  · rw [numV, numE, if_neg h, if_neg h]
    obtain ⟨k, rfl⟩ := Int.eq_ofNat_of_zero_le (show 0 ≤ wd by omega)
    simp only [Int.toNat_natCast] at h ⊢
    exact Number_ok n k w hu (by omega) (by omega)
end Go.Proofs.Ytffajokpfobalaa
