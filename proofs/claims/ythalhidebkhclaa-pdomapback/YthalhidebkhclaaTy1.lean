/- Contracts: kindOf, width, Size, cut, extend, printable. -/
import Derived.Test.YthalhidebkhclaaTyMath
import Derived.Test.YthalhidebkhclaaProg
import Derived.WalkKit
import Derived.WalkSmall
import Derived.Deep.QuietTactic
import Derived.BigQuiet
import Derived.Below
namespace Go.Proofs.Ythalhidebkhclaa
open Go.RowKit Go.Proofs.Ty
set_option linter.unusedVariables false
set_option maxRecDepth 1000000

theorem ret_int {k : IntKind} {a b : Int} (h : a = b) : Ending.returned (.int k a) = .returned (.int k b) := by rw [h]
theorem ret_bool {a b : Bool} (h : a = b) : Ending.returned (.bool a) = .returned (.bool b) := by rw [h]

set_option maxHeartbeats 1000000 in
theorem kindOf_any (t : Int) (w : World) :
    Calls Try.prog 60 #[.int .i64 t] w fun e w' => e = .returned (.int .i64 (kind t)) ∧ w' = w := by
  go_enter Try.func60, Try.ntmps60
  go_wp2
  all_goals go_ret
  all_goals exact ⟨ret_int (by simp_all [kind]), rfl⟩
set_option maxHeartbeats 1000000 in
theorem width_any (t : Int) (w : World) :
    Calls Try.prog 68 #[.int .i64 t] w fun e w' => e = .returned (.int .i64 (wid t)) ∧ w' = w := by
  go_enter Try.func68, Try.ntmps68
  go_wp2
  all_goals go_ret
  all_goals exact ⟨ret_int (by simp_all [wid]), rfl⟩
theorem Size_any (t : Int) (w : World) :
    Calls Try.prog 52 #[.int .i64 t] w fun e w' => e = .returned (.tuple #[.int .i64 (siz t), .bool (decide (0 < siz t))]) ∧ w' = w := by
  have hs := siz_wid t
  have h := wid_cases t
  have hC := width_any t
  generalize wid t = b at *
  generalize siz t = z at *
  go_enter Try.func52, Try.ntmps52
  rcases h with rfl | rfl | rfl | rfl | rfl | rfl
  all_goals
    go_wp2_with (go_at_call 68; refine (hC _).mono ?_; rintro e w1 ⟨rfl, rfl⟩)
    go_ret2
    subst hs
    exact ⟨rfl, rfl⟩
theorem cut_any (t : Int) (n : Nat) (hn : n < 18446744073709551616) (hk : kind t = 1) (w : World) :
    Calls Try.prog 65 #[.int .i64 t, .int .u64 n] w fun e w' => e = .returned (.int .u64 (n % 2 ^ wid t : Nat)) ∧ w' = w := by
  have h := kind_wid1 hk
  have hC := width_any t
  generalize wid t = b at *
  clear hk
  go_enter Try.func65, Try.ntmps65
  rcases h with rfl | rfl | rfl | rfl | rfl
  all_goals
    go_wp2_with (go_at_call 68; refine (hC _).mono ?_; rintro e w1 ⟨rfl, rfl⟩)
    go_ret
    refine ⟨ret_int ?_, rfl⟩
    simp [IntKind.wrap, IntKind.bits, IntKind.signed]
    omega
theorem extend_any (t : Int) (n : Nat) (hn : n < 18446744073709551616) (hk : kind t = 2) (w : World) :
    Calls Try.prog 66 #[.int .i64 t, .int .u64 n] w fun e w' => e = .returned (.int .u64 (extN (wid t) n)) ∧ w' = w := by
  have h := kind_wid2 hk
  have hC := width_any t
  generalize wid t = b at *
  clear hk
  go_enter Try.func66, Try.ntmps66
  rcases h with rfl | rfl | rfl | rfl
  all_goals
    go_wp2_with (go_at_call 68; refine (hC _).mono ?_; rintro e w1 ⟨rfl, rfl⟩)
    go_ret
    refine ⟨ret_int ?_, rfl⟩
    simp [wrap64, IntKind.wrap, IntKind.bits, IntKind.signed, extN]
    try ((try split) <;> omega)
set_option maxHeartbeats 400000 in
theorem printable_any (s : ByteArray) (hs : s.size ≤ 65536) (w : World) :
    Calls Try.prog 67 #[.string s] w fun e w' => e = .returned (.bool (prn s.data.toList)) ∧ w' = w := by
  go_enter Try.func67, Try.ntmps67
  go_wp2
  go_loop [6] (fun i => ∃ k : Nat, k ≤ s.size ∧ i = .int .i64 k ∧ prn (s.data.toList.take k) = true) (fun i => s.size - (intOf i).toNat)
  case atStart => exact ⟨0, Nat.zero_le _, rfl, by simp [prn]⟩
  case round =>
    obtain ⟨k, hle, rfl, hall⟩ := hrel
    by_cases hp : k < s.size
    · by_cases h1 : s[k].toNat < 32
      · have H : Hid (prn s.data.toList = false) := prn_not k hp (.inl h1)
        have d1 : decide ((s[k].toNat : Int) < 32) = true := by simp; omega
        go_wp2
        go_ret
        exact ⟨ret_bool H.out.symm, rfl⟩
      · have d1 : decide ((s[k].toNat : Int) < 32) = false := by simp; omega
        by_cases h2 : 126 < s[k].toNat
        · have H : Hid (prn s.data.toList = false) := prn_not k hp (.inr h2)
          have d2 : decide (126 < (s[k].toNat : Int)) = true := by simp; omega
          go_wp2
          go_ret
          exact ⟨ret_bool H.out.symm, rfl⟩
        · have d2 : decide (126 < (s[k].toNat : Int)) = false := by simp; omega
          have H : Hid (prn (s.data.toList.take (k + 1)) = true) := by
            show prn _ = true
            rw [take_snoc s k hp]; exact prn_snoc hall (by omega) (by omega)
          go_wp2
          go_round
          case rel => exact ⟨k + 1, by omega, by go_num, H.out⟩
          case measure => simp [intOf]; omega
    · go_wp2
      go_ret
      obtain rfl : k = s.size := by omega
      rw [take_all] at hall
      exact ⟨ret_bool hall.symm, rfl⟩
end Go.Proofs.Ythalhidebkhclaa
