/- Contracts: joined, fits. -/
import Derived.Test.YthalhidebkhclaaTy4
import Derived.Test.YthalhidebkhclaaTy5
import Derived.Laws.BitsAllLaws
namespace Go.Proofs.Ythalhidebkhclaa
open Go.RowKit Go.Proofs.Ty
set_option linter.unusedVariables false
set_option maxRecDepth 1000000

theorem val_int {k : IntKind} {a b : Int} (h : a = b) : Value.int k a = .int k b := by rw [h]
theorem two8 (k : Nat) : 2 ^ (k * 8) = 256 ^ k := by rw [Nat.mul_comm, Nat.pow_mul]
theorem two8i (k : Nat) : (2 : Int) ^ (k * 8) = ((256 ^ k : Nat) : Int) := by
  rw [← two8]
  simp
theorem wrapU (n : Int) : IntKind.u64.wrap n = n % 18446744073709551616 := by simp [IntKind.wrap, IntKind.bits, IntKind.signed]
/-- One byte more put into a number. -/
theorem join_step (l : List UInt8) (k : Nat) (hk : k < l.length) (h8 : l.length ≤ 8) :
    bits BinOp.or IntKind.u64 ((joinL (l.take k) : Nat) : Int) (IntKind.u64.wrap ((l[k].toNat : Int) * 2 ^ (k * 8))) = ((joinL (l.take (k + 1)) : Nat) : Int) := by
  have hc := l[k].toNat_lt
  have hlen : (l.take k).length = k := by rw [List.length_take]; omega
  have h1 := joinL_lt (l.take k)
  rw [hlen] at h1
  have hp : 256 ^ k ≤ 256 ^ 7 := Nat.pow_le_pow_right (by omega) (by omega)
  have hx : l[k].toNat * 256 ^ k < 18446744073709551616 := by
    have : l[k].toNat * 256 ^ k ≤ 255 * 256 ^ 7 := Nat.mul_le_mul (by omega) hp
    have e : 255 * 256 ^ 7 < 18446744073709551616 := by decide
    omega
  have e : ((l[k].toNat : Int) * 2 ^ (k * 8)) = ((l[k].toNat * 256 ^ k : Nat) : Int) := by rw [two8i]; simp
  have ew : IntKind.u64.wrap ((l[k].toNat * 256 ^ k : Nat) : Int) = ((l[k].toNat * 256 ^ k : Nat) : Int) := by
    rw [wrapU]
    omega
  have e7 : (256 : Nat) ^ 7 < 18446744073709551616 := by decide
  rw [e, ew, u64_or_nat _ _ (by omega) hx, Nat.or_comm, nat_join (k * 8) _ _ (by rw [two8]; exact Nat.mul_mod_left _ _) (by rw [two8]; exact h1), List.take_succ_eq_append_getElem hk, joinL_snoc, hlen, Nat.add_comm]

set_option maxHeartbeats 1000000 in
theorem joined_v (x : Value) (l : List UInt8) (w : World) (h8 : l.length ≤ 8) (hB : Bytes w x l) :
    Calls Try.prog 71 #[x] w fun e w' => e = .returned (.int .u64 (joinL l)) ∧ w' = w := by
  obtain ⟨ao, cap, rfl, h0, hc⟩ := hB
  have HS := hidOf (join_step l)
  go_enter Try.func71, Try.ntmps71
  go_wp2
  go_loop [3, 7] (fun n i => ∃ k : Nat, k ≤ l.length ∧ i = .int .i64 k ∧ n = .int .u64 (joinL (l.take k))) (fun _ i => l.length - (intOf i).toNat)
  case atStart => exact ⟨0, Nat.zero_le _, rfl, rfl⟩
  case round =>
    obtain ⟨k, hk, rfl, rfl⟩ := hrel
    by_cases hkl : k < l.length
    · obtain ⟨b, off, rfl, hlt, hcell⟩ := hc k hkl
      have H1 := hidOf (HS.out k hkl h8)
      have hcl := l[k].toNat_lt
      generalize hJ : joinL (l.take k) = J at *
      go_wp2
      go_round
      case rel => exact ⟨k + 1, by omega, by go_num, val_int (by first | exact H1.out | (rw [← H1.out]; simp))⟩
      case measure => simp [intOf]; omega
    · go_wp2
      go_ret
      obtain rfl : k = l.length := by omega
      exact ⟨ret_int (by rw [List.take_of_length_le (Nat.le_refl _)]), rfl⟩
/-- Whether a type may have so many bytes. -/
def fitE (t : Int) (n : Nat) : Nat := if kind t = 0 then 1 else if n < siz t then 3 else if (0 < siz t ∧ siz t < n) ∨ 65536 < n then 2 else 0
set_option maxHeartbeats 1000000 in
theorem fits_v (t : Int) (n : Nat) (w : World) :
    Calls Try.prog 70 #[.int .i64 t, .int .i64 n] w fun e w' => e = .returned (.int .i64 (fitE t n)) ∧ w' = w := by
  have hK := kindOf_any t
  have hS := Size_any t
  have HE : Hid (fitE t n = if kind t = 0 then 1 else if n < siz t then 3 else if (0 < siz t ∧ siz t < n) ∨ 65536 < n then 2 else 0) := rfl
  have HZ := hidOf (siz_zero t)
  generalize kind t = K at *
  generalize siz t = z at *
  generalize fitE t n = E at *
  go_enter Try.func70, Try.ntmps70
  by_cases h0 : K = 0
  · subst h0
    have e1 := hidOf (show E = 1 by rw [HE.out]; simp)
    go_wp2_with (first | (go_at_call 52; refine (hS _).mono ?_; rintro e w2 ⟨rfl, rfl⟩) | (go_at_call 60; refine (hK _).mono ?_; rintro e w2 ⟨rfl, rfl⟩))
    go_ret
    exact ⟨ret_int (by rw [e1.out]; rfl), rfl⟩
  · have dK : ((K : Int) == 0) = false := by simpa using h0
    by_cases hz : 0 < z
    · have dz : decide (0 < z) = true := by simpa using hz
      rw [dz] at hS
      by_cases h1 : n < z
      · have e1 := hidOf (show E = 3 by rw [HE.out]; simp [h0, h1])
        go_wp2_with (first | (go_at_call 52; refine (hS _).mono ?_; rintro e w2 ⟨rfl, rfl⟩) | (go_at_call 60; refine (hK _).mono ?_; rintro e w2 ⟨rfl, rfl⟩))
        go_ret
        exact ⟨ret_int (by rw [e1.out]; rfl), rfl⟩
      · by_cases h2 : z < n
        · have e1 := hidOf (show E = 2 by rw [HE.out]; simp [h0, h1, hz, h2])
          go_wp2_with (first | (go_at_call 52; refine (hS _).mono ?_; rintro e w2 ⟨rfl, rfl⟩) | (go_at_call 60; refine (hK _).mono ?_; rintro e w2 ⟨rfl, rfl⟩))
          go_ret
          exact ⟨ret_int (by rw [e1.out]; rfl), rfl⟩
        · by_cases h3 : 65536 < n
          · have e1 := hidOf (show E = 2 by rw [HE.out]; simp [h0, h1, h3])
            go_wp2_with (first | (go_at_call 52; refine (hS _).mono ?_; rintro e w2 ⟨rfl, rfl⟩) | (go_at_call 60; refine (hK _).mono ?_; rintro e w2 ⟨rfl, rfl⟩))
            go_ret
            exact ⟨ret_int (by rw [e1.out]; rfl), rfl⟩
          · have e1 := hidOf (show E = 0 by rw [HE.out]; simp [h0, h1, h2, h3])
            go_wp2_with (first | (go_at_call 52; refine (hS _).mono ?_; rintro e w2 ⟨rfl, rfl⟩) | (go_at_call 60; refine (hK _).mono ?_; rintro e w2 ⟨rfl, rfl⟩))
            go_ret
            exact ⟨ret_int (by rw [e1.out]; rfl), rfl⟩
    · have dz : decide (0 < z) = false := by simpa using hz
      rw [dz] at hS
      by_cases h3 : 65536 < n
      · have e1 := hidOf (show E = 2 by rw [HE.out]; simp [h0, h3]; omega)
        go_wp2_with (first | (go_at_call 52; refine (hS _).mono ?_; rintro e w2 ⟨rfl, rfl⟩) | (go_at_call 60; refine (hK _).mono ?_; rintro e w2 ⟨rfl, rfl⟩))
        go_ret
        exact ⟨ret_int (by rw [e1.out]; rfl), rfl⟩
      · have e1 := hidOf (show E = 0 by rw [HE.out]; simp [h0, h3, hz]; omega)
        go_wp2_with (first | (go_at_call 52; refine (hS _).mono ?_; rintro e w2 ⟨rfl, rfl⟩) | (go_at_call 60; refine (hK _).mono ?_; rintro e w2 ⟨rfl, rfl⟩))
        go_ret
        exact ⟨ret_int (by rw [e1.out]; rfl), rfl⟩
end Go.Proofs.Ythalhidebkhclaa
