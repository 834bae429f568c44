/- The law FaultCalm returns true whatever bytes come in. -/
import Derived.Test.YtajoganfpppimaaUOpen
namespace Go.Proofs.Ytajoganfpppimaa
open Go.RowKit
set_option linter.unusedVariables false
set_option maxRecDepth 1000000

theorem calm_fail (q : Bool) : Un.nul.fail q = ⟨8, 0, 0⟩ := by cases q <;> rfl
theorem calm_sent (k : Nat) : (⟨8 - k, 0, 0⟩ : Un).sent = ⟨8 - (k + 1), 0, 0⟩ := by
  unfold Un.sent
  rw [if_neg (by simp only; omega)]
  simp only [Un.mk.injEq, and_true]
  omega
theorem calm_ok (k : Nat) : (⟨8 - k, 0, 0⟩ : Un).ok := ⟨by simp only; omega, by simp, by simp⟩
set_option maxHeartbeats 2000000 in
theorem calm_walk (v : Value) (l : List UInt8) (w : World) (hl : l.length ≤ 140737488351232) (hB : Bytes w v l) :
    Calls Try.prog 5 #[v] w fun e w' => e = .returned (.bool true) ∧ Below w.heap.size w w' := by
  obtain ⟨ao, cap, rfl, _, hc⟩ := hB
  have HC : Hid (∀ (wr : World), Below w.heap.size w wr → ∀ k (hk : k < l.length), ∃ b off, ao = some ⟨b, off, none⟩ ∧ b < w.heap.size ∧ wr.cell? ⟨b, off + k, none⟩ = some (.int .u8 l[k].toNat)) := fun wr hb k hk => Bytes.at (cap := cap) hc hb k hk
  have U0 := Ua.new w
  have B0 : Below w.heap.size w (w.alloc (.cells #[.int .i64 0, .int .i64 0, .int .i64 0] 44)) := (Below.refl _ _).alloc (Nat.le_refl _) _
  clear hc
  go_enter Try.func5, Try.ntmps5
  go_wp2_with (go_at_call 8; refine (new_any _).mono ?_; rintro e w' ⟨rfl, rfl⟩)
  generalize w.alloc (.cells #[.int .i64 0, .int .i64 0, .int .i64 0] 44) = w1 at *
  generalize hg : w.heap.size = g at *
  go_loopw [4] (fun i x => ∃ k : Nat, k ≤ l.length ∧ i = .int .i64 k ∧ Ua g Un.nul x ∧ Below g w x) (fun i _ => l.length - (intOf i).toNat)
  case atStart => exact ⟨0, Nat.zero_le _, rfl, U0, B0⟩
  case round =>
    clear U0 B0
    obtain ⟨k, hk, rfl, U1, B1⟩ := hrel
    by_cases hkl : k < l.length
    · obtain ⟨W, hW⟩ : ∃ W, W = wr := ⟨wr, rfl⟩
      subst hW
      go_wp2_with fail
      refine (fail_any _ Un.ok_nul U1).mono ?_
      rintro e w2 ⟨rfl, U2, T2⟩
      rw [calm_fail] at U2
      have B2 : Below g w w2 := B1.trans (T2.below (by have := B1.size; omega) (Nat.le_refl _) (Nat.le_refl _))
      have HS := state_any U2
      have e0 : (⟨8, 0, 0⟩ : Un).state = 0 := rfl
      rw [e0] at HS
      clear e0 T2 U1 B1
      go_wp2_with (go_at_call 11; refine HS.mono ?_; rintro e w3 ⟨rfl, n, rfl⟩)
      have U3 := U2.drawn n
      have B3 : Below g w (w2.drewN n) := ⟨B2.os, B2.tape, B2.output, B2.size, B2.block⟩
      generalize w2.drewN n = w3 at *
      clear U2 B2 HS
      go_loopw [5] (fun j x => ∃ m : Nat, m ≤ 8 + l[k].toNat ∧ j = .int .i64 m ∧ Ua g ⟨8 - m, 0, 0⟩ x ∧ Below g w x) (fun j _ => 8 + l[k].toNat - (intOf j).toNat)
      case atStart => exact ⟨0, Nat.zero_le _, rfl, U3, B3⟩
      case round =>
        clear U3 B3
        obtain ⟨m, hm, rfl, U4, B4⟩ := hrel
        obtain ⟨b, off, rfl, hb, hcell⟩ := HC.out wr B4 k hkl
        have h255 : l[k].toNat < 256 := UInt8.toNat_lt _
        generalize l[k].toNat = z at *
        by_cases hmz : m < 8 + z
        · have hd : decide ((m : Int) < 8 + (z : Int)) = true := by simp; omega
          go_wp2_with fail
          refine (sent_any (calm_ok m) U4).mono ?_
          rintro e w5 ⟨rfl, U5, T5⟩
          rw [calm_sent] at U5
          have B5 : Below g w w5 := B4.trans (T5.below (by have := B4.size; omega) (Nat.le_refl _) (Nat.le_refl _))
          clear U4 B4 T5
          go_wp2
          go_roundw
          case rel => exact ⟨m + 1, by omega, by go_num, U5, B5⟩
          case measure => simp [intOf]; omega
        · obtain rfl : m = 8 + z := by omega
          have hd : decide (((8 + z : Nat) : Int) < 8 + (z : Int)) = false := by simp
          have U5 : Ua g Un.nul wr := by
            have e : (⟨8 - (8 + z), 0, 0⟩ : Un) = Un.nul := by
              show (⟨8 - (8 + z), 0, 0⟩ : Un) = ⟨0, 0, 0⟩
              rw [Un.mk.injEq]
              omega
            rw [← e]; exact U4
          go_wp2
          go_roundw
          case rel => exact ⟨k + 1, by omega, by go_num, U5, B4⟩
          case measure => simp [intOf]; omega
    · obtain rfl : k = l.length := by omega
      have HC := counts_any U1
      have e1 : Un.nul.s = 0 := rfl
      have e2 : Un.nul.r = 0 := rfl
      rw [e1, e2] at HC
      go_wp2_with (go_at_call 10; refine HC.mono ?_; rintro e w3 ⟨rfl, n, rfl⟩)
      refine (lives3_any _).mono ?_
      rintro e w4 ⟨rfl, B4⟩
      have B5 : Below g w (wr.drewN n) := ⟨B1.os, B1.tape, B1.output, B1.size, B1.block⟩
      go_wp2
      go_ret
      exact ⟨rfl, by rw [hg]; exact B5.trans (B4.mono (by have := B5.size; omega))⟩
end Go.Proofs.Ytajoganfpppimaa
