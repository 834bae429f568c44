/- The law BitsStuffs returns true whatever text comes in. -/
import Derived.Test.YtcpgpnilglbmoaaRStuff
import Derived.Test.YtcpgpnilglbmoaaRUnstuff
import Derived.Test.YtcpgpnilglbmoaaLives
namespace Go.Proofs.Ytcpgpnilglbmoaa
open Go.RowKit Go.Proofs.Bits
set_option linter.unusedVariables false

set_option maxHeartbeats 1000000 in
theorem stuffs_small (s : ByteArray) (w : World) (h : err s.data.toList ≠ 0 ∨ 65536 < (stuffV s.data.toList).length) :
    Calls Try.prog 4 #[.string s] w fun e w' => e = .returned (.bool true) ∧ Below w.heap.size w w' := by
  go_enter Try.func4, Try.ntmps4
  go_wp2_with fail
  refine (Stuff_any s _).mono ?_
  rintro e w1 ⟨rfl, b1⟩
  go_wp2_with fail
  refine (rStuff_any s _).mono ?_
  rintro e w2 ⟨rfl, b2⟩
  go_wp2_with fail
  refine (Unstuff_any s _).mono ?_
  rintro e w3 ⟨rfl, b3⟩
  go_wp2_with fail
  refine (rUnstuff_any s _).mono ?_
  rintro e w4 ⟨rfl, b4⟩
  have s1 := b1.size
  have s2 := b2.size
  have s3 := b3.size
  have s4 := b4.size
  have bb : Below w.heap.size w w4 := ((b1.trans (b2.mono (by omega))).trans (b3.mono (by omega))).trans (b4.mono (by omega))
  by_cases h0 : err s.data.toList = 0
  · have hl : 65536 < (stuffV s.data.toList).length := by rcases h with h | h <;> simp_all
    have hne : (err s.data.toList != 0) = false := by rw [h0]; rfl
    have hgt : decide ((65536 : Int) < (((⟨(stuffV s.data.toList).toArray⟩ : ByteArray).size : Nat) : Int)) = true := by
      rw [decide_eq_true_eq]
      have : (⟨(stuffV s.data.toList).toArray⟩ : ByteArray).size = (stuffV s.data.toList).length := by simp [ByteArray.size]
      omega
    clear h h0 hl
    generalize (⟨(stuffV s.data.toList).toArray⟩ : ByteArray) = A at hgt ⊢
    go_wp2_with fail
    refine (lives_any _).mono ?_
    rintro e w5 ⟨rfl, b5⟩
    go_wp2
    go_ret
    exact ⟨rfl, bb.trans (b5.mono (by omega))⟩
  · have hne : (err s.data.toList != 0) = true := by rw [bne_iff_ne]; exact h0
    clear h h0
    generalize (⟨(stuffV s.data.toList).toArray⟩ : ByteArray) = A
    go_wp2_with fail
    refine (lives_any _).mono ?_
    rintro e w5 ⟨rfl, b5⟩
    go_wp2
    go_ret
    exact ⟨rfl, bb.trans (b5.mono (by omega))⟩

set_option maxHeartbeats 2000000 in
set_option maxRecDepth 1000000 in
theorem stuffs_ok (s : ByteArray) (w : World) (h0 : err s.data.toList = 0) (hl : (stuff s.data.toList).length ≤ 65536) :
    Calls Try.prog 4 #[.string s] w fun e w' => e = .returned (.bool true) ∧ Below w.heap.size w w' := by
  obtain ⟨_, hall⟩ := err_zero h0
  have HV : Hid (stuffV s.data.toList = stuff s.data.toList) := by show stuffV _ = _; simp [stuffV, h0]
  have hea : err (stuff s.data.toList) = 0 := by
    unfold err
    rw [if_neg (by omega), if_pos (stuff_all _ hall)]
  have HUA : Hid (unV (stuff s.data.toList) = (s.data.toList, (stuff s.data.toList).length, 0)) := by
    show unV _ = _
    rw [unV, if_pos hea, unstuff_stuff]
  have HR : Hid (∀ k, (rowOf ((stuff s.data.toList).take k)).2 ≤ 5) := rows_st s.data.toList
  have H0 : Hid (err s.data.toList = 0) := h0
  clear h0 hea
  go_enter Try.func4, Try.ntmps4
  go_wp2_with fail
  refine (Stuff_any s _).mono ?_
  rintro e w1 ⟨rfl, b1⟩
  rw [H0.out, HV.out]
  go_wp2_with fail
  refine (rStuff_any s _).mono ?_
  rintro e w2 ⟨rfl, b2⟩
  rw [H0.out, HV.out]
  go_wp2_with fail
  refine (Unstuff_any s _).mono ?_
  rintro e w3 ⟨rfl, b3⟩
  go_wp2_with fail
  refine (rUnstuff_any s _).mono ?_
  rintro e w4 ⟨rfl, b4⟩
  have s1 := b1.size
  have s2 := b2.size
  have s3 := b3.size
  have s4 := b4.size
  have bb : Below w.heap.size w w4 := ((b1.trans (b2.mono (by omega))).trans (b3.mono (by omega))).trans (b4.mono (by omega))
  clear b1 b2 b3 b4
  obtain ⟨A, hA⟩ : ∃ A : ByteArray, A = ⟨(stuff s.data.toList).toArray⟩ := ⟨_, rfl⟩
  have hAl : A.data.toList = stuff s.data.toList := by rw [hA]
  have hAs : A.size = (stuff s.data.toList).length := by rw [hA]; simp [ByteArray.size]
  rw [← hA]
  have hAz : A.size ≤ 65536 := by omega
  have HAL : Hid (A.data.toList = stuff s.data.toList) := hAl
  have HAS : Hid (A.size = (stuff s.data.toList).length) := hAs
  clear hA hAl hAs hl
  have hgt : decide ((65536 : Int) < (A.size : Int)) = false := by rw [decide_eq_false_iff_not]; omega
  go_wp2_with fail
  go_loopw [13, 14] (fun y i wr => ∃ (k : Nat), k ≤ A.size ∧ i = .int .i64 k ∧ y = .int .i64 (rowOf (A.data.toList.take k)).2 ∧ (∀ j (hj : j < A.size), k = j + 1 → (rowOf (A.data.toList.take k)).1 = A[j]) ∧ ∃ N, wr = w4.drewN N) (fun _ i _ => A.size - (intOf i).toNat)
  case atStart => exact ⟨0, Nat.zero_le _, rfl, rfl, fun j hj h => by omega, 0, rfl⟩
  case round =>
    obtain ⟨k, hk, rfl, rfl, hlast, N, rfl⟩ := hrel
    by_cases hp : k < A.size
    · have HS : Hid (rowOf (A.data.toList.take (k + 1)) = rowStep (rowOf (A.data.toList.take k)) A[k]) := by
        show rowOf _ = _
        rw [take_snoc A k hp, rowOf_snoc]
      have hr5 : (rowOf (A.data.toList.take (k + 1))).2 ≤ 5 := by
        have := HR.out (k + 1)
        rw [← HAL.out] at this
        exact this
      have hr50 : (rowOf (A.data.toList.take k)).2 ≤ 5 := by
        have := HR.out k
        rw [← HAL.out] at this
        exact this
      have HL1 : Hid (∀ j (hj : j < A.size), k + 1 = j + 1 → (rowOf (A.data.toList.take (k + 1))).1 = A[j]) := by
        intro j hj h
        obtain rfl : k = j := by omega
        rw [HS.out]; rfl
      cases k with
      | zero =>
        have e2 : (rowOf (A.data.toList.take (0 + 1))).2 = 1 := by
          rw [HS.out]
          show (if A[0] = 0 then _ else _) = _
          split <;> rfl
        have E2 : Hid ((rowOf (A.data.toList.take (0 + 1))).2 = 1) := e2
        clear hlast e2 HS hr5 hr50
        go_wp2_with fail
        go_quiet (fail)
        go_wp2
        go_roundw
        case rel => exact ⟨0 + 1, by omega, rfl, val_int (by rw [E2.out]; rfl), HL1.out, _, rfl⟩
        case measure => simp [intOf]; omega
      | succ j =>
        have hjA : j < A.size := by omega
        have hla := hlast j hjA rfl
        have hgt1 : decide ((0 : Int) < (j : Int) + 1) = true := by rw [decide_eq_true_eq]; omega
        have hi1 : (j : Int) + 1 < (A.size : Int) := by omega
        have hi2 : (j : Int) < (A.size : Int) := by omega
        have hi3 : (0 : Int) ≤ (j : Int) + 1 := by omega
        have hi4 : (0 : Int) ≤ (j : Int) := by omega
        clear hlast
        by_cases hc : A[j + 1] = A[j]
        · have hcb : ((A[j + 1].toNat : Int) == (A[j].toNat : Int)) = true := by rw [hc]; simp
          have e2 : (rowOf (A.data.toList.take (j + 1 + 1))).2 = (rowOf (A.data.toList.take (j + 1))).2 + 1 := by
            rw [HS.out]
            show (if A[j + 1] = (rowOf (A.data.toList.take (j + 1))).1 then _ else _) = _
            rw [hla, if_pos hc]
          have E2 : Hid ((rowOf (A.data.toList.take (j + 1 + 1))).2 = (rowOf (A.data.toList.take (j + 1))).2 + 1) := e2
          have h5b : decide ((5 : Int) < ((rowOf (A.data.toList.take (j + 1))).2 : Int) + 1) = false := by rw [decide_eq_false_iff_not]; omega
          clear hc hla e2 HS hr5
          generalize rowOf (A.data.toList.take (j + 1)) = r1 at *
          go_wp2_with fail
          go_quiet (fail)
          go_wp2
          go_roundw
          case rel => exact ⟨j + 1 + 1, by omega, by go_num, val_int (by rw [E2.out]; omega), HL1.out, _, rfl⟩
          case measure => simp [intOf]; omega
        · have hcb : ((A[j + 1].toNat : Int) == (A[j].toNat : Int)) = false := by
            rw [beq_eq_false_iff_ne]; intro e; exact hc (UInt8.toNat_inj.1 (by omega))
          have e2 : (rowOf (A.data.toList.take (j + 1 + 1))).2 = 1 := by
            rw [HS.out]
            show (if A[j + 1] = (rowOf (A.data.toList.take (j + 1))).1 then _ else _) = _
            rw [hla, if_neg hc]
          have E2 : Hid ((rowOf (A.data.toList.take (j + 1 + 1))).2 = 1) := e2
          clear hc hla e2 HS hr5
          generalize rowOf (A.data.toList.take (j + 1)) = r1 at *
          go_wp2_with fail
          go_quiet (fail)
          go_wp2
          go_roundw
          case rel => exact ⟨j + 1 + 1, by omega, by go_num, val_int (by rw [E2.out]; rfl), HL1.out, _, rfl⟩
          case measure => simp [intOf]; omega
    · obtain rfl : k = A.size := by omega
      clear hlast
      generalize rowOf (A.data.toList.take A.size) = r1
      go_wp2_with fail
      refine (Unstuff_any A _).mono ?_
      rintro e w5 ⟨rfl, b5⟩
      rw [HAL.out, HUA.out]
      simp only
      rw [show (⟨s.data.toList.toArray⟩ : ByteArray) = s by apply ByteArray.ext; simp, ← HAS.out]
      have s5 : w4.heap.size ≤ w5.heap.size := b5.size
      go_wp2_with fail
      refine (lives_any _).mono ?_
      rintro e w6 ⟨rfl, b6⟩
      go_wp2
      go_ret
      have b45 : Below w4.heap.size w4 w5 := (below_drawn (Below.refl _ w4) N).trans b5
      exact ⟨rfl, (bb.trans (b45.mono (by omega))).trans (b6.mono (by omega))⟩

theorem stuffs_walk (s : ByteArray) (w : World) :
    Calls Try.prog 4 #[.string s] w fun e w' => e = .returned (.bool true) ∧ Below w.heap.size w w' := by
  by_cases h0 : err s.data.toList = 0
  · by_cases hl : (stuff s.data.toList).length ≤ 65536
    · exact stuffs_ok s w h0 hl
    · refine stuffs_small s w (.inr ?_)
      rw [stuffV, if_pos h0]; omega
  · exact stuffs_small s w (.inl h0)
end Go.Proofs.Ytcpgpnilglbmoaa
