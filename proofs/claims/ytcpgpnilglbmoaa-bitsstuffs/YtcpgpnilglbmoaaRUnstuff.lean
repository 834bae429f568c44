/- The contract of the document's own Unstuff. -/
import Derived.Test.YtcpgpnilglbmoaaOne
import Derived.Test.YtcpgpnilglbmoaaMathU
import Derived.Test.YtcpgpnilglbmoaaSums
import Derived.Test.YtcpgpnilglbmoaaUnstuff
namespace Go.Proofs.Ytcpgpnilglbmoaa
open Go.RowKit Go.Proofs.Bits
set_option linter.unusedVariables false

theorem last_eq (s : ByteArray) (a b : Nat) (ha : a < s.size) (hb : b < s.size) (h : b = a) : s[a] = s[b] := by subst h; rfl

set_option maxHeartbeats 4000000 in
set_option maxRecDepth 1000000 in
theorem rUnstuff_ok (s : ByteArray) (w : World) (h0 : err s.data.toList = 0) :
    Calls Try.prog 19 #[.string s] w fun e w' => e = .returned (.tuple #[.string ⟨(unstuff s.data.toList).1.toArray⟩, .int .i64 (unstuff s.data.toList).2.1, .int .i64 (unstuff s.data.toList).2.2]) ∧ Below w.heap.size w w' := by
  obtain ⟨hl, hall⟩ := err_zero h0
  have hs : s.size ≤ 65536 := by simpa using hl
  have H0 : Hid (err s.data.toList = 0) := h0
  clear h0 hl
  go_enter Try.func19, Try.ntmps19
  go_wp2_with (go_at_call 14; refine (Check_any s _).mono ?_; rintro e w1 ⟨rfl, rfl⟩; rw [H0.out])
  go_loopw [6, 7, 8] (fun b y i wr => ∃ (k : Nat) (t : List UInt8 × UInt8 × Nat), k ≤ s.size ∧ t.2.2 ≤ 5 ∧ t.1.length ≤ k ∧ un t k (s.data.toList.drop k) = unstuff s.data.toList ∧ (k = 0 → t = ([], 0, 0)) ∧ (∀ j (hj : j < s.size), k = j + 1 → t.2.1 = s[j]) ∧ i = .int .i64 k ∧ y = .int .i64 t.2.2 ∧ wr.ownsRow w1.heap.size 5 1 b t.1.length (Lib.byteCells t.1) ∧ b ≠ .slice none 0 0 ∧ Below w1.heap.size w1 wr) (fun _ _ i _ => s.size - (intOf i).toNat)
  case atStart => exact ⟨0, ([], 0, 0), Nat.zero_le _, by simp, by simp, rfl, fun _ => rfl, fun j hj h => by omega, rfl, rfl, own_empty w1, by simp, (Below.refl _ _).alloc (Nat.le_refl _) _⟩
  case round =>
    obtain ⟨k, ⟨acc, lv, ct⟩, hk, hct, hln, hun, hzero, hlast, rfl, rfl, hown, hnn, hb⟩ := hrel
    have szw := hb.size
    simp only at hct hln hown hlast
    obtain ⟨g, cap, rfl, hBg, hRow⟩ := own_form hown hnn
    by_cases hp : k < s.size
    · have hbit := all_at hall k hp
      rw [drop_at s k hp] at hun
      cases k with
      | zero =>
        have ez := hzero rfl
        simp only [Prod.mk.injEq] at ez
        obtain ⟨rfl, rfl, rfl⟩ := ez
        have hne0 : s[0] ≠ 0 := by
          intro e
          rw [e] at hbit
          simp at hbit
        have en : unNext ([], 0, 0) s[0] = ([s[0]], s[0], 1) := by simp [unNext, cnt, hne0]
        have HU : Hid (un ([s[0]], s[0], 1) 1 (s.data.toList.drop 1) = unstuff s.data.toList) := by
          show _ = _
          rw [← hun, un_on (by simp), en]
        clear hun hzero hlast en hne0
        go_wp2_with fail
        go_quiet (fail)
        go_wp2_with fail
        go_quiet (fail)
        go_wp2_with (at_builtin; refine append_one rfl _ _ rfl w1.heap.size _ ([] : List UInt8) rfl (by exact ownsRow_alloc hown _) ⟨wr.heap.size, 0, none⟩ s[0] rfl (by exact cell_new (wr.drewN _) _ _) (by simp) (by simp; omega) ?_)
        intro v2 w2 hown2a hg2 hn2
        have hown2 : w2.ownsRow w1.heap.size 5 1 v2 (([] : List UInt8) ++ [s[0]]).length (Lib.byteCells (([] : List UInt8) ++ [s[0]])) := by simpa using hown2a
        have b2 : Below w1.heap.size w1 w2 := ((below_drawn hb _).alloc szw _).grown hg2 (by simp; omega) (own_lt hown)
        clear hown2a hg2
        go_wp2
        go_roundw
        case rel => exact ⟨1, ([s[0]], s[0], 1), by omega, by simp, by simp, HU.out, fun h => by omega, (fun j hj h => last_eq s 0 j (by omega) hj (by omega)), rfl, rfl, hown2, hn2, b2⟩
        case measure => simp [intOf]; omega
      | succ j =>
        have hjs : j < s.size := by omega
        obtain rfl := hlast j hjs rfl
        clear hzero hlast
        have hgt : decide ((0 : Int) < (j : Int) + 1) = true := by rw [decide_eq_true_eq]; omega
        have hi1 : (j : Int) + 1 < (s.size : Int) := by omega
        have hi2 : (j : Int) < (s.size : Int) := by omega
        have hi3 : (0 : Int) ≤ (j : Int) + 1 := by omega
        have hi4 : (0 : Int) ≤ (j : Int) := by omega
        by_cases h5 : ct = 5
        · subst h5
          by_cases hc : s[j + 1] = s[j]
          · have hbad := un_bad (t := (acc, s[j], 5)) (i := j + 1) (r := s.data.toList.drop (j + 1 + 1)) rfl hc
            have HU : Hid (unstuff s.data.toList = ([], j + 1, 20)) := hun.symm.trans hbad
            have hcb : ((s[j + 1].toNat : Int) == (s[j].toNat : Int)) = true := by rw [hc]; simp
            clear hun hbad hc
            go_wp2_with fail
            go_quiet (fail)
            go_wp2
            go_ret3
            rw [HU.out]
            exact ⟨ret_three (by simp) rfl, below_drawn hb _⟩
          · have HU : Hid (un (unNext (acc, s[j], 5) s[j + 1]) (j + 1 + 1) (s.data.toList.drop (j + 1 + 1)) = unstuff s.data.toList) := by
              show _ = _
              rw [← hun, un_on (by simp only; intro h; exact hc h.2)]
            have en : unNext (acc, s[j], 5) s[j + 1] = (acc, s[j + 1], 1) := by simp [unNext, cnt, hc]
            rw [en] at HU
            have hcb : ((s[j + 1].toNat : Int) == (s[j].toNat : Int)) = false := by
              rw [beq_eq_false_iff_ne]; intro e; exact hc (UInt8.toNat_inj.1 (by omega))
            clear hun hc en
            go_wp2_with fail
            go_quiet (fail)
            go_wp2_with fail
            go_quiet (fail)
            go_wp2
            go_roundw
            case rel => exact ⟨j + 1 + 1, (acc, s[j + 1], 1), by omega, by simp, by simp only; omega, HU.out, fun h => by omega, (fun i hi h => last_eq s (j + 1) i (by omega) hi (by omega)), by go_num, rfl, hown, hnn, below_drawn hb _⟩
            case measure => simp [intOf]; omega
        · have HU : Hid (un (unNext (acc, s[j], ct) s[j + 1]) (j + 1 + 1) (s.data.toList.drop (j + 1 + 1)) = unstuff s.data.toList) := by
            show _ = _
            rw [← hun, un_on (by simp only; intro h; exact h5 h.1)]
          have h5b : ((ct : Int) == 5) = false := by rw [beq_eq_false_iff_ne]; omega
          by_cases hc : s[j + 1] = s[j]
          · have en : unNext (acc, s[j], ct) s[j + 1] = (acc ++ [s[j + 1]], s[j + 1], ct + 1) := by simp [unNext, cnt, hc, h5]
            rw [en] at HU
            have hcb : ((s[j + 1].toNat : Int) == (s[j].toNat : Int)) = true := by rw [hc]; simp
            clear hun hc en
            go_wp2_with fail
            go_quiet (fail)
            go_wp2_with fail
            go_quiet (fail)
            go_wp2_with (at_builtin; refine append_one rfl _ _ rfl w1.heap.size _ acc rfl (by exact ownsRow_alloc hown _) ⟨wr.heap.size, 0, none⟩ s[j + 1] rfl (by exact cell_new (wr.drewN _) _ _) (by omega) (by simp; omega) ?_)
            intro v2 w2 hown2a hg2 hn2
            have hown2 : w2.ownsRow w1.heap.size 5 1 v2 (acc ++ [s[j + 1]]).length (Lib.byteCells (acc ++ [s[j + 1]])) := by simpa using hown2a
            have b2 : Below w1.heap.size w1 w2 := ((below_drawn hb _).alloc szw _).grown hg2 (by simp; omega) (own_lt hown)
            clear hown2a hg2
            go_wp2
            go_roundw
            case rel => exact ⟨j + 1 + 1, (acc ++ [s[j + 1]], s[j + 1], ct + 1), by omega, by simp only; omega, by simp; omega, HU.out, fun h => by omega, (fun i hi h => last_eq s (j + 1) i (by omega) hi (by omega)), by go_num, by go_num, hown2, hn2, b2⟩
            case measure => simp [intOf]; omega
          · have en : unNext (acc, s[j], ct) s[j + 1] = (acc ++ [s[j + 1]], s[j + 1], 1) := by simp [unNext, cnt, hc, h5]
            rw [en] at HU
            have hcb : ((s[j + 1].toNat : Int) == (s[j].toNat : Int)) = false := by
              rw [beq_eq_false_iff_ne]; intro e; exact hc (UInt8.toNat_inj.1 (by omega))
            clear hun hc en
            go_wp2_with fail
            go_quiet (fail)
            go_wp2_with fail
            go_quiet (fail)
            go_wp2_with (at_builtin; refine append_one rfl _ _ rfl w1.heap.size _ acc rfl (by exact ownsRow_alloc hown _) ⟨wr.heap.size, 0, none⟩ s[j + 1] rfl (by exact cell_new (wr.drewN _) _ _) (by omega) (by simp; omega) ?_)
            intro v2 w2 hown2a hg2 hn2
            have hown2 : w2.ownsRow w1.heap.size 5 1 v2 (acc ++ [s[j + 1]]).length (Lib.byteCells (acc ++ [s[j + 1]])) := by simpa using hown2a
            have b2 : Below w1.heap.size w1 w2 := ((below_drawn hb _).alloc szw _).grown hg2 (by simp; omega) (own_lt hown)
            clear hown2a hg2
            go_wp2
            go_roundw
            case rel => exact ⟨j + 1 + 1, (acc ++ [s[j + 1]], s[j + 1], 1), by omega, by simp, by simp; omega, HU.out, fun h => by omega, (fun i hi h => last_eq s (j + 1) i (by omega) hi (by omega)), by go_num, rfl, hown2, hn2, b2⟩
            case measure => simp [intOf]; omega
    · obtain rfl : k = s.size := by omega
      rw [drop_all s s.size (by omega)] at hun
      clear hzero hlast
      by_cases h5 : ct = 5
      · subst h5
        rw [un_short rfl] at hun
        have HU : Hid (unstuff s.data.toList = ([], s.size, 3)) := hun.symm
        clear hun
        go_wp2
        go_ret3
        rw [HU.out]
        exact ⟨rfl, hb⟩
      · rw [un_end h5] at hun
        have HU : Hid (unstuff s.data.toList = (acc, s.size, 0)) := hun.symm
        have h5b : ((ct : Int) == 5) = false := by rw [beq_eq_false_iff_ne]; omega
        have htx := hRow.text cap
        clear hun
        go_wp2
        go_ret3
        rw [HU.out]
        exact ⟨rfl, hb⟩

theorem rUnstuff_any (s : ByteArray) (w : World) :
    Calls Try.prog 19 #[.string s] w fun e w' => e = .returned (.tuple #[.string ⟨(unV s.data.toList).1.toArray⟩, .int .i64 (unV s.data.toList).2.1, .int .i64 (unV s.data.toList).2.2]) ∧ Below w.heap.size w w' := by
  by_cases h0 : err s.data.toList = 0
  · rw [unV, if_pos h0]
    exact rUnstuff_ok s w h0
  · have HU : Hid (unV s.data.toList = ([], 0, err s.data.toList)) := by show unV _ = _; simp [unV, h0]
    have hn : (err s.data.toList != 0) = true := by simp [h0]
    go_enter Try.func19, Try.ntmps19
    go_wp2_with (go_at_call 14; refine (Check_any s _).mono ?_; rintro e w1 ⟨rfl, rfl⟩)
    go_ret3
    refine ⟨?_, Below.refl _ _⟩
    rw [HU.out]
    rfl
end Go.Proofs.Ytcpgpnilglbmoaa
