/- The law FaultOff returns true whatever bytes and number come in. -/
import Derived.Test.YtajoganfpppimaaUOpen
namespace Go.Proofs.Ytajoganfpppimaa
open Go.RowKit
set_option linter.unusedVariables false
set_option maxRecDepth 1000000

theorem off_fail (j : Nat) (hj : j < 32) : (⟨8 * j, 0, 0⟩ : Un).fail false = ⟨8 * (j + 1), 0, 0⟩ := by
  unfold Un.fail
  simp only [Bool.false_eq_true, false_and, if_false]
  rw [if_neg (by omega)]
  by_cases h : 247 < 8 * j
  · rw [if_pos h, Un.mk.injEq]; omega
  · rw [if_neg h, Un.mk.injEq]; omega
theorem off_ok (j : Nat) (hj : j ≤ 32) : (⟨8 * j, 0, 0⟩ : Un).ok := ⟨by simp only; omega, by simp, by simp⟩
theorem off_state (j : Nat) (hj : j ≤ 32) : ((⟨8 * j, 0, 0⟩ : Un).state == 2) = decide (j = 32) := by
  unfold Un.state
  by_cases h : j = 32
  · subst h; simp
  · rw [if_neg (by simp only; omega)]
    have : decide (j = 32) = false := by simpa using h
    rw [this]
    split <;> rfl
def Un.shy (u : Un) : Prop := u.s ≤ 135 ∧ u.r ≤ 255 ∧ u.k ≤ 127
theorem shy_ok {u : Un} (h : u.shy) : u.ok := ⟨by have := h.1; omega, h.2.1, h.2.2⟩
theorem shy_fail {u : Un} (h : u.shy) : (u.fail true).shy := by
  obtain ⟨h1, h2, h3⟩ := h
  unfold Un.fail
  rw [if_neg (by omega)]
  by_cases hc : 127 < u.s ∨ 127 < u.r
  · rw [if_pos ⟨rfl, hc⟩]; exact ⟨h1, h2, h3⟩
  · rw [if_neg (fun h => hc h.2), if_neg (by omega)]
    exact ⟨by simp only; omega, h2, h3⟩
theorem shy_state {u : Un} (h : u.shy) : (u.state == 2) = false := by
  have := h.1
  unfold Un.state
  rw [if_neg (by omega)]
  split <;> rfl
/-- A unit that is off, behind m idle rows. -/
def rowsU (m : Nat) : Un := if m < 128 then ⟨256, 0, m⟩ else Un.nul
theorem rowsU_ok (m : Nat) : (rowsU m).ok := by
  unfold rowsU
  split
  · exact ⟨by simp, by simp, by simp only; omega⟩
  · exact Un.ok_nul
theorem rowsU_idle (m z : Nat) (h : m < 128) : (rowsU m).idle z = rowsU (m + z) := by
  unfold rowsU Un.idle
  rw [if_pos h]
  simp only [show 255 < 256 by decide, if_true]
  by_cases hc : 128 ≤ m + z
  · rw [if_pos (by omega), if_neg (by omega)]
  · rw [if_neg (by omega), if_pos (by omega), Int.toNat_natCast]
theorem rowsU_back (m z : Nat) (h : m < 128) : (rowsU m).back z = decide ((128 : Int) ≤ (m : Int) + (z : Int)) := by
  unfold rowsU Un.back
  rw [if_pos h]
  have : decide (255 < 256) = true := rfl
  rw [this, Bool.true_and, decide_eq_decide]
  simp only
  omega
theorem rowsU_state (m : Nat) : ((rowsU m).state == 2) = decide ((m : Int) < 128) := by
  unfold rowsU
  by_cases h : m < 128
  · rw [if_pos h, show decide ((m : Int) < 128) = true by simp; omega]; rfl
  · rw [if_neg h, show decide ((m : Int) < 128) = false by simp; omega]; rfl

set_option maxHeartbeats 4000000 in
theorem off_walk (v : Value) (l : List UInt8) (z : Int) (w : World) (hl : l.length ≤ 140737488351232) (hz : 0 ≤ z ∧ z < 65536) (hB : Bytes w v l) :
    Calls Try.prog 4 #[v, .int .u16 z] w fun e w' => e = .returned (.bool true) ∧ Below w.heap.size w w' := by
  obtain ⟨ao, cap, rfl, _, hc⟩ := hB
  have HC : Hid (∀ (wr : World), Below w.heap.size w wr → ∀ k (hk : k < l.length), ∃ b off, ao = some ⟨b, off, none⟩ ∧ b < w.heap.size ∧ wr.cell? ⟨b, off + k, none⟩ = some (.int .u8 l[k].toNat)) := fun wr hb k hk => Bytes.at (cap := cap) hc hb k hk
  have U0 := (Ua.new w).alloc (.cells #[.int .i64 0, .int .i64 0, .int .i64 0] 44)
  have V0 := Ua.new (w.alloc (.cells #[.int .i64 0, .int .i64 0, .int .i64 0] 44))
  rw [show (w.alloc (.cells #[.int .i64 0, .int .i64 0, .int .i64 0] 44)).heap.size = w.heap.size + 1 by simp] at V0
  have B0 : Below w.heap.size w ((w.alloc (.cells #[.int .i64 0, .int .i64 0, .int .i64 0] 44)).alloc (.cells #[.int .i64 0, .int .i64 0, .int .i64 0] 44)) := ((Below.refl _ _).alloc (Nat.le_refl _) _).alloc (by simp) _
  obtain ⟨n, rfl⟩ : ∃ n : Nat, z = n := ⟨z.toNat, by omega⟩
  obtain ⟨_, hz⟩ := hz
  clear hc
  go_enter Try.func4, Try.ntmps4
  go_wp2_with (go_at_call 8; refine (new_any _).mono ?_; rintro e w' ⟨rfl, rfl⟩)
  generalize (w.alloc (.cells #[.int .i64 0, .int .i64 0, .int .i64 0] 44)).alloc (.cells #[.int .i64 0, .int .i64 0, .int .i64 0] 44) = w1 at *
  generalize hg : w.heap.size = g at *
  go_loopw [7] (fun i x => ∃ j : Nat, j ≤ 32 ∧ i = .int .i64 ((j : Int) + 1) ∧ Ua g ⟨8 * j, 0, 0⟩ x ∧ Ua (g + 1) Un.nul x ∧ Below g w x) (fun i _ => 33 - (intOf i).toNat)
  case atStart => exact ⟨0, by omega, rfl, U0, V0, B0⟩
  case round =>
    clear U0 B0 V0
    obtain ⟨j, hj, rfl, U1, V1, B1⟩ := hrel
    by_cases hj2 : j < 32
    · have hd : decide (((j : Int) + 1) ≤ 32) = true := by simp; omega
      go_wp2_with fail
      refine (fail_any _ (off_ok j hj) U1).mono ?_
      rintro e w2 ⟨rfl, U2, T2⟩
      rw [off_fail j hj2] at U2
      have V2 := V1.two T2 (by omega) (by omega)
      have B2 : Below g w w2 := B1.trans (T2.below (by have := B1.size; omega) (Nat.le_refl _) (Nat.le_refl _))
      have HS := state_any U2
      have hst := off_state (j + 1) (by omega)
      generalize (⟨8 * (j + 1), 0, 0⟩ : Un).state = st at *
      clear U1 V1 B1 T2
      by_cases h32 : j = 31
      · rw [show decide (j + 1 = 32) = true by simp; omega] at hst
        have he : ((j : Int) + 1 == 32) = true := by simp; omega
        go_wp2_with (go_at_call 11; refine HS.mono ?_; rintro e w3 ⟨rfl, m, rfl⟩)
        go_roundw
        case rel => exact ⟨j + 1, by omega, by go_num, U2.drawn _, V2.drawn _, ⟨B2.os, B2.tape, B2.output, B2.size, B2.block⟩⟩
        case measure => simp [intOf]; omega
      · rw [show decide (j + 1 = 32) = false by simp; omega] at hst
        have he : ((j : Int) + 1 == 32) = false := by simp; omega
        go_wp2_with (go_at_call 11; refine HS.mono ?_; rintro e w3 ⟨rfl, m, rfl⟩)
        go_roundw
        case rel => exact ⟨j + 1, by omega, by go_num, U2.drawn _, V2.drawn _, ⟨B2.os, B2.tape, B2.output, B2.size, B2.block⟩⟩
        case measure => simp [intOf]; omega
    · have U1' : Ua g ⟨256, 0, 0⟩ wr := by
        have : j = 32 := by omega
        subst this; exact U1
      have hd : decide (((j : Int) + 1) ≤ 32) = false := by simp; omega
      go_wp2
      clear hj hj2 hd U1
      have W1 : Un.nul.shy := ⟨by simp [Un.nul], by simp [Un.nul], by simp [Un.nul]⟩
      obtain ⟨W, hW⟩ : ∃ W, W = wr := ⟨wr, rfl⟩
      subst hW
      go_loopw [8] (fun i x => ∃ k : Nat, k ≤ n ∧ i = .int .i64 k ∧ Ua g ⟨256, 0, 0⟩ x ∧ (∃ u : Un, u.shy ∧ Ua (g + 1) u x) ∧ Below g w x) (fun i _ => n - (intOf i).toNat)
      case atStart => exact ⟨0, by omega, rfl, U1', ⟨_, W1, V1⟩, B1⟩
      case round =>
        clear U1' V1 B1 W1
        obtain ⟨k, hk, rfl, U1, ⟨u, hu, V1⟩, B1⟩ := hrel
        by_cases hkn : k < n
        · have hd : decide ((k : Int) < (n : Int)) = true := by simp; omega
          go_wp2_with fail
          refine (fail_any _ (shy_ok hu) V1).mono ?_
          rintro e w2 ⟨rfl, V2, T2⟩
          have U2 := U1.two T2 (by omega) (by omega)
          have B2 : Below g w w2 := B1.trans (T2.below (by have := B1.size; omega) (by omega) (by omega))
          have hu2 := shy_fail hu
          clear U1 V1 B1 T2 hu
          go_wp2
          go_roundw
          case rel => exact ⟨k + 1, by omega, by go_num, U2, ⟨_, hu2, V2⟩, B2⟩
          case measure => simp [intOf]; omega
        · have hd : decide ((k : Int) < (n : Int)) = false := by simp; omega
          have HS := state_any V1
          have hst := shy_state hu
          generalize u.state = st at *
          go_wp2_with (go_at_call 11; refine HS.mono ?_; rintro e w3 ⟨rfl, m, rfl⟩)
          have U2 : Ua g (rowsU 0) (wr.drewN m) := U1.drawn m
          have B2 : Below g w (wr.drewN m) := ⟨B1.os, B1.tape, B1.output, B1.size, B1.block⟩
          generalize wr.drewN m = w3 at *
          clear U1 V1 B1 HS hst hu hkn hk
          go_loopw [9, 10] (fun s i x => ∃ k y : Nat, k ≤ l.length ∧ y ≤ 383 ∧ i = .int .i64 k ∧ s = .int .i64 y ∧ Ua g (rowsU y) x ∧ Below g w x) (fun s i _ => l.length - (intOf i).toNat)
          case atStart => exact ⟨0, 0, by omega, by omega, rfl, rfl, U2, B2⟩
          case round =>
            clear U2 B2
            obtain ⟨k, y, hk, hy, rfl, rfl, U1, B1⟩ := hrel
            have HS := state_any U1
            have hst := rowsU_state y
            by_cases hkl : k < l.length ∧ y < 128
            · obtain ⟨hkl, hy2⟩ := hkl
              obtain ⟨b, off, rfl, hb, hcell⟩ := HC.out wr B1 k hkl
              have h255 : l[k].toNat < 256 := UInt8.toNat_lt _
              generalize l[k].toNat = z at *
              have hd : decide ((y : Int) < 128) = true := by simp; omega
              have HI := idle_any (z : Int) (by omega) (rowsU_ok y) U1
              rw [rowsU_back y z hy2, rowsU_idle y z hy2] at HI
              clear HS hst
              by_cases h128 : (128 : Int) ≤ (y : Int) + (z : Int)
              · have he : decide ((128 : Int) ≤ (y : Int) + (z : Int)) = true := by simpa using h128
                rw [he] at HI
                go_wp2_with (go_at_call 17; refine HI.mono ?_; rintro e w4 ⟨rfl, U4, T4⟩)
                go_roundw
                case rel => exact ⟨k + 1, y + z, by omega, by omega, by go_num, by go_num, U4, B1.trans (T4.below (by have := B1.size; omega) (Nat.le_refl _) (Nat.le_refl _))⟩
                case measure => simp [intOf]; omega
              · have he : decide ((128 : Int) ≤ (y : Int) + (z : Int)) = false := by simpa using h128
                rw [he] at HI
                go_wp2_with (go_at_call 17; refine HI.mono ?_; rintro e w4 ⟨rfl, U4, T4⟩)
                go_roundw
                case rel => exact ⟨k + 1, y + z, by omega, by omega, by go_num, by go_num, U4, B1.trans (T4.below (by have := B1.size; omega) (Nat.le_refl _) (Nat.le_refl _))⟩
                case measure => simp [intOf]; omega
            · have HX : Hid (¬(k < l.length ∧ y < 128)) := hkl
              have hst2 : ((rowsU y).state == 2) = decide ((y : Int) < 128) := hst
              generalize (rowsU y).state = st at *
              clear hkl hst
              by_cases hkl : k < l.length
              · have hd : decide ((y : Int) < 128) = false := by have := HX.out; simp; omega
                rw [hd] at hst2
                go_wp2_with (first | (go_at_call 11; refine HS.mono ?_; rintro e w3 ⟨rfl, m, rfl⟩) | (go_at_call 15; refine (lives3_any _).mono ?_; rintro e w4 ⟨rfl, B4⟩))
                go_ret
                have B5 : Below g w (wr.drewN m) := ⟨B1.os, B1.tape, B1.output, B1.size, B1.block⟩
                exact ⟨rfl, by rw [hg]; exact B5.trans (B4.mono (by have := B5.size; omega))⟩
              · have hd : decide ((k : Int) < (l.length : Int)) = false := by simp; omega
                by_cases hy2 : y < 128
                · have hd2 : decide ((y : Int) < 128) = true := by simp; omega
                  rw [hd2] at hst2
                  go_wp2_with (first | (go_at_call 11; refine HS.mono ?_; rintro e w3 ⟨rfl, m, rfl⟩) | (go_at_call 15; refine (lives3_any _).mono ?_; rintro e w4 ⟨rfl, B4⟩))
                  go_ret
                  have B5 : Below g w (wr.drewN m) := ⟨B1.os, B1.tape, B1.output, B1.size, B1.block⟩
                  exact ⟨rfl, by rw [hg]; exact B5.trans (B4.mono (by have := B5.size; omega))⟩
                · have hd2 : decide ((y : Int) < 128) = false := by simp; omega
                  rw [hd2] at hst2
                  go_wp2_with (first | (go_at_call 11; refine HS.mono ?_; rintro e w3 ⟨rfl, m, rfl⟩) | (go_at_call 15; refine (lives3_any _).mono ?_; rintro e w4 ⟨rfl, B4⟩))
                  go_ret
                  have B5 : Below g w (wr.drewN m) := ⟨B1.os, B1.tape, B1.output, B1.size, B1.block⟩
                  exact ⟨rfl, by rw [hg]; exact B5.trans (B4.mono (by have := B5.size; omega))⟩
end Go.Proofs.Ytajoganfpppimaa
