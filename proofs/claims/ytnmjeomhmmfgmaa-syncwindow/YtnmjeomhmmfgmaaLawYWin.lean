/- The law SyncWindow returns true whatever number and bytes come in. -/
import Derived.Test.YtnmjeomhmmfgmaaYaH
import Derived.Test.YtnmjeomhmmfgmaaOpX
namespace Go.Proofs.Ytnmjeomhmmfgmaa
open Go.RowKit
set_option linter.unusedVariables false
set_option maxRecDepth 1000000

theorem win_take {s : Cs} (h : s.ov = 0) : s.tells 0 = 0 ∧ s.take 0 = ⟨0, s.win, 0, s.cyc + 1, s.wr, 0⟩ := by
  have hf : fits14 s.ov 0 = true := by rw [h]; rfl
  have hb : s.bad 0 = false := by
    unfold Cs.bad Cs.next
    by_cases hc : s.cyc = 0
    · simp [hc]
    · simp [hc, nxt, h]
  unfold Cs.tells Cs.take
  rw [if_pos hf, if_pos hf, hb, h]
  simp
set_option maxHeartbeats 2000000 in
theorem ywin_walk (p : Nat) (hp : p < 256) (v : Value) (l : List UInt8) (w : World) (hl : l.length ≤ 140737488351232) (hB : Bytes w v l) :
    Calls Try.prog 6 #[.int .u8 p, v] w fun e w' => e = .returned (.bool true) ∧ Below w.heap.size w w' := by
  obtain ⟨ao, cap, rfl, _, hc⟩ := hB
  have HC : Hid (∀ (wr : World), Below w.heap.size w wr → ∀ k (hk : k < l.length), ∃ b off, ao = some ⟨b, off, none⟩ ∧ b < w.heap.size ∧ wr.cell? ⟨b, off + k, none⟩ = some (.int .u8 l[k].toNat)) := fun wr hb k hk => Bytes.at (cap := cap) hc hb k hk
  obtain ⟨E, hE⟩ : ∃ E : Nat, 1 + (p : Int) = (E : Int) := ⟨1 + p, by omega⟩
  have hE1 : 1 ≤ E := by omega
  have hE2 : E ≤ 256 := by omega
  have hP : Calls Try.prog 17 #[.int .i64 0, .int .u64 E] w _ := newC_ok w 0 E (by omega) rfl
  clear hc
  go_enter Try.func6, Try.ntmps6
  go_wp2_with fail
  refine hP.mono ?_
  rintro e w1 ⟨rfl, hw1⟩
  have P1 := Ca.new w 0 E
  rw [show ((0 : Nat) : Int) = 0 from rfl] at P1 hw1
  have b1 : Below w.heap.size w w1 := by rw [hw1]; exact (Below.refl _ _).alloc (Nat.le_refl _) _
  rw [← hw1] at P1
  clear hP hw1
  generalize hg : w.heap.size = g at *
  have hO := copen_any P1
  rw [show (⟨0, E, 0, 0, 0, 0⟩ : Cs).isOpen = false from rfl] at hO
  go_wp2_with fail
  refine hO.mono ?_
  rintro e w2 ⟨rfl, n2, rfl⟩
  have P2 := P1.drawn n2
  have b2 : Below g w (w1.drewN n2) := below_drawn b1 _
  have ok0 : (⟨0, E, 0, 0, 0, 0⟩ : Cs).ok := Cs.ok_new 0 E (by omega) (by omega)
  clear P1 b1 hO
  generalize w1.drewN n2 = w2 at *
  go_wp2_with fail
  go_loopw [8] (fun i x => ∃ k : Nat, k ≤ l.length ∧ i = .int .i64 k ∧ (∃ s : Cs, s.ok ∧ s.ov = 0 ∧ s.win = E ∧ s.cyc = k ∧ Ca g s x) ∧ Below g w x) (fun i _ => l.length - (intOf i).toNat)
  case atStart => exact ⟨0, by omega, rfl, ⟨_, ok0, rfl, rfl, rfl, P2⟩, b2⟩
  case round =>
    clear P2 b2 ok0
    obtain ⟨k, hk, rfl, ⟨s, hok, hov, hwin, hcy, P3⟩, b3⟩ := hrel
    by_cases hkl : k < l.length
    · have hd : decide ((k : Int) < (l.length : Int)) = true := by simp; omega
      obtain ⟨t1, t2⟩ := win_take hov
      have hT := ctake_any hok P3 0
      have ok4 := (Cs.ok_take hok 0 (by omega)).1
      rw [t2] at ok4
      rw [t1, t2, hwin, hcy] at hT
      rw [hwin, hcy] at ok4
      generalize s.wr = R at *
      clear P3 hov hwin hcy hok t1 t2
      go_wp2_with fail
      refine hT.mono ?_
      rintro e w4 ⟨rfl, P4, T4⟩
      have b4 : Below g w w4 := b3.trans (T4.below (by have := b3.size; omega) (Nat.le_refl _) (Nat.le_refl _))
      have hO := copen_any P4
      rw [show (⟨0, E, 0, k + 1, R, 0⟩ : Cs).isOpen = true by simp [Cs.isOpen]; omega] at hO
      clear hT T4 b3
      go_wp2_with fail
      refine hO.mono ?_
      rintro e w5 ⟨rfl, n5, rfl⟩
      have P5 := P4.drawn n5
      have b5 : Below g w (w4.drewN n5) := below_drawn b4 _
      clear P4 b4 hO
      generalize w4.drewN n5 = w5 at *
      obtain ⟨Z, hZ⟩ : ∃ Z, l[k].toNat = Z := ⟨_, rfl⟩
      have hZ2 : Z < 256 := by rw [← hZ]; exact UInt8.toNat_lt _
      have HC2 : Hid (∀ (wr : World), Below g w wr → ∃ b off, ao = some ⟨b, off, none⟩ ∧ b < g ∧ wr.cell? ⟨b, off + k, none⟩ = some (.int .u8 (Z : Nat))) := fun wr hb => by have := HC.out wr hb k hkl; rw [hZ] at this; exact this
      clear hZ
      go_wp2_with fail
      go_loopw [9] (fun i x => ∃ j : Nat, j ≤ Z ∧ i = .int .u64 ((j : Int) + 1) ∧ (∃ s : Cs, s.ok ∧ s.ov = 0 ∧ s.win = E ∧ s.cyc = k + 1 ∧ s.since = j ∧ Ca g s x) ∧ Below g w x) (fun i _ => Z + 1 - (intOf i).toNat)
      case atStart => exact ⟨0, by omega, rfl, ⟨_, ok4, rfl, rfl, rfl, rfl, P5⟩, b5⟩
      case round =>
        clear P5 b5 ok4
        obtain ⟨j, hj, rfl, ⟨s, hok, hov, hwin, hcy, hsi, P6⟩, b6⟩ := hrel
        obtain ⟨b, off, rfl, hb, hcell⟩ := HC2.out wr b6
        by_cases hjz : j < Z
        · have hd2 : decide ((j : Int) + 1 ≤ (Z : Int)) = true := by simp; omega
          have hT := ctick_any hok P6 1 (by omega)
          have ok7 := Cs.ok_tick hok 1
          have HS7 : Hid ((s.tick 1).ov = 0 ∧ (s.tick 1).win = E ∧ (s.tick 1).cyc = k + 1 ∧ (s.tick 1).since = j + 1) := ⟨hov, hwin, hcy, by show min (s.since + 1) 18446744073709551615 = j + 1; rw [hsi]; exact Nat.min_eq_left (by omega)⟩
          clear P6 hov hwin hcy hsi hok
          generalize s.tick 1 = t at *
          go_wp2_with fail
          refine hT.mono ?_
          rintro e w7 ⟨rfl, P7, T7⟩
          have b7 : Below g w w7 := b6.trans (T7.below (by have := b6.size; omega) (Nat.le_refl _) (Nat.le_refl _))
          have hO := copen_any P7
          obtain ⟨y1, y2, y3, y4⟩ := HS7.out
          rw [show t.isOpen = decide ((j : Int) + 1 < (E : Int)) by
            unfold Cs.isOpen
            rw [y2, y3, y4, Bool.eq_iff_iff]
            simp
            omega] at hO
          clear hT T7 b6 y1 y2 y3 y4
          by_cases hje : j + 1 < E
          · have d3 : decide ((j : Int) + 1 < (E : Int)) = true := by simp; omega
            have d3' : decide (j + 1 < E) = true := by simp; omega
            rw [d3] at hO
            go_wp2_with fail
            refine hO.mono ?_
            rintro e w8 ⟨rfl, n8, rfl⟩
            have P8 := P7.drawn n8
            have b8 : Below g w (w7.drewN n8) := below_drawn b7 _
            clear P7 b7 hO
            generalize w7.drewN n8 = w8 at *
            go_wp2_with fail
            go_roundw
            case rel =>
              obtain ⟨y1, y2, y3, y4⟩ := HS7.out
              exact ⟨j + 1, by omega, by go_num, ⟨t, ok7, y1, y2, y3, y4, P8⟩, b8⟩
            case measure => simp [intOf]; omega
          · have d3 : decide ((j : Int) + 1 < (E : Int)) = false := by simp; omega
            have d3' : decide (j + 1 < E) = false := by simp; omega
            rw [d3] at hO
            go_wp2_with fail
            refine hO.mono ?_
            rintro e w8 ⟨rfl, n8, rfl⟩
            have P8 := P7.drawn n8
            have b8 : Below g w (w7.drewN n8) := below_drawn b7 _
            clear P7 b7 hO
            generalize w7.drewN n8 = w8 at *
            go_wp2_with fail
            go_roundw
            case rel =>
              obtain ⟨y1, y2, y3, y4⟩ := HS7.out
              exact ⟨j + 1, by omega, by go_num, ⟨t, ok7, y1, y2, y3, y4, P8⟩, b8⟩
            case measure => simp [intOf]; omega
        · have hd2 : decide ((j : Int) + 1 ≤ (Z : Int)) = false := by simp; omega
          have HX : Hid (s.ov = 0 ∧ s.win = E ∧ s.cyc = k + 1) := ⟨hov, hwin, hcy⟩
          clear hov hwin hcy hsi
          go_wp2_with fail
          go_roundw
          case rel =>
            obtain ⟨y1, y2, y3⟩ := HX.out
            exact ⟨k + 1, by omega, by go_num, ⟨s, hok, y1, y2, y3, P6⟩, b6⟩
          case measure => simp [intOf]; omega
    · have hd : decide ((k : Int) < (l.length : Int)) = false := by simp; omega
      have hCy := ccycle_any P3
      have HK : Hid (k = l.length) := by show _ = _; omega
      rw [hcy, HK.out] at hCy
      have HL := lives14_any wr
      have dq : ((l.length : Int) == (l.length : Int)) = true := by simp
      clear P3 hcy hov hwin
      go_wp2_with (first | (go_at_call 24; refine hCy.mono ?_; rintro e w7 ⟨rfl, rfl⟩) | (go_at_call 10; refine HL.mono ?_; rintro e w8 ⟨rfl, B8⟩))
      go_ret
      exact ⟨rfl, by rw [hg]; exact b3.trans (B8.mono (by have := b3.size; omega))⟩
theorem ywin_int (z0 : Int) (v : Value) (l : List UInt8) (h0 : 0 ≤ z0 ∧ z0 < 256) (hl : l.length ≤ 140737488351232) (w : World) (hB : Bytes w v l) :
    Calls Try.prog 6 #[.int .u8 z0, v] w fun e w' => e = .returned (.bool true) ∧ Below w.heap.size w w' := by
  obtain ⟨p, rfl⟩ : ∃ p : Nat, z0 = p := ⟨z0.toNat, by omega⟩
  exact ywin_walk p (by omega) v l w hl hB
end Go.Proofs.Ytnmjeomhmmfgmaa
