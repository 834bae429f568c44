/- The law SyncStops returns true whatever numbers come in. -/
import Derived.Test.YtnmjeomhmmfgmaaYaH
namespace Go.Proofs.Ytnmjeomhmmfgmaa
open Go.RowKit
set_option linter.unusedVariables false
set_option maxRecDepth 1000000

theorem Ps.ok_start {s : Ps} (h : s.ok) (b : Bool) : (s.start b).ok := by
  obtain ⟨h1, h2, h3, h4⟩ := h
  unfold Ps.start
  repeat' split
  · exact ⟨h1, h2, h3, h4⟩
  · exact ⟨h1, h2, h3, by simp only; omega⟩
  · exact ⟨h1, h2, h3, h4⟩
theorem Ps.ok_tk {s : Ps} (h : s.ok) (n : Nat) : (s.tk n).ok := by
  obtain ⟨h1, h2, h3, h4⟩ := h
  obtain ⟨e1, e2, e3⟩ := s.tk_per n
  exact ⟨by rw [e1]; exact h1, by rw [e1]; exact h2, by rw [e2]; exact h3, by rw [e1]; exact (s.tk_told n h4).2⟩
theorem RowI.cell {w : World} {B : Nat} {v : Value} {zs : List Int} (h : RowI B v zs w) {k : Nat} (hk : k < zs.length) : ∃ q cap, v = .slice (some ⟨q, 0, none⟩) zs.length cap ∧ k < cap ∧ w.cell? ⟨q, k, none⟩ = some (.int .i64 zs[k]) := by
  have h0 := h
  rcases h0.2 with ⟨e, e2⟩ | ⟨q, cap', cur, e, _, _, hle, _⟩
  · omega
  · subst e
    exact ⟨q, cap', rfl, by omega, row_cell h hk⟩
set_option maxHeartbeats 2000000 in
theorem ysto_walk (p n m : Nat) (hp : p < 256) (hn : n < 65536) (hm : m < 65536) (w : World) :
    Calls Try.prog 7 #[.int .u8 p, .int .u16 n, .int .u16 m] w fun e w' => e = .returned (.bool true) ∧ Below w.heap.size w w' := by
  have e1 : (p : Int).tmod 20 = ((p % 20 : Nat) : Int) := rfl
  have hr : p % 20 < 20 := Nat.mod_lt _ (by omega)
  generalize p % 20 = r at *
  obtain ⟨E, hE⟩ : ∃ E : Nat, 1 + (r : Int) = (E : Int) := ⟨1 + r, by omega⟩
  have hE1 : 1 ≤ E ∧ E ≤ 20 := by omega
  obtain ⟨hE1, hE2⟩ := hE1
  have hP : Calls Try.prog 8 #[.int .u64 E, .int .i64 5] w _ := newP_ok w E 5 (by omega) (by omega) rfl
  have ok0 : (⟨E, 5, false, 0, 0⟩ : Ps).ok := ⟨hE1, by simp only; omega, by simp, by simp only; omega⟩
  go_enter Try.func7, Try.ntmps7
  go_wp2_with fail
  refine hP.mono ?_
  rintro e w1 ⟨rfl, hw1⟩
  have P1 := Pa.new w E 5
  rw [show ((5 : Nat) : Int) = 5 from rfl] at P1 hw1
  have b1 : Below w.heap.size w w1 := by rw [hw1]; exact (Below.refl _ _).alloc (Nat.le_refl _) _
  rw [← hw1] at P1
  clear hP hw1
  generalize hg : w.heap.size = g at *
  have hS := start_any ok0 P1 true
  go_wp2_with fail
  refine hS.mono ?_
  rintro e w2 ⟨rfl, P2, T2⟩
  have b2 : Below g w w2 := b1.trans (T2.below (by have := b1.size; omega) (Nat.le_refl _) (Nat.le_refl _))
  have ok2 := Ps.ok_start ok0 true
  clear hS P1 T2 b1
  have HE : Hid (((⟨E, 5, false, 0, 0⟩ : Ps).start true).per = E ∧ ((⟨E, 5, false, 0, 0⟩ : Ps).start true).ov = 5) := ⟨rfl, rfl⟩
  generalize ((⟨E, 5, false, 0, 0⟩ : Ps).start true) = s2 at *
  have hT := tick_any ok2 P2 n
  have l2 := P2.lt
  go_wp2_with fail
  refine hT.mono ?_
  rintro e w3 ⟨v3, rfl, _, P3, T3⟩
  have b3 : Below g w w3 := b2.trans (T3.below (by have := b2.size; omega) (Nat.le_refl _) (Nat.le_refl _))
  have ok3 := Ps.ok_tk ok2 (min n 65536)
  have HE3 : Hid ((s2.tk (min n 65536)).per = E ∧ (s2.tk (min n 65536)).ov = 5) := by
    obtain ⟨x1, x2, _⟩ := s2.tk_per (min n 65536)
    exact ⟨x1.trans HE.out.1, x2.trans HE.out.2⟩
  clear hT P2 T3 b2 ok2 HE
  generalize s2.tk (min n 65536) = s3 at *
  have hS := start_any ok3 P3 false
  go_wp2_with fail
  refine hS.mono ?_
  rintro e w4 ⟨rfl, P4, T4⟩
  have b4 : Below g w w4 := b3.trans (T4.below (by have := b3.size; omega) (Nat.le_refl _) (Nat.le_refl _))
  have ok4 := Ps.ok_start ok3 false
  have HE4 : Hid ((s3.start false).per = E ∧ (s3.start false).ov = 5 ∧ (s3.start false).on = false) := ⟨HE3.out.1, HE3.out.2, rfl⟩
  clear hS P3 T4 b3 ok3 HE3
  generalize s3.start false = s4 at *
  have hT := tick_any ok4 P4 m
  go_wp2_with fail
  refine hT.mono ?_
  rintro e w5 ⟨v5, rfl, r5, P5, T5⟩
  obtain ⟨x1, x2⟩ := Ps.tk_off (min m 65536) HE4.out.2.2
  rw [x2] at r5
  rw [x1] at P5
  obtain ⟨a5, c5, rfl⟩ := row_shape r5
  have b5 : Below g w w5 := b4.trans (T5.below (by have := b4.size; omega) (Nat.le_refl _) (Nat.le_refl _))
  clear hT P4 T5 b4 x1 x2 r5
  simp only [List.length_nil]
  have hS := start_any ok4 P5 true
  go_wp2_with fail
  refine hS.mono ?_
  rintro e w6 ⟨rfl, P6, T6⟩
  have b6 : Below g w w6 := b5.trans (T6.below (by have := b5.size; omega) (Nat.le_refl _) (Nat.le_refl _))
  have e6 : s4.start true = ⟨E, 5, true, 0, 0⟩ := by
    obtain ⟨y1, y2, y3⟩ := HE4.out
    unfold Ps.start
    rw [if_pos rfl, y3, y1, y2]
    rfl
  rw [e6] at P6
  clear hS P5 T6 b5 e6 HE4 ok4
  have ok6 : (⟨E, 5, true, 0, 0⟩ : Ps).ok := ⟨hE1, by simp only; omega, by simp, by simp only; omega⟩
  have hT := tick_any ok6 P6 m
  go_wp2_with fail
  refine hT.mono ?_
  rintro e w7 ⟨v7, rfl, r7, P7, T7⟩
  have b7 : Below g w w7 := b6.trans (T7.below (by have := b6.size; omega) (Nat.le_refl _) (Nat.le_refl _))
  have e7 : (⟨E, 5, true, 0, 0⟩ : Ps).em (min m 65536) = (List.range (m / E)).map fun i => (cnt 5 (i + 1) : Int) := by
    unfold Ps.em
    rw [if_pos rfl, show min m 65536 = m by omega]
    simp
  rw [e7] at r7
  have HL := lives14_any w7
  have eq0 : (m : Int).tdiv (E : Int) = ((m / E : Nat) : Int) := rfl
  have hKl : m / E ≤ m := Nat.div_le_self _ _
  clear hT P6 T7 b6 e7 ok6 P7
  generalize m / E = K at *
  by_cases hK : K = 0
  · subst hK
    obtain ⟨a7, c7, rfl⟩ := row_shape r7
    simp only [List.length_map, List.length_range]
    clear r7
    go_wp2_with (go_at_call 10; refine HL.mono ?_; rintro e w8 ⟨rfl, B8⟩)
    go_ret
    exact ⟨rfl, by rw [hg]; exact b7.trans (B8.mono (by have := b7.size; omega))⟩
  · obtain ⟨q, cap, rfl, hcap, hcell⟩ := r7.cell (k := 0) (by simp; omega)
    have e9 : ((List.range K).map fun i => (cnt 5 (i + 1) : Int))[0]'(by simp; omega) = 1 := by simp [cnt]
    rw [e9] at hcell
    simp only [List.length_map, List.length_range]
    have d0 : ((K : Int) == 0) = false := by simp; omega
    have d1 : 0 < K := by omega
    clear r7 e9
    go_wp2_with (go_at_call 10; refine HL.mono ?_; rintro e w8 ⟨rfl, B8⟩)
    go_ret
    exact ⟨rfl, by rw [hg]; exact b7.trans (B8.mono (by have := b7.size; omega))⟩
theorem ysto_int (z0 z1 z2 : Int) (h0 : 0 ≤ z0 ∧ z0 < 256) (h1 : 0 ≤ z1 ∧ z1 < 65536) (h2 : 0 ≤ z2 ∧ z2 < 65536) (w : World) :
    Calls Try.prog 7 #[.int .u8 z0, .int .u16 z1, .int .u16 z2] w fun e w' => e = .returned (.bool true) ∧ Below w.heap.size w w' := by
  obtain ⟨p, rfl⟩ : ∃ p : Nat, z0 = p := ⟨z0.toNat, by omega⟩
  obtain ⟨n, rfl⟩ : ∃ p : Nat, z1 = p := ⟨z1.toNat, by omega⟩
  obtain ⟨m, rfl⟩ : ∃ p : Nat, z2 = p := ⟨z2.toNat, by omega⟩
  exact ysto_walk p n m (by omega) (by omega) (by omega) w
end Go.Proofs.Ytnmjeomhmmfgmaa
