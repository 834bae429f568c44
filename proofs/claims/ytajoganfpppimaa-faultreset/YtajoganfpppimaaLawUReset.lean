/- The law FaultReset returns true whatever happens. -/
import Derived.Test.YtajoganfpppimaaLawUApart
namespace Go.Proofs.Ytajoganfpppimaa
open Go.RowKit
set_option linter.unusedVariables false
set_option maxRecDepth 1000000

set_option maxHeartbeats 4000000 in
theorem reset_walk (v v' : Value) (l l' : List { a : Ac // a.ok }) (w : World) (hl : l.length ≤ 140737488351232) (hl' : l'.length ≤ 140737488351232) (hB : Acts w v l) (hB' : Acts w v' l') :
    Calls Try.prog 7 #[v, v'] w fun e w' => e = .returned (.bool true) ∧ Below w.heap.size w w' := by
  obtain ⟨ao, cap, rfl, _, hc⟩ := hB
  obtain ⟨ao', cap', rfl, _, hc'⟩ := hB'
  have HC : Hid (∀ (wr : World), Below w.heap.size w wr → ∀ k (hk : k < l.length), ∃ b off, ao = some ⟨b, off, none⟩ ∧ b < w.heap.size ∧ wr.rangeAt b (off + k * 4) (decA l[k])) := fun wr hb k hk => Wide.at hc hb k hk
  have HC' : Hid (∀ (wr : World), Below w.heap.size w wr → ∀ k (hk : k < l'.length), ∃ b off, ao' = some ⟨b, off, none⟩ ∧ b < w.heap.size ∧ wr.rangeAt b (off + k * 4) (decA l'[k])) := fun wr hb k hk => Wide.at hc' hb k hk
  have U0 := (Ua.new w).alloc (.cells #[.int .i64 0, .int .i64 0, .int .i64 0] 44)
  have V0 := Ua.new (w.alloc (.cells #[.int .i64 0, .int .i64 0, .int .i64 0] 44))
  rw [show (w.alloc (.cells #[.int .i64 0, .int .i64 0, .int .i64 0] 44)).heap.size = w.heap.size + 1 by simp] at V0
  have B0 : Below w.heap.size w ((w.alloc (.cells #[.int .i64 0, .int .i64 0, .int .i64 0] 44)).alloc (.cells #[.int .i64 0, .int .i64 0, .int .i64 0] 44)) := ((Below.refl _ _).alloc (Nat.le_refl _) _).alloc (by simp) _
  clear hc hc'
  go_enter Try.func7, Try.ntmps7
  go_wp2_with (go_at_call 8; refine (new_any _).mono ?_; rintro e w' ⟨rfl, rfl⟩)
  generalize (w.alloc (.cells #[.int .i64 0, .int .i64 0, .int .i64 0] 44)).alloc (.cells #[.int .i64 0, .int .i64 0, .int .i64 0] 44) = w1 at *
  generalize hg : w.heap.size = g at *
  go_loopw [7] (fun i x => ∃ k : Nat, k ≤ l.length ∧ i = .int .i64 k ∧ (∃ u : Un, u.ok ∧ Ua g u x) ∧ Ua (g + 1) Un.nul x ∧ Below g w x) (fun i _ => l.length - (intOf i).toNat)
  case atStart => exact ⟨0, by omega, rfl, ⟨_, Un.ok_nul, U0⟩, V0, B0⟩
  case round =>
    clear U0 B0 V0
    obtain ⟨k, hk, rfl, ⟨u, hu, U2⟩, V2, B2⟩ := hrel
    have s2 := B2.size
    have g2 := V2.lt
    by_cases hkl : k < l.length
    · have D3 := Da.new wr
      have U3 := U2.alloc (.cells #[.int .i64 0, .int .i64 0, .bool false, .int .i64 0] 27)
      have V3 := V2.alloc (.cells #[.int .i64 0, .int .i64 0, .bool false, .int .i64 0] 27)
      have B3 : Below g w (wr.alloc (.cells #[.int .i64 0, .int .i64 0, .bool false, .int .i64 0] 27)) := B2.alloc (by omega) _
      generalize hq : wr.heap.size = q at *
      have hq3 : q < (wr.alloc (.cells #[.int .i64 0, .int .i64 0, .bool false, .int .i64 0] 27)).heap.size := D3.lt
      obtain ⟨b, off, rfl, hb, hR⟩ := HC.out _ B3 k hkl
      have hao := l[k].2
      generalize l[k] = a at *
      clear U2 B2 V2
      go_wp2_with (refine act_ld hR rfl _ rfl rfl ?_)
      refine (does_any a.1 hao hu Un.ok_nul (by omega) U3 D3).mono ?_
      rintro e w4 ⟨rfl, U4, D4, T4⟩
      have V4 := V3.two T4 (by omega) (by omega)
      have B4 : Below g w w4 := B3.trans (T4.below (by omega) (Nat.le_refl _) (by omega))
      have hu4 := a.1.ok_on hu
      generalize a.1.told u Un.nul = tt at *
      clear U3 D3 B3 T4 D4 hR V3
      go_wp2
      go_roundw
      case rel => exact ⟨k + 1, by omega, by go_num, ⟨_, hu4, U4⟩, V4, B4⟩
      case measure => simp [intOf]; omega
    · go_wp2_with fail
      refine (reset_any U2).mono ?_
      rintro e w4 ⟨rfl, U4, T4⟩
      have V4 := V2.two T4 (by omega) (by omega)
      have B4 : Below g w w4 := B2.trans (T4.below (by omega) (Nat.le_refl _) (Nat.le_refl _))
      clear U2 V2 B2 T4 g2 s2
      go_wp2
      go_loopw [8] (fun i x => ∃ k : Nat, k ≤ l'.length ∧ i = .int .i64 k ∧ (∃ u : Un, u.ok ∧ Ua g u x ∧ Ua (g + 1) u x) ∧ Below g w x) (fun i _ => l'.length - (intOf i).toNat)
      case atStart => exact ⟨0, by omega, rfl, ⟨_, Un.ok_nul, U4, V4⟩, B4⟩
      case round =>
        clear U4 B4 V4 hu hk hkl
        obtain ⟨k2, hk, rfl, ⟨u, hu, U2, V2⟩, B2⟩ := hrel
        have s2 := B2.size
        have g2 := V2.lt
        by_cases hkl : k2 < l'.length
        · have D3 := Da.new wr
          have U3 := U2.alloc (.cells #[.int .i64 0, .int .i64 0, .bool false, .int .i64 0] 27)
          have V3 := V2.alloc (.cells #[.int .i64 0, .int .i64 0, .bool false, .int .i64 0] 27)
          have B3 : Below g w (wr.alloc (.cells #[.int .i64 0, .int .i64 0, .bool false, .int .i64 0] 27)) := B2.alloc (by omega) _
          generalize hq : wr.heap.size = q at *
          have hq3 : q < (wr.alloc (.cells #[.int .i64 0, .int .i64 0, .bool false, .int .i64 0] 27)).heap.size := D3.lt
          obtain ⟨b, off, rfl, hb, hR⟩ := HC'.out _ B3 k2 hkl
          have hao := l'[k2].2
          have HD : Hid (∀ (wr : World), Below g w wr → wr.rangeAt b (off + k2 * 4) (decA l'[k2])) := by
            intro wr hb
            obtain ⟨b', off', e', _, hR'⟩ := HC'.out wr hb k2 hkl
            simp only [Option.some.injEq, Addr.mk.injEq, and_true] at e'
            obtain ⟨rfl, rfl⟩ := e'
            exact hR'
          generalize l'[k2] = a at *
          clear U2 B2 V2
          go_wp2_with (refine act_ld hR rfl _ rfl rfl ?_)
          refine (does_any a.1 hao hu Un.ok_nul (by omega) U3 D3).mono ?_
          rintro e w4 ⟨rfl, U4, D4, T4⟩
          have V4 := V3.two T4 (by omega) (by omega)
          have B4 : Below g w w4 := B3.trans (T4.below (by omega) (Nat.le_refl _) (by omega))
          have hu4 := a.1.ok_on hu
          generalize a.1.told u Un.nul = tt at *
          have s4 := B4.size
          have g4 := V4.lt
          have D5 := Da.new w4
          have U5 := U4.alloc (.cells #[.int .i64 0, .int .i64 0, .bool false, .int .i64 0] 27)
          have V5 := V4.alloc (.cells #[.int .i64 0, .int .i64 0, .bool false, .int .i64 0] 27)
          have B5 : Below g w (w4.alloc (.cells #[.int .i64 0, .int .i64 0, .bool false, .int .i64 0] 27)) := B4.alloc (by omega) _
          generalize hq5 : w4.heap.size = q5 at *
          have hq6 : q5 < (w4.alloc (.cells #[.int .i64 0, .int .i64 0, .bool false, .int .i64 0] 27)).heap.size := D5.lt
          have hR5 := HD.out _ B5
          clear U3 D3 B3 T4 D4 hR V3 U4 V4 B4
          go_wp2_with (refine act_ld hR5 rfl _ rfl rfl ?_)
          refine (does_any a.1 hao hu Un.ok_nul (by omega) V5 D5).mono ?_
          rintro e w6 ⟨rfl, V6, D6, T6⟩
          have U6 := U5.two T6 (by omega) (by omega)
          have B6 : Below g w w6 := B5.trans (T6.below (by omega) (by omega) (by omega))
          generalize a.1.told u Un.nul = tt2 at *
          generalize a.1.on u = u6 at *
          clear U5 D5 B5 T6 D6 hR5 V5
          have HU : ∀ n, Calls Try.prog 10 #[.pointer (some ⟨g, 0, none⟩)] (w6.drewN n) fun e w' => e = .returned (.tuple #[.int .i64 u6.s, .int .i64 u6.r]) ∧ ∃ m, w' = (w6.drewN n).drewN m := fun n => counts_any (U6.drawn n)
          have HV : ∀ n, Calls Try.prog 10 #[.pointer (some ⟨g + 1, 0, none⟩)] (w6.drewN n) fun e w' => e = .returned (.tuple #[.int .i64 u6.s, .int .i64 u6.r]) ∧ ∃ m, w' = (w6.drewN n).drewN m := fun n => counts_any (V6.drawn n)
          have SU : ∀ n, Calls Try.prog 11 #[.pointer (some ⟨g, 0, none⟩)] (w6.drewN n) fun e w' => e = .returned (.int .i64 u6.state) ∧ ∃ m, w' = (w6.drewN n).drewN m := fun n => state_any (U6.drawn n)
          have SV : ∀ n, Calls Try.prog 11 #[.pointer (some ⟨g + 1, 0, none⟩)] (w6.drewN n) fun e w' => e = .returned (.int .i64 u6.state) ∧ ∃ m, w' = (w6.drewN n).drewN m := fun n => state_any (V6.drawn n)
          have WU : ∀ n, Calls Try.prog 13 #[.pointer (some ⟨g, 0, none⟩)] (w6.drewN n) fun e w' => e = .returned (.bool u6.warns) ∧ ∃ m, w' = (w6.drewN n).drewN m := fun n => warns_any (U6.drawn n)
          have WV : ∀ n, Calls Try.prog 13 #[.pointer (some ⟨g + 1, 0, none⟩)] (w6.drewN n) fun e w' => e = .returned (.bool u6.warns) ∧ ∃ m, w' = (w6.drewN n).drewN m := fun n => warns_any (V6.drawn n)
          generalize u6.state = st at *
          generalize u6.warns = wa at *
          go_wp2_with fail
          refine (HU 0).mono ?_
          rintro e w7 ⟨rfl, n1, rfl⟩
          go_wp2_with fail
          refine (HV _).mono ?_
          rintro e w7 ⟨rfl, n2, rfl⟩
          go_wp2_with fail
          refine (SU _).mono ?_
          rintro e w7 ⟨rfl, n3, rfl⟩
          go_wp2_with fail
          refine (SV _).mono ?_
          rintro e w7 ⟨rfl, n4, rfl⟩
          go_wp2_with fail
          refine (WU _).mono ?_
          rintro e w7 ⟨rfl, n5, rfl⟩
          go_wp2_with fail
          refine (WV _).mono ?_
          rintro e w7 ⟨rfl, n6, rfl⟩
          go_wp2
          go_roundw
          case rel => exact ⟨k2 + 1, by omega, by go_num, ⟨_, hu4, U6.drawn _, V6.drawn _⟩, Below.drawn B6 _⟩
          case measure => simp [intOf]; omega
        · go_wp2_with fail
          refine (lives3_any _).mono ?_
          rintro e w4 ⟨rfl, B4⟩
          go_wp2
          go_ret
          exact ⟨rfl, by rw [hg]; exact B2.trans (B4.mono (by have := B2.size; omega))⟩
end Go.Proofs.Ytajoganfpppimaa
