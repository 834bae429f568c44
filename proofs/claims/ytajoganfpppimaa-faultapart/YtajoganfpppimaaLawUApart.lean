/- The law FaultApart returns true whatever happens. -/
import Derived.Test.YtajoganfpppimaaLawUActs
namespace Go.Proofs.Ytajoganfpppimaa
open Go.RowKit
set_option linter.unusedVariables false
set_option maxRecDepth 1000000

theorem on_r (a : Ac) (u : Un) (h : a.kind ≤ 2) (h1 : a.kind ≠ 1) : (a.on u).r = u.r := by
  unfold Ac.on
  by_cases h0 : a.kind = 0
  · rw [if_pos h0]; unfold Un.sent; split <;> rfl
  · rw [if_neg h0, if_neg h1]
    by_cases h2 : a.kind = 2
    · rw [if_pos h2]; unfold Un.fail; repeat' split
      all_goals rfl
    · rw [if_neg h2, if_neg (by omega), if_neg (by omega), if_neg (by omega)]
theorem on_s (a : Ac) (u : Un) (h : a.kind = 1 ∨ a.kind = 3) : (a.on u).s = u.s := by
  unfold Ac.on
  rcases h with h | h
  · rw [if_neg (by omega), if_pos h]; unfold Un.recv; repeat' split
    all_goals rfl
  · rw [if_neg (by omega), if_neg (by omega), if_neg (by omega), if_pos h]; unfold Un.err; split <;> rfl
theorem Below.drawn {B : Nat} {a w : World} (h : Below B a w) (n : Nat) : Below B a (w.drewN n) := ⟨h.os, h.tape, h.output, h.size, h.block⟩
set_option maxHeartbeats 4000000 in
theorem apart_walk (v : Value) (l : List { a : Ac // a.ok }) (w : World) (hl : l.length ≤ 140737488351232) (hB : Acts w v l) :
    Calls Try.prog 6 #[v] w fun e w' => e = .returned (.bool true) ∧ Below w.heap.size w w' := by
  obtain ⟨ao, cap, rfl, _, hc⟩ := hB
  have HC : Hid (∀ (wr : World), Below w.heap.size w wr → ∀ k (hk : k < l.length), ∃ b off, ao = some ⟨b, off, none⟩ ∧ b < w.heap.size ∧ wr.rangeAt b (off + k * 4) (decA l[k])) := fun wr hb k hk => Wide.at hc hb k hk
  have U0 := Ua.new w
  have B0 : Below w.heap.size w (w.alloc (.cells #[.int .i64 0, .int .i64 0, .int .i64 0] 44)) := (Below.refl _ _).alloc (Nat.le_refl _) _
  clear hc
  go_enter Try.func6, Try.ntmps6
  go_wp2_with (go_at_call 8; refine (new_any _).mono ?_; rintro e w' ⟨rfl, rfl⟩)
  generalize w.alloc (.cells #[.int .i64 0, .int .i64 0, .int .i64 0] 44) = w1 at *
  generalize hg : w.heap.size = g at *
  go_loopw [4] (fun i x => ∃ k : Nat, k ≤ l.length ∧ i = .int .i64 k ∧ (∃ u : Un, u.ok ∧ Ua g u x) ∧ Below g w x) (fun i _ => l.length - (intOf i).toNat)
  case atStart => exact ⟨0, by omega, rfl, ⟨_, Un.ok_nul, U0⟩, B0⟩
  case round =>
    clear U0 B0
    obtain ⟨k, hk, rfl, ⟨u, hu, U1⟩, B1⟩ := hrel
    by_cases hkl : k < l.length
    · go_wp2_with fail
      refine (counts_any U1).mono ?_
      rintro e w3 ⟨rfl, n, rfl⟩
      have U2 := U1.drawn n
      have B2 := Below.drawn B1 n
      generalize wr.drewN n = w2 at *
      clear U1 B1
      have s2 := B2.size
      have g2 := U2.lt
      have D3 := Da.new w2
      have U3 := U2.alloc (.cells #[.int .i64 0, .int .i64 0, .bool false, .int .i64 0] 27)
      have B3 : Below g w (w2.alloc (.cells #[.int .i64 0, .int .i64 0, .bool false, .int .i64 0] 27)) := B2.alloc (by omega) _
      generalize hq : w2.heap.size = q at *
      have hq3 : q < (w2.alloc (.cells #[.int .i64 0, .int .i64 0, .bool false, .int .i64 0] 27)).heap.size := D3.lt
      obtain ⟨b, off, rfl, hb, hR⟩ := HC.out _ B3 k hkl
      have hao := l[k].2
      have HC' : Hid (∀ (wr : World), Below g w wr → wr.rangeAt b (off + k * 4) (decA l[k])) := by
        intro wr hb
        obtain ⟨b', off', e', _, hR'⟩ := HC.out wr hb k hkl
        simp only [Option.some.injEq, Addr.mk.injEq, and_true] at e'
        obtain ⟨rfl, rfl⟩ := e'
        exact hR'
      generalize l[k] = a at *
      clear U2 B2
      go_wp2_with (refine act_ld hR rfl _ rfl rfl ?_)
      refine (does_any a.1 hao hu Un.ok_nul (by omega) U3 D3).mono ?_
      rintro e w4 ⟨rfl, U4, D4, T4⟩
      have B4 : Below g w w4 := B3.trans (T4.below (by omega) (Nat.le_refl _) (by omega))
      have hu4 := a.1.ok_on hu
      generalize a.1.told u Un.nul = tt at *
      clear U3 D3 B3 T4 D4 hR
      go_wp2_with fail
      refine (counts_any U4).mono ?_
      rintro e w3 ⟨rfl, n2, rfl⟩
      have U5 := U4.drawn n2
      have B5 := Below.drawn B4 n2
      generalize w4.drewN n2 = w5 at *
      clear U4 B4
      obtain ⟨c0, _, _, _⟩ := act_cells (HC'.out _ B5)
      by_cases k1 : a.1.kind = 1 ∨ a.1.kind = 3
      · have e1 : ((a.1.on u).s : Int) = (u.s : Int) := by rw [on_s a.1 u k1]
        have e2 : ((((a.1.on u).s : Int)) != (u.s : Int)) = false := by rw [e1]; simp
        generalize a.1.on u = u5 at *
        go_wp2
        all_goals
          go_roundw
          case rel => exact ⟨k + 1, by omega, by go_num, ⟨u5, hu4, U5⟩, B5⟩
          case measure => simp [intOf]; omega
      · have k3 : ¬ a.1.kind = 3 := fun h => k1 (.inr h)
        have k1' : ¬ a.1.kind = 1 := fun h => k1 (.inl h)
        have d3 : (a.1.kind == 3) = false := by simpa using k3
        have d1 : (a.1.kind == 1) = false := by simpa using k1'
        by_cases k2 : a.1.kind ≤ 2
        · have e1 : ((a.1.on u).r : Int) = (u.r : Int) := by rw [on_r a.1 u k2 k1']
          have e2 : ((((a.1.on u).r : Int)) != (u.r : Int)) = false := by rw [e1]; simp
          generalize a.1.on u = u5 at *
          clear k1
          go_wp2
          all_goals
            go_roundw
            case rel => exact ⟨k + 1, by omega, by go_num, ⟨u5, hu4, U5⟩, B5⟩
            case measure => simp [intOf]; omega
        · generalize a.1.on u = u5 at *
          clear k1
          go_wp2
          all_goals
            go_roundw
            case rel => exact ⟨k + 1, by omega, by go_num, ⟨u5, hu4, U5⟩, B5⟩
            case measure => simp [intOf]; omega
    · go_wp2_with fail
      refine (lives3_any _).mono ?_
      rintro e w4 ⟨rfl, B4⟩
      go_wp2
      go_ret
      exact ⟨rfl, by rw [hg]; exact B1.trans (B4.mono (by have := B1.size; omega))⟩
end Go.Proofs.Ytajoganfpppimaa
