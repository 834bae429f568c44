/- Contracts: the document's Idle; the small living call; something that happens to both. -/
import Derived.Test.YtajoganfpppimaaUnit3
namespace Go.Proofs.Ytajoganfpppimaa
open Go.RowKit
set_option linter.unusedVariables false
set_option maxRecDepth 1000000

section
variable {g q : Nat} {u : Un} {w : World}
theorem didle_any (n : Int) (hn : -9223372036854775808 ≤ n ∧ n < 9223372036854775808) (hk : u.ok) (h : Da g u w) : Calls Try.prog 26 #[.pointer (some ⟨g, 0, none⟩), .int .i64 n] w fun e w' => e = .returned (.bool (u.back n)) ∧ Da g (u.idle n) w' ∧ Two g g w w' := by
  obtain ⟨c0, c1, c2, c3, hf⟩ := h.cells
  have f3 := hf 3
  have HR : ∀ z : Nat, Calls Try.prog 27 #[.pointer (some ⟨g, 0, none⟩)] (w.setCell ⟨g, 3, none⟩ (.int .i64 z)) fun e w' => e = .returned (.tuple #[]) ∧ Da g Un.nul w' ∧ Two g g (w.setCell ⟨g, 3, none⟩ (.int .i64 z)) w' := fun z => dreset_any (u := ⟨u.s, u.r, z⟩) ((h.dc.set3 z).da rfl)
  obtain ⟨k1, k2, k3⟩ := hk
  obtain ⟨n1, n2⟩ := hn
  unfold Un.off at c2
  unfold Un.back
  by_cases h1 : 255 < u.s
  · rw [show decide (255 < u.s) = true by simpa using h1] at c2 ⊢
    by_cases h2 : 128 - (u.k : Int) ≤ n
    · have HU : Hid (u.idle n = Un.nul) := by show _ = _; unfold Un.idle; rw [if_pos h1, if_pos h2]
      rw [show decide (128 - (u.k : Int) ≤ n) = true by simpa using h2]
      generalize u.idle n = U at *
      clear h1
      have d1 : decide (n < 1) = false := by simp; omega
      by_cases h4 : 128 < n
      · have HR' := HR (u.k + 128)
        have e1 : ((u.k + 128 : Nat) : Int) = (u.k : Int) + 128 := by omega
        rw [e1] at HR'
        have d2 : decide ((128 : Int) < n) = true := by simp; omega
        have d3 : decide ((u.k : Int) + 128 < 128) = false := by simp; omega
        clear HR e1 h
        go_enter Try.func26, Try.ntmps26
        go_wp2_with (first | (go_at_call 27; refine HR'.mono ?_; rintro e w' ⟨rfl, R1, R2⟩))
        go_ret
        exact ⟨rfl, by rw [HU.out]; exact R1, ((Two.refl _ _ _).at0 _ _).trans R2⟩
      · have HR' := HR (u.k + n.toNat)
        have e1 : ((u.k + n.toNat : Nat) : Int) = (u.k : Int) + n := by omega
        rw [e1] at HR'
        have d2 : decide ((128 : Int) < n) = false := by simp; omega
        have d3 : decide ((u.k : Int) + n < 128) = false := by simp; omega
        clear HR e1 h
        go_enter Try.func26, Try.ntmps26
        go_wp2_with (first | (go_at_call 27; refine HR'.mono ?_; rintro e w' ⟨rfl, R1, R2⟩))
        go_ret
        exact ⟨rfl, by rw [HU.out]; exact R1, ((Two.refl _ _ _).at0 _ _).trans R2⟩
    · have HU : Hid (u.idle n = ⟨u.s, u.r, u.k + n.toNat⟩) := by show _ = _; unfold Un.idle; rw [if_pos h1, if_neg h2]
      rw [show decide (128 - (u.k : Int) ≤ n) = false by simpa using h2]
      by_cases h3 : n < 1
      · have HU' : Hid (u.idle n = u) := by
          show _ = _
          rw [HU.out]
          have : u.k + n.toNat = u.k := by omega
          rw [this]
        generalize u.idle n = U at *
        clear h1 HR HU
        have d1 : decide (n < 1) = true := by simp; omega
        go_enter Try.func26, Try.ntmps26
        go_wp2
        go_ret
        exact ⟨rfl, by rw [HU'.out]; exact h, Two.refl _ _ _⟩
      · have HH : Hid (∀ z : Int, z = ((u.k + n.toNat : Nat) : Int) → Da g (u.idle n) (w.setCell ⟨g, 3, none⟩ (.int .i64 z))) := by
          intro z hz
          rw [hz, HU.out]
          exact (h.dc.set3 _).da rfl
        generalize u.idle n = U at *
        clear h1 HR h HU
        have d1 : decide (n < 1) = false := by simp; omega
        have d2 : decide ((128 : Int) < n) = false := by simp; omega
        have d3 : decide ((u.k : Int) + n < 128) = true := by simp; omega
        go_enter Try.func26, Try.ntmps26
        go_wp2
        go_ret
        exact ⟨rfl, HH.out _ (by omega), (Two.refl _ _ _).at0 _ _⟩
  · rw [show decide (255 < u.s) = false by simpa using h1] at c2 ⊢
    have HU : Hid (u.idle n = u) := by show _ = _; unfold Un.idle; rw [if_neg h1]
    generalize u.idle n = U at *
    clear h1 HR
    go_enter Try.func26, Try.ntmps26
    go_wp2
    go_ret
    exact ⟨rfl, by rw [HU.out]; exact h, Two.refl _ _ _⟩

theorem lives3_any (w : World) : Calls Try.prog 15 #[] w fun e w' => e = .returned (.bool true) ∧ Below w.heap.size w w' := by
  have U0 := Ua.new w
  have T0 : Two w.heap.size w.heap.size w (w.alloc (.cells #[.int .i64 0, .int .i64 0, .int .i64 0] 44)) := (Two.refl _ _ _).alloc _
  go_enter Try.func15, Try.ntmps15
  go_wp2_with (go_at_call 8; refine (new_any _).mono ?_; rintro e w' ⟨rfl, rfl⟩)
  generalize w.alloc (.cells #[.int .i64 0, .int .i64 0, .int .i64 0] 44) = w1 at *
  generalize hB : w.heap.size = B at *
  refine (fail_any false Un.ok_nul U0).mono ?_
  rintro e w2 ⟨rfl, U1, T1⟩
  have T2 := T0.trans T1
  clear U0 T0 T1
  go_wp2_with fail
  refine (counts_any U1).mono ?_
  rintro e w3 ⟨rfl, n, rfl⟩
  have U2 := U1.drawn n
  have T3 := T2.drawn n
  have HC := state_any U2
  have e1 : (Un.nul.fail false).s = 8 := rfl
  have e2 : (Un.nul.fail false).r = 0 := rfl
  have e3 : (Un.nul.fail false).state = 0 := rfl
  rw [e3] at HC
  rw [e1, e2]
  clear U1 U2 e1 e2 e3
  go_wp2_with (first | (go_at_call 11; refine HC.mono ?_; rintro e w' ⟨rfl, m, rfl⟩))
  go_ret
  exact ⟨rfl, (T2.drawn _).below (Nat.le_refl _) (by omega) (by omega)⟩
end
end Go.Proofs.Ytajoganfpppimaa
