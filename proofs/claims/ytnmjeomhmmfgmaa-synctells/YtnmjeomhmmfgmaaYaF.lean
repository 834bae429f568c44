/- Take of a program's consumer. -/
import Derived.Test.YtnmjeomhmmfgmaaYaE
namespace Go.Proofs.Ytnmjeomhmmfgmaa
open Go.RowKit
set_option linter.unusedVariables false
set_option maxRecDepth 1000000

section
variable {g : Nat} {s : Cs} {w : World}
theorem Two.draw (w : World) (g n : Nat) : Two g g w (w.drewN n) := (Two.refl g g w).drawn n
/-- Not one that can be. -/
theorem ctake_no (hk : s.ok) (h : Ca g s w) (c : Int) (hf14 : fits14 s.ov c = false) : Calls Try.prog 20 #[.pointer (some ⟨g, 0, none⟩), .int .i64 c] w fun e w' => e = .returned (.int .i64 8) ∧ ∃ n, w' = w.drewN n := by
  obtain ⟨c0, c1, c2, c3, c4, c5, hf⟩ := G6.cells h
  have HF : ∀ x, Calls Try.prog 29 #[.int .i64 s.ov] x fun e w' => e = .returned (.int .i64 (min (s.ov : Int) 1)) ∧ w' = x := fun x => first_any x s.ov
  have HW : ∀ x, Calls Try.prog 28 #[.int .i64 c, .int .i64 (min (s.ov : Int) 1), .int .i64 s.ov] x fun e w' => e = .returned (.bool false) ∧ w' = x := fun x => by
    have := within_any x c (min (s.ov : Int) 1) s.ov (by omega)
    rw [show (decide (min (s.ov : Int) 1 ≤ c) && decide (c ≤ s.ov)) = false from hf14] at this
    exact this
  clear hf14 h
  generalize min (s.ov : Int) 1 = lo at *
  generalize s.ov = ov at *
  go_enter Try.func20, Try.ntmps20
  go_wp2_with fail
  go_quiet ((first | (go_at_call 29; exact Calls.quiet_of_same (HF _)) | (go_at_call 28; exact Calls.quiet_of_same (HW _))))
  go_wp2
  go_ret
  exact ⟨rfl, _, rfl⟩
set_option maxHeartbeats 1000000 in
theorem ctake_yes (hk : s.ok) (h : Ca g s w) (c : Nat) (hf14 : fits14 s.ov c = true) : Calls Try.prog 20 #[.pointer (some ⟨g, 0, none⟩), .int .i64 c] w fun e w' => e = .returned (.int .i64 (s.tells c)) ∧ Ca g (s.take c) w' ∧ Two g g w w' := by
  obtain ⟨c0, c1, c2, c3, c4, c5, hf⟩ := G6.cells h
  obtain ⟨k1, k2, k3, k4, k5, k6⟩ := hk
  have hcl : c ≤ 240 := by simp [fits14] at hf14; omega
  have HF : ∀ x, Calls Try.prog 29 #[.int .i64 s.ov] x fun e w' => e = .returned (.int .i64 (min (s.ov : Int) 1)) ∧ w' = x := fun x => first_any x s.ov
  have HW : ∀ x, Calls Try.prog 28 #[.int .i64 c, .int .i64 (min (s.ov : Int) 1), .int .i64 s.ov] x fun e w' => e = .returned (.bool true) ∧ w' = x := fun x => by
    have := within_any x c (min (s.ov : Int) 1) s.ov (by omega)
    rw [show (decide (min (s.ov : Int) 1 ≤ (c : Int)) && decide ((c : Int) ≤ s.ov)) = true from hf14] at this
    exact this
  have HB : ∀ x, Calls Try.prog 27 #[.int .i64 c, .int .i64 s.ov] x fun e w' => e = .returned (.int .i64 (nxt s.ov c)) ∧ ∃ n, w' = x.drewN n := fun x => behind_any x c s.ov hcl k1
  have f2 := hf 2
  have f3 := hf 3
  have f4 := hf 4
  have f5 := hf 5
  have HT : Hid (s.tells c = if s.bad c then 6 else 0) := by show _ = _; simp [Cs.tells, hf14]
  have HK : Hid (s.bad c = false → ∀ x y, Ca g s x → (∃ n, y = x.drewN n) → ∀ m, Ca g (s.take c) ((((y.setCell ⟨g, 4, none⟩ (.int .u64 ((s.cyc : Int) + 1))).drewN m).setCell ⟨g, 3, none⟩ (.int .u64 0)).setCell ⟨g, 2, none⟩ (.int .i64 (nxt s.ov c)))) := by
    intro hb x y hx ⟨n, hy⟩ m
    subst hy
    have e : s.take c = ⟨s.ov, s.win, c, s.cyc + 1, s.wr, 0⟩ := by simp [Cs.take, hf14, hb]
    rw [e]
    exact ((((G6.drawn hx n).set4 (.int .u64 ((s.cyc + 1 : Nat)))).drawn m).set3 _).set2 _
  have HK2 : Hid (s.bad c = true → ∀ x y, Ca g s x → (∃ n, y = x.drewN n) → ∀ m, Ca g (s.take c) (((((y.setCell ⟨g, 4, none⟩ (.int .u64 ((s.cyc : Int) + 1))).drewN m).setCell ⟨g, 3, none⟩ (.int .u64 0)).setCell ⟨g, 2, none⟩ (.int .i64 (nxt s.ov c))).setCell ⟨g, 5, none⟩ (.int .u64 ((s.wr : Int) + 1)))) := by
    intro hb x y hx ⟨n, hy⟩ m
    subst hy
    have e : s.take c = ⟨s.ov, s.win, c, s.cyc + 1, s.wr + 1, 0⟩ := by simp [Cs.take, hf14, hb]
    rw [e]
    exact (((((G6.drawn hx n).set4 (.int .u64 ((s.cyc + 1 : Nat)))).drawn m).set3 _).set2 _).set5 (.int .u64 ((s.wr + 1 : Nat)))
  have HC : Hid (Ca g s w) := h
  have HBad : Hid (s.bad c = (decide (0 < s.cyc) && !decide ((c : Int) = s.next))) := rfl
  clear hf14 h
  generalize s.take c = S at *
  generalize s.tells c = tl at *
  generalize s.bad c = bd at *
  generalize min (s.ov : Int) 1 = lo at *
  generalize nxt s.ov c = nx at *
  by_cases h1 : s.cyc = 0
  · have d1 : ((s.cyc : Int) == 0) = true := by simp; omega
    have d1' : (s.cyc == 0) = true := by simp; omega
    have HBd : Hid (bd = false) := by show _ = _; rw [HBad.out]; simp [h1]
    clear h1
    go_enter Try.func20, Try.ntmps20
    go_wp2_with fail
    go_quiet ((first | (go_at_call 29; exact Calls.quiet_of_same (HF _)) | (go_at_call 28; exact Calls.quiet_of_same (HW _))))
    go_wp2_with (go_at_call 27; refine (HB _).mono ?_; rintro e w' ⟨rfl, nb, rfl⟩)
    go_ret
    refine ⟨ret_int (by rw [HT.out, HBd.out]; rfl), HK.out HBd.out w _ HC.out ⟨_, rfl⟩ _, ?_⟩
    exact ((((Two.draw w g _).at0 _ _).drawn _).at0 _ _).at0 _ _
  · have d1 : ((s.cyc : Int) == 0) = false := by simp; omega
    have d1' : (s.cyc == 0) = false := by simp; omega
    by_cases h2 : c = s.next
    · have d2 : ((c : Int) == (s.next : Int)) = true := by simp; omega
      have d2' : (c == s.next) = true := by simp; omega
      have HBd : Hid (bd = false) := by show _ = _; rw [HBad.out]; simp [h2]
      clear h1 h2
      generalize s.next = nz at *
      go_enter Try.func20, Try.ntmps20
      go_wp2_with fail
      go_quiet ((first | (go_at_call 29; exact Calls.quiet_of_same (HF _)) | (go_at_call 28; exact Calls.quiet_of_same (HW _))))
      go_wp2_with (go_at_call 27; refine (HB _).mono ?_; rintro e w' ⟨rfl, nb, rfl⟩)
      go_ret
      refine ⟨ret_int (by rw [HT.out, HBd.out]; rfl), HK.out HBd.out w _ HC.out ⟨_, rfl⟩ _, ?_⟩
      exact ((((Two.draw w g _).at0 _ _).drawn _).at0 _ _).at0 _ _
    · have d2 : ((c : Int) == (s.next : Int)) = false := by simp; omega
      have d2' : (c == s.next) = false := by simp; omega
      have HBd : Hid (bd = true) := by show _ = _; rw [HBad.out]; simp; omega
      clear h1 h2
      generalize s.next = nz at *
      go_enter Try.func20, Try.ntmps20
      go_wp2_with fail
      go_quiet ((first | (go_at_call 29; exact Calls.quiet_of_same (HF _)) | (go_at_call 28; exact Calls.quiet_of_same (HW _))))
      go_wp2_with (go_at_call 27; refine (HB _).mono ?_; rintro e w' ⟨rfl, nb, rfl⟩)
      go_ret
      refine ⟨ret_int (by rw [HT.out, HBd.out]; rfl), HK2.out HBd.out w _ HC.out ⟨_, rfl⟩ _, ?_⟩
      exact (((((Two.draw w g _).at0 _ _).drawn _).at0 _ _).at0 _ _).at0 _ _
theorem ctake_any (hk : s.ok) (h : Ca g s w) (c : Int) : Calls Try.prog 20 #[.pointer (some ⟨g, 0, none⟩), .int .i64 c] w fun e w' => e = .returned (.int .i64 (s.tells c)) ∧ Ca g (s.take c) w' ∧ Two g g w w' := by
  cases hf : fits14 s.ov c
  · refine (ctake_no hk h c hf).mono ?_
    rintro e w' ⟨rfl, n, rfl⟩
    rw [show s.tells c = 8 by simp [Cs.tells, hf], show s.take c = s by simp [Cs.take, hf]]
    exact ⟨rfl, h, Two.draw _ _ _⟩
  · obtain ⟨m, rfl⟩ : ∃ m : Nat, c = m := ⟨c.toNat, by simp [fits14] at hf; omega⟩
    exact ctake_yes hk h m hf
end
end Go.Proofs.Ytnmjeomhmmfgmaa
