/- The document's consumer in memory: Take, Tick, Open. -/
import Derived.Test.YtnmjeomhmmfgmaaYaF
namespace Go.Proofs.Ytnmjeomhmmfgmaa
open Go.RowKit
set_option linter.unusedVariables false
set_option maxRecDepth 1000000

def Cd (g : Nat) (s : Cs) (w : World) : Prop := G6 48 g (.int .i64 s.ov) (.int .u64 s.win) (.int .i64 s.last) (.int .u64 s.cyc) (.int .u64 s.wr) (.int .u64 s.since) w
section
variable {g : Nat} {s : Cs} {w : World}
theorem Cd.lt (h : Cd g s w) : g < w.heap.size := G6.lt h
theorem Cd.drawn (h : Cd g s w) (n : Nat) : Cd g s (w.drewN n) := h
theorem Cd.two {p q : Nat} {w' : World} (h : Cd g s w) (t : Two p q w w') (h1 : g ≠ p) (h2 : g ≠ q) : Cd g s w' := (t.block g h.lt h1 h2).trans h
theorem Cd.below {w' : World} (h : Cd g s w) (t : Below w.heap.size w w') : Cd g s w' := (t.block g h.lt).trans h
theorem Cd.alloc (h : Cd g s w) (o : Obj) : Cd g s (w.alloc o) := (Below.heap_alloc w o g h.lt).trans h
theorem Cd.new (w : World) (ov win : Nat) : Cd w.heap.size ⟨ov, win, 0, 0, 0, 0⟩ (w.alloc (.cells #[.int .i64 ov, .int .u64 win, .int .i64 0, .int .u64 0, .int .u64 0, .int .u64 0] 48)) :=
  heap_alloc_new w (.cells #[.int .i64 ov, .int .u64 win, .int .i64 0, .int .u64 0, .int .u64 0, .int .u64 0] 48)
theorem dopen_any (h : Cd g s w) : Calls Try.prog 23 #[.pointer (some ⟨g, 0, none⟩)] w fun e w' => e = .returned (.bool s.isOpen) ∧ ∃ n, w' = w.drewN n := by
  obtain ⟨c0, c1, c2, c3, c4, c5, hf⟩ := G6.cells h
  have HO : Hid (s.isOpen = (decide (0 < s.cyc) && (decide (s.win = 0) || decide (s.since < s.win)))) := rfl
  generalize s.isOpen = o at *
  by_cases h1 : 0 < s.cyc
  · have d1 : decide ((0 : Int) < (s.cyc : Int)) = true := by simp; omega
    have d1' : decide (0 < s.cyc) = true := by simp; omega
    by_cases h2 : s.win = 0
    · have d2 : ((s.win : Int) == 0) = true := by simp; omega
      have d2' : (s.win == 0) = true := by simp; omega
      rw [decide_eq_true h1, decide_eq_true h2] at HO
      clear h h1 h2
      generalize s.win = W at *
      generalize s.cyc = C at *
      go_enter Try.func23, Try.ntmps23
      go_wp2_with fail
      go_quiet (fail)
      go_wp2
      go_ret
      exact ⟨ret_bool (by rw [HO.out]; rfl), _, rfl⟩
    · have d2 : ((s.win : Int) == 0) = false := by simp; omega
      have d2' : (s.win == 0) = false := by simp; omega
      rw [decide_eq_true h1, decide_eq_false h2] at HO
      clear h h1 h2
      generalize s.win = W at *
      generalize s.cyc = C at *
      go_enter Try.func23, Try.ntmps23
      go_wp2_with fail
      go_quiet (fail)
      go_wp2
      go_ret
      exact ⟨ret_bool (by rw [HO.out]; simp), _, rfl⟩
  · have d1 : decide ((0 : Int) < (s.cyc : Int)) = false := by simp; omega
    have d1' : decide (0 < s.cyc) = false := by simp; omega
    rw [decide_eq_false h1] at HO
    clear h h1
    generalize s.cyc = C at *
    go_enter Try.func23, Try.ntmps23
    go_wp2_with fail
    go_quiet (fail)
    go_wp2
    go_ret
    exact ⟨ret_bool (by rw [HO.out]; rfl), _, rfl⟩
theorem dctick_any (hk : s.ok) (h : Cd g s w) (n : Nat) (hn : n < 18446744073709551616) : Calls Try.prog 19 #[.pointer (some ⟨g, 0, none⟩), .int .u64 n] w fun e w' => e = .returned (.tuple #[]) ∧ Cd g (s.tick n) w' ∧ Two g g w w' := by
  obtain ⟨c0, c1, c2, c3, c4, c5, hf⟩ := G6.cells h
  obtain ⟨k1, k2, k3, k4, k5, k6⟩ := hk
  have f5 := hf 5
  by_cases hs : s.since + n < 18446744073709551616
  · have n0 := G6.set5 h (.int .u64 ((s.since : Int) + (n : Int)))
    have H : Hid (Cd g (s.tick n) (w.setCell ⟨g, 5, none⟩ (.int .u64 ((s.since : Int) + (n : Int)))) ∧ Two g g w (w.setCell ⟨g, 5, none⟩ (.int .u64 ((s.since : Int) + (n : Int))))) := by
      refine ⟨?_, (Two.refl _ _ _).at0 _ _⟩
      have e : s.tick n = ⟨s.ov, s.win, s.last, s.cyc, s.wr, s.since + n⟩ := by simp [Cs.tick]; omega
      rw [e]; exact n0
    obtain ⟨b0, b1, b2, b3, b4, b5, bf⟩ := G6.cells n0
    have d1 : decide ((s.since : Int) + (n : Int) < (n : Int)) = false := by simp; omega
    generalize s.tick n = S' at *
    generalize s.since = z at *
    clear h n0 b0 b1 b2 b3 b4 bf
    go_enter Try.func19, Try.ntmps19
    go_wp2
    go_end0
    exact ⟨rfl, H.out⟩
  · have e1 : IntKind.u64.wrap ((s.since : Int) + (n : Int)) = ((s.since + n - 18446744073709551616 : Nat) : Int) := by
      simp only [IntKind.wrap, IntKind.bits, IntKind.signed]
      simp
      omega
    have n0 := G6.set5 h (.int .u64 (s.since + n - 18446744073709551616 : Nat))
    have H : Hid (Cd g (s.tick n) ((w.setCell ⟨g, 5, none⟩ (.int .u64 (s.since + n - 18446744073709551616 : Nat))).setCell ⟨g, 5, none⟩ (.int .u64 18446744073709551615)) ∧ Two g g w ((w.setCell ⟨g, 5, none⟩ (.int .u64 (s.since + n - 18446744073709551616 : Nat))).setCell ⟨g, 5, none⟩ (.int .u64 18446744073709551615))) := by
      have := G6.set5 n0 (.int .u64 18446744073709551615)
      refine ⟨?_, ((Two.refl _ _ _).at0 _ _).at0 _ _⟩
      have e : s.tick n = ⟨s.ov, s.win, s.last, s.cyc, s.wr, 18446744073709551615⟩ := by simp [Cs.tick]; omega
      rw [e]; exact this
    obtain ⟨b0, b1, b2, b3, b4, b5, bf⟩ := G6.cells n0
    have bf5 := bf 5
    have d1 : decide (((s.since + n - 18446744073709551616 : Nat) : Int) < (n : Int)) = true := by simp; omega
    have d2 : s.since + n - 18446744073709551616 < n := by omega
    generalize s.tick n = S' at *
    obtain ⟨W1, hW1⟩ : ∃ W1, w.setCell ⟨g, 5, none⟩ (.int .u64 (s.since + n - 18446744073709551616 : Nat)) = W1 := ⟨_, rfl⟩
    rw [hW1] at H b5 bf5
    generalize hz : s.since + n - 18446744073709551616 = z at *
    clear h n0 b0 b1 b2 b3 b4 bf hz hs k6
    go_enter Try.func19, Try.ntmps19
    go_wp2
    go_end0
    exact ⟨rfl, H.out⟩
theorem dtake_no (hk : s.ok) (h : Cd g s w) (c : Int) (hf14 : fits14 s.ov c = false) : Calls Try.prog 21 #[.pointer (some ⟨g, 0, none⟩), .int .i64 c] w fun e w' => e = .returned (.int .i64 8) ∧ w' = w := by
  obtain ⟨c0, c1, c2, c3, c4, c5, hf⟩ := G6.cells h
  have hno : ¬ (min (s.ov : Int) 1 ≤ c ∧ c ≤ s.ov) := fun x => by simp [fits14] at hf14; omega
  clear hf14
  generalize s.ov = ov at *
  by_cases h0 : ov = 0
  · have d0 : ((ov : Int) == 0) = true := by simp; omega
    have d1 : (c != 0) = true := by simp; omega
    clear h hno h0
    go_enter Try.func21, Try.ntmps21
    go_wp2
    go_ret
    exact ⟨rfl, rfl⟩
  · have d0 : ((ov : Int) == 0) = false := by simp; omega
    have d1 : decide ((0 : Int) < (ov : Int)) = true := by simp; omega
    have d1' : decide (0 < ov) = true := by simp; omega
    have hp : 0 < ov := by omega
    by_cases h1 : c < 1
    · have d2 : decide (c < 1) = true := by simp; omega
      clear h hno h0
      go_enter Try.func21, Try.ntmps21
      go_wp2
      go_ret
      exact ⟨rfl, rfl⟩
    · have d2 : decide (c < 1) = false := by simp; omega
      have d3 : decide ((ov : Int) < c) = true := by simp; omega
      clear h hno h0
      go_enter Try.func21, Try.ntmps21
      go_wp2
      go_ret
      exact ⟨rfl, rfl⟩
set_option maxHeartbeats 1000000 in
theorem dtake_yes (hk : s.ok) (h : Cd g s w) (c : Nat) (hf14 : fits14 s.ov c = true) : Calls Try.prog 21 #[.pointer (some ⟨g, 0, none⟩), .int .i64 c] w fun e w' => e = .returned (.int .i64 (s.tells c)) ∧ Cd g (s.take c) w' ∧ Two g g w w' := by
  obtain ⟨c0, c1, c2, c3, c4, c5, hf⟩ := G6.cells h
  obtain ⟨k1, k2, k3, k4, k5, k6⟩ := hk
  have hlo : min (s.ov : Int) 1 ≤ c ∧ c ≤ s.ov := by simp [fits14] at hf14; omega
  have f2 := hf 2
  have f3 := hf 3
  have f4 := hf 4
  have f5 := hf 5
  have HT : Hid (s.tells c = if s.bad c then 6 else 0) := by show _ = _; simp [Cs.tells, hf14]
  have HK : Hid (s.bad c = false → ∀ x y, Cd g s x → (∃ n, y = x.drewN n) → Cd g (s.take c) (((y.setCell ⟨g, 3, none⟩ (.int .u64 ((s.cyc : Int) + 1))).setCell ⟨g, 2, none⟩ (.int .i64 (c : Int))).setCell ⟨g, 5, none⟩ (.int .u64 0))) := by
    intro hb x y hx ⟨n, hy⟩
    subst hy
    have e : s.take c = ⟨s.ov, s.win, c, s.cyc + 1, s.wr, 0⟩ := by simp [Cs.take, hf14, hb]
    rw [e]
    exact (((G6.drawn hx n).set3 (.int .u64 ((s.cyc + 1 : Nat)))).set2 _).set5 _
  have HK2 : Hid (s.bad c = true → ∀ x y, Cd g s x → (∃ n, y = x.drewN n) → Cd g (s.take c) ((((y.setCell ⟨g, 3, none⟩ (.int .u64 ((s.cyc : Int) + 1))).setCell ⟨g, 2, none⟩ (.int .i64 (c : Int))).setCell ⟨g, 5, none⟩ (.int .u64 0)).setCell ⟨g, 4, none⟩ (.int .u64 ((s.wr : Int) + 1)))) := by
    intro hb x y hx ⟨n, hy⟩
    subst hy
    have e : s.take c = ⟨s.ov, s.win, c, s.cyc + 1, s.wr + 1, 0⟩ := by simp [Cs.take, hf14, hb]
    rw [e]
    exact ((((G6.drawn hx n).set3 (.int .u64 ((s.cyc + 1 : Nat)))).set2 _).set5 _).set4 (.int .u64 ((s.wr + 1 : Nat)))
  have HC : Hid (Cd g s w) := h
  have HBad : Hid (s.bad c = (decide (0 < s.cyc) && !decide ((c : Int) = s.next))) := rfl
  have HN : Hid (0 < s.cyc → s.next = nxt s.ov s.last) := fun x => by unfold Cs.next; rw [if_neg (by omega)]
  clear hf14 h
  generalize s.take c = S at *
  generalize s.tells c = tl at *
  generalize s.bad c = bd at *
  by_cases h0 : s.ov = 0
  · have d0 : ((s.ov : Int) == 0) = true := by simp; omega
    have d0' : (s.ov == 0) = true := by simp; omega
    have d3 : decide ((0 : Int) < (s.ov : Int)) = false := by simp; omega
    have d3' : decide (0 < s.ov) = false := by simp; omega
    have d4 : ((c : Int) != 0) = false := by simp; omega
    have d4' : (c != 0) = false := by simp; omega
    have HBd : Hid (bd = false) := by
      show _ = _
      rw [HBad.out]
      by_cases hc : 0 < s.cyc
      · have := HN.out hc
        simp only [nxt, h0, if_true] at this
        rw [this]; simp; omega
      · simp; omega
    by_cases h1 : 0 < s.cyc
    · have d1 : decide ((0 : Int) < (s.cyc : Int)) = true := by simp; omega
      have d1' : decide (0 < s.cyc) = true := by simp; omega
      clear h0 h1 hlo
      go_enter Try.func21, Try.ntmps21
      go_wp2_with fail
      go_quiet (fail)
      go_wp2
      go_ret
      refine ⟨ret_int (by rw [HT.out, HBd.out]; rfl), HK.out HBd.out w _ HC.out ⟨_, rfl⟩, ?_⟩
      exact ((((Two.draw w g _).at0 _ _).at0 _ _).at0 _ _)
    · have d1 : decide ((0 : Int) < (s.cyc : Int)) = false := by simp; omega
      have d1' : decide (0 < s.cyc) = false := by simp; omega
      clear h0 h1 hlo
      go_enter Try.func21, Try.ntmps21
      go_wp2_with fail
      go_quiet (fail)
      go_wp2
      go_ret
      refine ⟨ret_int (by rw [HT.out, HBd.out]; rfl), HK.out HBd.out w _ HC.out ⟨_, rfl⟩, ?_⟩
      exact ((((Two.draw w g _).at0 _ _).at0 _ _).at0 _ _)
  · have d0 : ((s.ov : Int) == 0) = false := by simp; omega
    have d0' : (s.ov == 0) = false := by simp; omega
    have d3 : decide ((0 : Int) < (s.ov : Int)) = true := by simp; omega
    have d3' : decide (0 < s.ov) = true := by simp; omega
    have d5 : decide ((c : Int) < 1) = false := by simp; omega
    have d5' : decide (c < 1) = false := by simp; omega
    have d6 : decide ((s.ov : Int) < (c : Int)) = false := by simp; omega
    have d6' : decide (s.ov < c) = false := by simp; omega
    by_cases h1 : 0 < s.cyc
    · have d1 : decide ((0 : Int) < (s.cyc : Int)) = true := by simp; omega
      have d1' : decide (0 < s.cyc) = true := by simp; omega
      have e1 : (s.last : Int).tmod (s.ov : Int) = ((s.last % s.ov : Nat) : Int) := rfl
      have e3 : s.last % s.ov < s.ov := Nat.mod_lt _ (by omega)
      have hnx : s.next = s.last % s.ov + 1 := by rw [HN.out h1]; simp [nxt, h0]
      by_cases h2 : c = s.last % s.ov + 1
      · have HBd : Hid (bd = false) := by show _ = _; rw [HBad.out, hnx]; simp; omega
        have d7 : ((c : Int) != ((s.last % s.ov : Nat) : Int) + 1) = false := by simp; omega
        generalize s.last % s.ov = r at *
        clear h0 h1 hlo h2 hnx
        go_enter Try.func21, Try.ntmps21
        go_wp2_with fail
        go_quiet (fail)
        go_wp2
        go_ret
        refine ⟨ret_int (by rw [HT.out, HBd.out]; rfl), HK.out HBd.out w _ HC.out ⟨_, rfl⟩, ?_⟩
        exact ((((Two.draw w g _).at0 _ _).at0 _ _).at0 _ _)
      · have HBd : Hid (bd = true) := by show _ = _; rw [HBad.out, hnx]; simp; omega
        have d7 : ((c : Int) != ((s.last % s.ov : Nat) : Int) + 1) = true := by simp; omega
        generalize s.last % s.ov = r at *
        clear h0 h1 hlo h2 hnx
        go_enter Try.func21, Try.ntmps21
        go_wp2_with fail
        go_quiet (fail)
        go_wp2
        go_ret
        refine ⟨ret_int (by rw [HT.out, HBd.out]; rfl), HK2.out HBd.out w _ HC.out ⟨_, rfl⟩, ?_⟩
        exact ((((Two.draw w g _).at0 _ _).at0 _ _).at0 _ _).at0 _ _
    · have d1 : decide ((0 : Int) < (s.cyc : Int)) = false := by simp; omega
      have d1' : decide (0 < s.cyc) = false := by simp; omega
      have HBd : Hid (bd = false) := by show _ = _; rw [HBad.out]; simp; omega
      clear h0 h1 hlo
      go_enter Try.func21, Try.ntmps21
      go_wp2_with fail
      go_quiet (fail)
      go_wp2
      go_ret
      refine ⟨ret_int (by rw [HT.out, HBd.out]; rfl), HK.out HBd.out w _ HC.out ⟨_, rfl⟩, ?_⟩
      exact ((((Two.draw w g _).at0 _ _).at0 _ _).at0 _ _)
theorem dtake_any (hk : s.ok) (h : Cd g s w) (c : Int) : Calls Try.prog 21 #[.pointer (some ⟨g, 0, none⟩), .int .i64 c] w fun e w' => e = .returned (.int .i64 (s.tells c)) ∧ Cd g (s.take c) w' ∧ Two g g w w' := by
  cases hf : fits14 s.ov c
  · refine (dtake_no hk h c hf).mono ?_
    rintro e w' ⟨rfl, rfl⟩
    rw [show s.tells c = 8 by simp [Cs.tells, hf], show s.take c = s by simp [Cs.take, hf]]
    exact ⟨rfl, h, Two.refl _ _ _⟩
  · obtain ⟨m, rfl⟩ : ∃ m : Nat, c = m := ⟨c.toNat, by simp [fits14] at hf; omega⟩
    exact dtake_yes hk h m hf
end
end Go.Proofs.Ytnmjeomhmmfgmaa
