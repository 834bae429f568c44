/- A consumer in memory, the program's and the document's. -/
import Derived.Test.YtnmjeomhmmfgmaaYaC
namespace Go.Proofs.Ytnmjeomhmmfgmaa
open Go.RowKit
set_option linter.unusedVariables false
set_option maxRecDepth 1000000

/-- A block of six cells. -/
def G6 (T : TypeId) (g : Nat) (a b c d e f : Value) (w : World) : Prop := w.heap[g]? = some (.cells #[a, b, c, d, e, f] T (0, 0))
section
variable {T : TypeId} {g : Nat} {a b c d e f : Value} {w : World}
theorem G6.lt (h : G6 T g a b c d e f w) : g < w.heap.size := (Array.getElem?_eq_some_iff.1 h).1
theorem G6.cells (h : G6 T g a b c d e f w) : w.cell? ⟨g, 0, none⟩ = some a ∧ w.cell? ⟨g, 1, none⟩ = some b ∧ w.cell? ⟨g, 2, none⟩ = some c ∧ w.cell? ⟨g, 3, none⟩ = some d ∧ w.cell? ⟨g, 4, none⟩ = some e ∧ w.cell? ⟨g, 5, none⟩ = some f ∧ ∀ k, w.frozen? ⟨g, k, none⟩ = false :=
  ⟨Lib.cell_of_heap h 0, Lib.cell_of_heap h 1, Lib.cell_of_heap h 2, Lib.cell_of_heap h 3, Lib.cell_of_heap h 4, Lib.cell_of_heap h 5, fun k => Lib.frozen_of_heap h k⟩
theorem G6.drawn (h : G6 T g a b c d e f w) (n : Nat) : G6 T g a b c d e f (w.drewN n) := h
theorem G6.set2 (h : G6 T g a b c d e f w) (v : Value) : G6 T g a b v d e f (w.setCell ⟨g, 2, none⟩ v) := by unfold G6 at *; simp [World.setCell, Array.getElem?_modify, h]
theorem G6.set3 (h : G6 T g a b c d e f w) (v : Value) : G6 T g a b c v e f (w.setCell ⟨g, 3, none⟩ v) := by unfold G6 at *; simp [World.setCell, Array.getElem?_modify, h]
theorem G6.set4 (h : G6 T g a b c d e f w) (v : Value) : G6 T g a b c d v f (w.setCell ⟨g, 4, none⟩ v) := by unfold G6 at *; simp [World.setCell, Array.getElem?_modify, h]
theorem G6.set5 (h : G6 T g a b c d e f w) (v : Value) : G6 T g a b c d e v (w.setCell ⟨g, 5, none⟩ v) := by unfold G6 at *; simp [World.setCell, Array.getElem?_modify, h]
end
/-- The program's consumer in block g; the document's. -/
def Ca (g : Nat) (s : Cs) (w : World) : Prop := G6 68 g (.int .i64 s.ov) (.int .u64 s.win) (.int .i64 s.next) (.int .u64 s.since) (.int .u64 s.cyc) (.int .u64 s.wr) w
section
variable {g : Nat} {s : Cs} {w : World}
theorem Ca.lt (h : Ca g s w) : g < w.heap.size := G6.lt h
theorem Ca.drawn (h : Ca g s w) (n : Nat) : Ca g s (w.drewN n) := h
theorem Ca.two {p q : Nat} {w' : World} (h : Ca g s w) (t : Two p q w w') (h1 : g ≠ p) (h2 : g ≠ q) : Ca g s w' := (t.block g h.lt h1 h2).trans h
theorem Ca.below {w' : World} (h : Ca g s w) (t : Below w.heap.size w w') : Ca g s w' := (t.block g h.lt).trans h
theorem Ca.alloc (h : Ca g s w) (o : Obj) : Ca g s (w.alloc o) := (Below.heap_alloc w o g h.lt).trans h
theorem Ca.new (w : World) (ov win : Nat) : Ca w.heap.size ⟨ov, win, 0, 0, 0, 0⟩ (w.alloc (.cells #[.int .i64 ov, .int .u64 win, .int .i64 0, .int .u64 0, .int .u64 0, .int .u64 0] 68)) :=
  heap_alloc_new w (.cells #[.int .i64 ov, .int .u64 win, .int .i64 0, .int .u64 0, .int .u64 0, .int .u64 0] 68)
theorem Cs.ok_new (ov win : Nat) (ho : ov ≤ 240) (hw : win ≤ 4294967296) : (⟨ov, win, 0, 0, 0, 0⟩ : Cs).ok := ⟨ho, hw, by simp, by simp, by simp, by simp⟩
theorem newC_ok (w : World) (ov win : Nat) (h2 : win ≤ 4294967296) (ho : ovO ov = true) : Calls Try.prog 17 #[.int .i64 ov, .int .u64 win] w fun e w' => e = .returned (.tuple #[.pointer (some ⟨w.heap.size, 0, none⟩), .int .i64 0]) ∧ w' = w.alloc (.cells #[.int .i64 ov, .int .u64 win, .int .i64 0, .int .u64 0, .int .u64 0, .int .u64 0] 68) := by
  have HM := may_any w ov
  rw [ho] at HM
  have d2 : decide ((4294967296 : Int) < win) = false := by simp; omega
  go_enter Try.func17, Try.ntmps17
  go_wp2_with (go_at_call 26; refine HM.mono ?_; rintro e w' ⟨rfl, rfl⟩)
  go_ret2
  exact ⟨rfl, rfl⟩
theorem newC_bad (w : World) (ov : Int) (win : Nat) (h : ¬ (ovO ov = true ∧ win ≤ 4294967296)) : Calls Try.prog 17 #[.int .i64 ov, .int .u64 win] w fun e w' => e = .returned (.tuple #[.pointer none, .int .i64 1]) ∧ w' = w := by
  have HM := may_any w ov
  by_cases h3 : ovO ov = true
  · rw [h3] at HM
    have d2 : decide ((4294967296 : Int) < win) = true := by have : ¬ win ≤ 4294967296 := fun x => h ⟨h3, x⟩; simp; omega
    clear h h3
    go_enter Try.func17, Try.ntmps17
    go_wp2_with (go_at_call 26; refine HM.mono ?_; rintro e w' ⟨rfl, rfl⟩)
    go_ret2
    exact ⟨rfl, rfl⟩
  · rw [Bool.not_eq_true] at h3
    rw [h3] at HM
    clear h h3
    go_enter Try.func17, Try.ntmps17
    go_wp2_with (go_at_call 26; refine HM.mono ?_; rintro e w' ⟨rfl, rfl⟩)
    go_ret2
    exact ⟨rfl, rfl⟩
theorem ccycle_any (h : Ca g s w) : Calls Try.prog 24 #[.pointer (some ⟨g, 0, none⟩)] w fun e w' => e = .returned (.int .u64 s.cyc) ∧ w' = w := by
  obtain ⟨c0, c1, c2, c3, c4, c5, hf⟩ := G6.cells h
  go_enter Try.func24, Try.ntmps24
  go_wp2
  go_ret
  exact ⟨rfl, rfl⟩
theorem cwrong_any (h : Ca g s w) : Calls Try.prog 25 #[.pointer (some ⟨g, 0, none⟩)] w fun e w' => e = .returned (.int .u64 s.wr) ∧ w' = w := by
  obtain ⟨c0, c1, c2, c3, c4, c5, hf⟩ := G6.cells h
  go_enter Try.func25, Try.ntmps25
  go_wp2
  go_ret
  exact ⟨rfl, rfl⟩
theorem copen_any (h : Ca g s w) : Calls Try.prog 22 #[.pointer (some ⟨g, 0, none⟩)] w fun e w' => e = .returned (.bool s.isOpen) ∧ ∃ n, w' = w.drewN n := by
  obtain ⟨c0, c1, c2, c3, c4, c5, hf⟩ := G6.cells h
  have HO : Hid (s.isOpen = (decide (0 < s.cyc) && (decide (s.win = 0) || decide (s.since < s.win)))) := rfl
  generalize s.isOpen = o at *
  by_cases h1 : 0 < s.cyc
  · have d1 : decide ((0 : Int) < (s.cyc : Int)) = true := by simp; omega
    have d1' : decide (0 < s.cyc) = true := by simp; omega
    by_cases h2 : s.win = 0
    · have d2 : ((s.win : Int) == 0) = true := by simp; omega
      have d2' : (s.win == 0) = true := by simp; omega
      rw [decide_eq_true h1, decide_eq_true h2] at HO
      clear h h1 h2
      generalize s.win = W at *
      generalize s.cyc = C at *
      go_enter Try.func22, Try.ntmps22
      go_wp2_with fail
      go_quiet (fail)
      go_wp2
      go_ret
      exact ⟨ret_bool (by rw [HO.out]; rfl), _, rfl⟩
    · have d2 : ((s.win : Int) == 0) = false := by simp; omega
      have d2' : (s.win == 0) = false := by simp; omega
      rw [decide_eq_true h1, decide_eq_false h2] at HO
      clear h h1 h2
      generalize s.win = W at *
      generalize s.cyc = C at *
      go_enter Try.func22, Try.ntmps22
      go_wp2_with fail
      go_quiet (fail)
      go_wp2
      go_ret
      exact ⟨ret_bool (by rw [HO.out]; simp), _, rfl⟩
  · have d1 : decide ((0 : Int) < (s.cyc : Int)) = false := by simp; omega
    have d1' : decide (0 < s.cyc) = false := by simp; omega
    rw [decide_eq_false h1] at HO
    clear h h1
    generalize s.cyc = C at *
    go_enter Try.func22, Try.ntmps22
    go_wp2_with fail
    go_quiet (fail)
    go_wp2
    go_ret
    exact ⟨ret_bool (by rw [HO.out]; rfl), _, rfl⟩
theorem ctick_any (hk : s.ok) (h : Ca g s w) (n : Nat) (hn : n < 18446744073709551616) : Calls Try.prog 18 #[.pointer (some ⟨g, 0, none⟩), .int .u64 n] w fun e w' => e = .returned (.tuple #[]) ∧ Ca g (s.tick n) w' ∧ Two g g w w' := by
  obtain ⟨c0, c1, c2, c3, c4, c5, hf⟩ := G6.cells h
  obtain ⟨k1, k2, k3, k4, k5, k6⟩ := hk
  have f3 := hf 3
  have e1 : (18446744073709551615 : Int) - (s.since : Int) = ((18446744073709551615 - s.since : Nat) : Int) := by omega
  have H : Hid (∀ z : Int, z = (s.tick n).since → Ca g (s.tick n) (w.setCell ⟨g, 3, none⟩ (.int .u64 z))) := fun z hz => by subst hz; exact G6.set3 h (.int .u64 (s.tick n).since)
  have HS : Hid ((s.tick n).since = min (s.since + n) 18446744073709551615) := rfl
  have HG : Hid (∀ m, ∀ z : Int, z = (s.tick n).since → Ca g (s.tick n) ((w.drewN m).setCell ⟨g, 3, none⟩ (.int .u64 z))) := fun m z hz => by subst hz; exact G6.set3 (G6.drawn h m) (.int .u64 (s.tick n).since)
  generalize (s.tick n).since = S at *
  generalize s.tick n = S' at *
  generalize s.since = B at *
  clear h
  go_enter Try.func18, Try.ntmps18
  go_wp2_with fail
  go_region
  all_goals
    go_end0
    refine ⟨rfl, ?_, ?_⟩
    · refine HG.out 1 _ ?_
      rw [HS.out]
      omega
    · exact ((Two.refl _ _ _).drawn 1).at0 _ _
end
end Go.Proofs.Ytnmjeomhmmfgmaa
