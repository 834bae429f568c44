/- A producer in memory, the program's and the document's: New, Start, Next. -/
import Derived.Test.YtnmjeomhmmfgmaaYaA
namespace Go.Proofs.Ytnmjeomhmmfgmaa
open Go.RowKit
set_option linter.unusedVariables false
set_option maxRecDepth 1000000

/-- The program's producer in block g; the document's. -/
def Pa (g : Nat) (s : Ps) (w : World) : Prop := w.heap[g]? = some (.cells #[.int .u64 s.per, .int .i64 s.ov, .int .u64 s.left, .int .i64 (cnt s.ov s.told)] 65 (0, 0))
section
variable {g : Nat} {s : Ps} {w : World}
theorem Pa.lt (h : Pa g s w) : g < w.heap.size := (Array.getElem?_eq_some_iff.1 h).1
theorem Pa.cells (h : Pa g s w) : w.cell? ⟨g, 0, none⟩ = some (.int .u64 s.per) ∧ w.cell? ⟨g, 1, none⟩ = some (.int .i64 s.ov) ∧ w.cell? ⟨g, 2, none⟩ = some (.int .u64 s.left) ∧ w.cell? ⟨g, 3, none⟩ = some (.int .i64 (cnt s.ov s.told)) ∧ ∀ k, w.frozen? ⟨g, k, none⟩ = false :=
  ⟨Lib.cell_of_heap h 0, Lib.cell_of_heap h 1, Lib.cell_of_heap h 2, Lib.cell_of_heap h 3, fun k => Lib.frozen_of_heap h k⟩
theorem Pa.drawn (h : Pa g s w) (n : Nat) : Pa g s (w.drewN n) := h
theorem Pa.two {p q : Nat} {w' : World} (h : Pa g s w) (t : Two p q w w') (h1 : g ≠ p) (h2 : g ≠ q) : Pa g s w' := (t.block g h.lt h1 h2).trans h
theorem Pa.below {w' : World} (h : Pa g s w) (t : Below w.heap.size w w') : Pa g s w' := (t.block g h.lt).trans h
theorem Pa.alloc (h : Pa g s w) (o : Obj) : Pa g s (w.alloc o) := (Below.heap_alloc w o g h.lt).trans h
/-- The two cells that change, written over. -/
theorem Pa.set2 (h : Pa g s w) (s' : Ps) (h1 : s'.per = s.per) (h2 : s'.ov = s.ov) (h3 : cnt s'.ov s'.told = cnt s.ov s.told) : Pa g s' (w.setCell ⟨g, 2, none⟩ (.int .u64 s'.left)) := by
  unfold Pa at *; rw [h1, h2] at *; simp [World.setCell, Array.getElem?_modify, h, h3]
theorem Pa.set23 (h : Pa g s w) (s' : Ps) (h1 : s'.per = s.per) (h2 : s'.ov = s.ov) : Pa g s' ((w.setCell ⟨g, 2, none⟩ (.int .u64 s'.left)).setCell ⟨g, 3, none⟩ (.int .i64 (cnt s'.ov s'.told))) := by
  unfold Pa at *; rw [h1, h2] at *; simp [World.setCell, Array.getElem?_modify, h]
theorem Pa.new (w : World) (per ov : Nat) : Pa w.heap.size ⟨per, ov, false, 0, 0⟩ (w.alloc (.cells #[.int .u64 per, .int .i64 ov, .int .u64 0, .int .i64 0] 65)) := by
  have := heap_alloc_new w (.cells #[.int .u64 per, .int .i64 ov, .int .u64 0, .int .i64 0] 65)
  have e : cnt ov 0 = 0 := by simp [cnt]
  unfold Pa
  simp only [e]
  exact this

theorem newP_ok (w : World) (per ov : Nat) (h1 : 1 ≤ per) (h2 : per ≤ 4294967296) (ho : ovO ov = true) : Calls Try.prog 8 #[.int .u64 per, .int .i64 ov] w fun e w' => e = .returned (.tuple #[.pointer (some ⟨w.heap.size, 0, none⟩), .int .i64 0]) ∧ w' = w.alloc (.cells #[.int .u64 per, .int .i64 ov, .int .u64 0, .int .i64 0] 65) := by
  have HM := may_any w ov
  rw [ho] at HM
  have d1 : decide ((per : Int) < 1) = false := by simp; omega
  have d2 : decide ((4294967296 : Int) < per) = false := by simp; omega
  go_enter Try.func8, Try.ntmps8
  go_wp2_with (go_at_call 26; refine HM.mono ?_; rintro e w' ⟨rfl, rfl⟩)
  go_ret2
  exact ⟨rfl, rfl⟩
theorem newP_bad (w : World) (per : Nat) (ov : Int) (h : ¬ (1 ≤ per ∧ per ≤ 4294967296 ∧ ovO ov = true)) : Calls Try.prog 8 #[.int .u64 per, .int .i64 ov] w fun e w' => e = .returned (.tuple #[.pointer none, .int .i64 1]) ∧ w' = w := by
  have HM := may_any w ov
  by_cases h1 : per < 1
  · have d1 : decide ((per : Int) < 1) = true := by simp; omega
    clear h
    go_enter Try.func8, Try.ntmps8
    go_wp2
    go_ret2
    exact ⟨rfl, rfl⟩
  · have d1 : decide ((per : Int) < 1) = false := by simp; omega
    by_cases h2 : 4294967296 < per
    · have d2 : decide ((4294967296 : Int) < per) = true := by simp; omega
      clear h
      go_enter Try.func8, Try.ntmps8
      go_wp2
      go_ret2
      exact ⟨rfl, rfl⟩
    · have d2 : decide ((4294967296 : Int) < per) = false := by simp; omega
      have h3 : ovO ov = false := by
        cases h4 : ovO ov
        · rfl
        · exact absurd ⟨by omega, by omega, h4⟩ h
      rw [h3] at HM
      clear h h3
      go_enter Try.func8, Try.ntmps8
      go_wp2_with (go_at_call 26; refine HM.mono ?_; rintro e w' ⟨rfl, rfl⟩)
      go_ret2
      exact ⟨rfl, rfl⟩
theorem start_any (hk : s.ok) (h : Pa g s w) (b : Bool) : Calls Try.prog 14 #[.pointer (some ⟨g, 0, none⟩), .bool b] w fun e w' => e = .returned (.tuple #[]) ∧ Pa g (s.start b) w' ∧ Two g g w w' := by
  obtain ⟨c0, c1, c2, c3, hf⟩ := h.cells
  obtain ⟨k1, k2, k3, k4⟩ := hk
  have f2 := hf 2
  have f3 := hf 3
  cases b
  · have H : Hid (Pa g (s.start false) (w.setCell ⟨g, 2, none⟩ (.int .u64 0))) := h.set2 (s.start false) rfl rfl rfl
    generalize s.start false = S at *
    clear h
    go_enter Try.func14, Try.ntmps14
    go_wp2
    go_end0
    exact ⟨rfl, H.out, (Two.refl _ _ _).at0 _ _⟩
  · cases hon : s.on
    · have H : Hid (Pa g (s.start true) ((w.setCell ⟨g, 2, none⟩ (.int .u64 s.per)).setCell ⟨g, 3, none⟩ (.int .i64 0))) := by
        show Pa _ _ _
        have := h.set23 (s.start true) (by simp [Ps.start, hon]) (by simp [Ps.start, hon])
        simpa [Ps.start, hon, Ps.left, cnt] using this
      have e1 : s.left = 0 := by simp [Ps.left, hon]
      rw [e1] at c2
      generalize s.start true = S at *
      clear h hon e1
      go_enter Try.func14, Try.ntmps14
      go_wp2
      go_end0
      exact ⟨rfl, H.out, ((Two.refl _ _ _).at0 _ _).at0 _ _⟩
    · have e0 : s.start true = s := by simp [Ps.start, hon]
      have e1 : s.left = s.per - s.went := by simp [Ps.left, hon]
      rw [e0]
      have d1 : ((s.left : Int) == 0) = false := by simp; omega
      have HH : Hid (Pa g s w) := h
      clear h hon e1 e0
      generalize s.left = L at *
      go_enter Try.func14, Try.ntmps14
      go_wp2
      go_end0
      exact ⟨rfl, HH.out, Two.refl _ _ _⟩
theorem next_any (hk : s.ok) (h : Pa g s w) : Calls Try.prog 16 #[.pointer (some ⟨g, 0, none⟩)] w fun e w' => e = .returned (.tuple #[.int .u64 s.left, .bool s.on]) ∧ ∃ n, w' = w.drewN n := by
  obtain ⟨c0, c1, c2, c3, hf⟩ := h.cells
  obtain ⟨k1, k2, k3, k4⟩ := hk
  have HS : Hid (s.on = decide (0 < s.left)) := by
    show _ = _
    unfold Ps.left
    cases s.on <;> simp
    omega
  generalize s.on = o at *
  generalize s.left = L at *
  go_enter Try.func16, Try.ntmps16
  go_wp2_with fail
  go_quiet (fail)
  go_wp2
  go_ret2
  rw [HS.out]
  exact ⟨rfl, _, rfl⟩
end

/-- The document's producer. -/
def Pd (g : Nat) (s : Ps) (w : World) : Prop := w.heap[g]? = some (.cells #[.int .u64 s.per, .int .i64 s.ov, .bool s.on, .int .u64 s.went, .int .i64 s.told] 32 (0, 0))
section
variable {g : Nat} {s : Ps} {w : World}
theorem Pd.lt (h : Pd g s w) : g < w.heap.size := (Array.getElem?_eq_some_iff.1 h).1
theorem Pd.cells (h : Pd g s w) : w.cell? ⟨g, 0, none⟩ = some (.int .u64 s.per) ∧ w.cell? ⟨g, 1, none⟩ = some (.int .i64 s.ov) ∧ w.cell? ⟨g, 2, none⟩ = some (.bool s.on) ∧ w.cell? ⟨g, 3, none⟩ = some (.int .u64 s.went) ∧ w.cell? ⟨g, 4, none⟩ = some (.int .i64 s.told) ∧ ∀ k, w.frozen? ⟨g, k, none⟩ = false :=
  ⟨Lib.cell_of_heap h 0, Lib.cell_of_heap h 1, Lib.cell_of_heap h 2, Lib.cell_of_heap h 3, Lib.cell_of_heap h 4, fun k => Lib.frozen_of_heap h k⟩
theorem Pd.drawn (h : Pd g s w) (n : Nat) : Pd g s (w.drewN n) := h
theorem Pd.two {p q : Nat} {w' : World} (h : Pd g s w) (t : Two p q w w') (h1 : g ≠ p) (h2 : g ≠ q) : Pd g s w' := (t.block g h.lt h1 h2).trans h
theorem Pd.below {w' : World} (h : Pd g s w) (t : Below w.heap.size w w') : Pd g s w' := (t.block g h.lt).trans h
theorem Pd.alloc (h : Pd g s w) (o : Obj) : Pd g s (w.alloc o) := (Below.heap_alloc w o g h.lt).trans h
theorem Pd.set2 (h : Pd g s w) (v : Bool) : Pd g ⟨s.per, s.ov, v, s.went, s.told⟩ (w.setCell ⟨g, 2, none⟩ (.bool v)) := by
  unfold Pd at *; simp [World.setCell, Array.getElem?_modify, h]
theorem Pd.set3 (h : Pd g s w) (v : Nat) : Pd g ⟨s.per, s.ov, s.on, v, s.told⟩ (w.setCell ⟨g, 3, none⟩ (.int .u64 v)) := by
  unfold Pd at *; simp [World.setCell, Array.getElem?_modify, h]
theorem Pd.set4 (h : Pd g s w) (v : Nat) : Pd g ⟨s.per, s.ov, s.on, s.went, v⟩ (w.setCell ⟨g, 4, none⟩ (.int .i64 v)) := by
  unfold Pd at *; simp [World.setCell, Array.getElem?_modify, h]
theorem dstart_any (h : Pd g s w) (b : Bool) : Calls Try.prog 15 #[.pointer (some ⟨g, 0, none⟩), .bool b] w fun e w' => e = .returned (.tuple #[]) ∧ Pd g (s.start b) w' ∧ Two g g w w' := by
  obtain ⟨c0, c1, c2, c3, c4, hf⟩ := h.cells
  have f2 := hf 2
  have f3 := hf 3
  have f4 := hf 4
  cases b
  · have H : Hid (Pd g (s.start false) (w.setCell ⟨g, 2, none⟩ (.bool false))) := h.set2 false
    generalize s.start false = S at *
    clear h
    go_enter Try.func15, Try.ntmps15
    go_wp2
    go_end0
    exact ⟨rfl, H.out, (Two.refl _ _ _).at0 _ _⟩
  · cases hon : s.on
    · have H : Hid (Pd g (s.start true) (((w.setCell ⟨g, 3, none⟩ (.int .u64 0)).setCell ⟨g, 4, none⟩ (.int .i64 0)).setCell ⟨g, 2, none⟩ (.bool true))) := by
        show Pd _ _ _
        have := ((h.set3 0).set4 0).set2 true
        simpa [Ps.start, hon] using this
      rw [hon] at c2
      generalize s.start true = S at *
      clear h hon
      go_enter Try.func15, Try.ntmps15
      go_wp2
      go_end0
      exact ⟨rfl, H.out, (((Two.refl _ _ _).at0 _ _).at0 _ _).at0 _ _⟩
    · have H : Hid (Pd g (s.start true) (w.setCell ⟨g, 2, none⟩ (.bool true))) := by
        show Pd _ _ _
        have := h.set2 true
        cases s
        simp only at hon
        subst hon
        simpa [Ps.start] using this
      rw [hon] at c2
      generalize s.start true = S at *
      clear h hon
      go_enter Try.func15, Try.ntmps15
      go_wp2
      go_end0
      exact ⟨rfl, H.out, (Two.refl _ _ _).at0 _ _⟩
end
end Go.Proofs.Ytnmjeomhmmfgmaa
