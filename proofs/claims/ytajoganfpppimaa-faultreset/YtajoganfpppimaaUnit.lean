/- Contracts of a unit's calls: off, greatest, Counts, State, Warns; the document's own. -/
import Derived.Test.YtajoganfpppimaaUMath
import Derived.Test.YtajoganfpppimaaProg
import Derived.WalkKit
import Derived.WalkSmall
import Derived.Deep.QuietTactic
import Derived.BigQuiet
import Derived.Deep.WholeRow
import Derived.Below
namespace Go.Proofs.Ytajoganfpppimaa
open Go.RowKit
set_option linter.unusedVariables false
set_option maxRecDepth 1000000

theorem ret_int {k : IntKind} {a b : Int} (h : a = b) : Ending.returned (.int k a) = .returned (.int k b) := by rw [h]
theorem ret_bool {a b : Bool} (h : a = b) : Ending.returned (.bool a) = .returned (.bool b) := by rw [h]

/-- Blocks other than g and h stand; nothing else is changed. -/
structure Two (g h : Nat) (w w' : World) : Prop where
  os : w'.os = w.os
  tape : w'.tape = w.tape
  output : w'.output = w.output
  size : w.heap.size ≤ w'.heap.size
  block : ∀ k, k < w.heap.size → k ≠ g → k ≠ h → w'.heap[k]? = w.heap[k]?
section
variable {g h : Nat} {a b c w : World}
theorem Two.refl (g h : Nat) (w : World) : Two g h w w := ⟨rfl, rfl, rfl, Nat.le_refl _, fun _ _ _ _ => rfl⟩
theorem Two.trans (x : Two g h a b) (y : Two g h b c) : Two g h a c :=
  ⟨y.os.trans x.os, y.tape.trans x.tape, y.output.trans x.output, Nat.le_trans x.size y.size, fun k hk h1 h2 => (y.block k (Nat.lt_of_lt_of_le hk x.size) h1 h2).trans (x.block k hk h1 h2)⟩
theorem Two.setCell (x : Two g h a w) {p : Addr} (hp : p.block = g ∨ p.block = h ∨ a.heap.size ≤ p.block) (v : Value) : Two g h a (w.setCell p v) :=
  ⟨x.os, x.tape, x.output, by simpa [World.setCell] using x.size, fun k hk h1 h2 => (Below.heap_setCell w p v k (by omega)).trans (x.block k hk h1 h2)⟩
theorem Two.alloc (x : Two g h a w) (o : Obj) : Two g h a (w.alloc o) :=
  ⟨x.os, x.tape, x.output, Nat.le_trans x.size (by simp), fun k hk h1 h2 => (Below.heap_alloc _ _ _ (Nat.lt_of_lt_of_le hk x.size)).trans (x.block k hk h1 h2)⟩
theorem Two.drawn (x : Two g h a w) (n : Nat) : Two g h a (w.drewN n) := ⟨x.os, x.tape, x.output, x.size, x.block⟩
theorem Two.row (x : Two g h a w) (q : Nat) (hq : q = g ∨ q = h) (cs : Array Value) : Two g h a (w.setRow q cs) :=
  ⟨x.os, x.tape, x.output, by simpa [World.setRow] using x.size, fun k hk h1 h2 => (setRow_other w q k _ (by omega)).trans (x.block k hk h1 h2)⟩
theorem Two.at0 (x : Two g h a w) (i : Nat) (v : Value) : Two g h a (w.setCell ⟨g, i, none⟩ v) := x.setCell (p := ⟨g, i, none⟩) (.inl rfl) v
theorem Two.at1 (x : Two g h a w) (i : Nat) (v : Value) : Two g h a (w.setCell ⟨h, i, none⟩ v) := x.setCell (p := ⟨h, i, none⟩) (.inr (.inl rfl)) v
theorem Two.left (x : Two g g a w) (h : Nat) : Two g h a w := ⟨x.os, x.tape, x.output, x.size, fun k hk h1 h2 => x.block k hk h1 h1⟩
theorem Two.right (x : Two h h a w) (g : Nat) : Two g h a w := ⟨x.os, x.tape, x.output, x.size, fun k hk h1 h2 => x.block k hk h2 h2⟩
theorem Two.below (x : Two g h a w) {B : Nat} (hB : B ≤ a.heap.size) (hg : B ≤ g) (hh : B ≤ h) : Below B a w :=
  ⟨x.os, x.tape, x.output, x.size, fun k hk => x.block k (by omega) (by omega) (by omega)⟩
end

/-- The program's unit in block g; the document's. -/
def Ua (g : Nat) (u : Un) (w : World) : Prop := w.heap[g]? = some (.cells #[.int .i64 u.s, .int .i64 u.r, .int .i64 u.k] 44 (0, 0))
def Da (g : Nat) (u : Un) (w : World) : Prop := w.heap[g]? = some (.cells #[.int .i64 u.s, .int .i64 u.r, .bool u.off, .int .i64 u.k] 27 (0, 0))
section
variable {g : Nat} {u : Un} {w : World}
theorem Ua.lt (h : Ua g u w) : g < w.heap.size := (Array.getElem?_eq_some_iff.1 h).1
theorem Da.lt (h : Da g u w) : g < w.heap.size := (Array.getElem?_eq_some_iff.1 h).1
theorem Ua.cells (h : Ua g u w) : w.cell? ⟨g, 0, none⟩ = some (.int .i64 u.s) ∧ w.cell? ⟨g, 1, none⟩ = some (.int .i64 u.r) ∧ w.cell? ⟨g, 2, none⟩ = some (.int .i64 u.k) ∧ ∀ k, w.frozen? ⟨g, k, none⟩ = false :=
  ⟨Lib.cell_of_heap h 0, Lib.cell_of_heap h 1, Lib.cell_of_heap h 2, fun k => Lib.frozen_of_heap h k⟩
theorem Da.cells (h : Da g u w) : w.cell? ⟨g, 0, none⟩ = some (.int .i64 u.s) ∧ w.cell? ⟨g, 1, none⟩ = some (.int .i64 u.r) ∧ w.cell? ⟨g, 2, none⟩ = some (.bool u.off) ∧ w.cell? ⟨g, 3, none⟩ = some (.int .i64 u.k) ∧ ∀ k, w.frozen? ⟨g, k, none⟩ = false :=
  ⟨Lib.cell_of_heap h 0, Lib.cell_of_heap h 1, Lib.cell_of_heap h 2, Lib.cell_of_heap h 3, fun k => Lib.frozen_of_heap h k⟩
theorem Ua.drawn (h : Ua g u w) (n : Nat) : Ua g u (w.drewN n) := h
theorem Da.drawn (h : Da g u w) (n : Nat) : Da g u (w.drewN n) := h
theorem Ua.two {p q : Nat} {w' : World} (h : Ua g u w) (t : Two p q w w') (h1 : g ≠ p) (h2 : g ≠ q) : Ua g u w' := (t.block g h.lt h1 h2).trans h
theorem Da.two {p q : Nat} {w' : World} (h : Da g u w) (t : Two p q w w') (h1 : g ≠ p) (h2 : g ≠ q) : Da g u w' := (t.block g h.lt h1 h2).trans h
theorem Ua.below {w' : World} (h : Ua g u w) (t : Below w.heap.size w w') : Ua g u w' := (t.block g h.lt).trans h
theorem Da.below {w' : World} (h : Da g u w) (t : Below w.heap.size w w') : Da g u w' := (t.block g h.lt).trans h
theorem Ua.alloc (h : Ua g u w) (o : Obj) : Ua g u (w.alloc o) := (Below.heap_alloc w o g h.lt).trans h
theorem Da.alloc (h : Da g u w) (o : Obj) : Da g u (w.alloc o) := (Below.heap_alloc w o g h.lt).trans h

theorem off_any (h : Ua g u w) : Calls Try.prog 28 #[.pointer (some ⟨g, 0, none⟩)] w fun e w' => e = .returned (.bool u.off) ∧ w' = w := by
  obtain ⟨c0, c1, c2, hf⟩ := h.cells
  have HO : Hid (u.off = decide (255 < u.s)) := rfl
  generalize u.off = o at *
  by_cases h1 : 255 < u.s
  · have hd : decide ((255 : Int) < (u.s : Int)) = true := by simp; omega
    go_enter Try.func28, Try.ntmps28
    go_wp2
    go_ret
    exact ⟨ret_bool (by rw [HO.out]; simp [h1]), rfl⟩
  · have hd : decide ((255 : Int) < (u.s : Int)) = false := by simp; omega
    go_enter Try.func28, Try.ntmps28
    go_wp2
    go_ret
    exact ⟨ret_bool (by rw [HO.out]; simp [h1]), rfl⟩
theorem great_any (h : Ua g u w) : Calls Try.prog 29 #[.pointer (some ⟨g, 0, none⟩)] w fun e w' => e = .returned (.int .i64 u.great) ∧ ∃ n, w' = w.drewN n := by
  obtain ⟨c0, c1, c2, hf⟩ := h.cells
  have HO : Hid ((u.great : Int) = max (u.s : Int) (u.r : Int)) := by show _ = _; unfold Un.great; omega
  generalize u.great = o at *
  go_enter Try.func29, Try.ntmps29
  go_wp2_with fail
  go_quiet (fail)
  go_wp2
  all_goals
    go_ret
    exact ⟨ret_int (by rw [HO.out]; omega), _, rfl⟩
theorem counts_any (h : Ua g u w) : Calls Try.prog 10 #[.pointer (some ⟨g, 0, none⟩)] w fun e w' => e = .returned (.tuple #[.int .i64 u.s, .int .i64 u.r]) ∧ ∃ n, w' = w.drewN n := by
  obtain ⟨c0, c1, c2, hf⟩ := h.cells
  go_enter Try.func10, Try.ntmps10
  go_wp2_with fail
  go_quiet (fail)
  go_wp2
  go_ret2
  exact ⟨rfl, _, rfl⟩
theorem state_any (h : Ua g u w) : Calls Try.prog 11 #[.pointer (some ⟨g, 0, none⟩)] w fun e w' => e = .returned (.int .i64 u.state) ∧ ∃ n, w' = w.drewN n := by
  have HO := off_any h
  have HG := great_any h
  have HS : Hid (u.state = if 255 < u.s then 2 else if 127 < u.s ∨ 127 < u.r then 1 else 0) := rfl
  have hg : u.great = max u.s u.r := rfl
  generalize u.state = S at *
  generalize hG : u.great = G at *
  unfold Un.off at HO
  by_cases h1 : 255 < u.s
  · have hd : decide (255 < u.s) = true := by simpa using h1
    rw [hd] at HO
    clear hd
    go_enter Try.func11, Try.ntmps11
    go_wp2_with (go_at_call 28; refine HO.mono ?_; rintro e w' ⟨rfl, rfl⟩)
    go_ret
    exact ⟨ret_int (by rw [HS.out, if_pos h1]), 0, rfl⟩
  · have hd : decide (255 < u.s) = false := by simpa using h1
    rw [hd] at HO
    clear hd
    have HR : Hid (¬ 255 < u.s) := h1
    by_cases h2 : 127 < G
    · have hd2 : decide ((127 : Int) < (G : Int)) = true := by simp; omega
      go_enter Try.func11, Try.ntmps11
      go_wp2_with (first | (go_at_call 28; refine HO.mono ?_; rintro e w' ⟨rfl, rfl⟩) | (go_at_call 29; refine HG.mono ?_; rintro e w' ⟨rfl, n, rfl⟩))
      go_ret
      exact ⟨ret_int (by rw [HS.out, if_neg HR.out, if_pos (by omega)]), _, rfl⟩
    · have hd2 : decide ((127 : Int) < (G : Int)) = false := by simp; omega
      go_enter Try.func11, Try.ntmps11
      go_wp2_with (first | (go_at_call 28; refine HO.mono ?_; rintro e w' ⟨rfl, rfl⟩) | (go_at_call 29; refine HG.mono ?_; rintro e w' ⟨rfl, n, rfl⟩))
      go_ret
      exact ⟨ret_int (by rw [HS.out, if_neg HR.out, if_neg (by omega)]), _, rfl⟩
theorem warns_any (h : Ua g u w) : Calls Try.prog 13 #[.pointer (some ⟨g, 0, none⟩)] w fun e w' => e = .returned (.bool u.warns) ∧ ∃ n, w' = w.drewN n := by
  have HG := great_any h
  have HS : Hid (u.warns = (decide (95 < u.s) || decide (95 < u.r))) := rfl
  have hg : u.great = max u.s u.r := rfl
  generalize u.warns = S at *
  generalize hG : u.great = G at *
  by_cases h2 : 95 < G
  · have hd2 : decide ((95 : Int) < (G : Int)) = true := by simp; omega
    go_enter Try.func13, Try.ntmps13
    go_wp2_with (first | (go_at_call 29; refine HG.mono ?_; rintro e w' ⟨rfl, n, rfl⟩))
    go_ret
    exact ⟨ret_bool (by rw [HS.out, Bool.eq_iff_iff, Bool.or_eq_true]; simp only [decide_eq_true_eq]; omega), _, rfl⟩
  · have hd2 : decide ((95 : Int) < (G : Int)) = false := by simp; omega
    go_enter Try.func13, Try.ntmps13
    go_wp2_with (first | (go_at_call 29; refine HG.mono ?_; rintro e w' ⟨rfl, n, rfl⟩))
    go_ret
    exact ⟨ret_bool (by rw [HS.out, Bool.eq_iff_iff, Bool.or_eq_true]; simp only [decide_eq_true_eq]; omega), _, rfl⟩
theorem dstate_any (h : Da g u w) : Calls Try.prog 12 #[.pointer (some ⟨g, 0, none⟩)] w fun e w' => e = .returned (.int .i64 u.state) ∧ w' = w := by
  obtain ⟨c0, c1, c2, c3, hf⟩ := h.cells
  have HS : Hid (u.state = if 255 < u.s then 2 else if 127 < u.s ∨ 127 < u.r then 1 else 0) := rfl
  have HR : Hid (u.off = decide (255 < u.s)) := rfl
  generalize u.state = S at *
  generalize u.off = o at *
  cases o
  · have h1 : ¬ 255 < u.s := by simpa using HR.out
    have HR : Hid (¬ 255 < u.s) := h1
    clear h1
    by_cases h2 : 127 < u.s
    · have hd : decide ((127 : Int) < (u.s : Int)) = true := by simp; omega
      go_enter Try.func12, Try.ntmps12
      go_wp2
      go_ret
      exact ⟨ret_int (by rw [HS.out, if_neg HR.out, if_pos (.inl h2)]), rfl⟩
    · have hd : decide ((127 : Int) < (u.s : Int)) = false := by simp; omega
      by_cases h3 : 127 < u.r
      · have hd : decide ((127 : Int) < (u.r : Int)) = true := by simp; omega
        go_enter Try.func12, Try.ntmps12
        go_wp2
        go_ret
        exact ⟨ret_int (by rw [HS.out, if_neg HR.out, if_pos (.inr h3)]), rfl⟩
      · have hd : decide ((127 : Int) < (u.r : Int)) = false := by simp; omega
        go_enter Try.func12, Try.ntmps12
        go_wp2
        go_ret
        exact ⟨ret_int (by rw [HS.out, if_neg HR.out, if_neg (by omega)]), rfl⟩
  · have h1 : 255 < u.s := by simpa using HR.out
    go_enter Try.func12, Try.ntmps12
    go_wp2
    go_ret
    exact ⟨ret_int (by rw [HS.out, if_pos h1]), rfl⟩
theorem dwarns_any (h : Da g u w) : Calls Try.prog 14 #[.pointer (some ⟨g, 0, none⟩)] w fun e w' => e = .returned (.bool u.warns) ∧ w' = w := by
  obtain ⟨c0, c1, c2, c3, hf⟩ := h.cells
  have HS : Hid (u.warns = (decide (95 < u.s) || decide (95 < u.r))) := rfl
  have HR : Hid (u.off = decide (255 < u.s)) := rfl
  generalize u.warns = S at *
  generalize u.off = o at *
  cases o
  · by_cases h2 : 95 < u.s
    · have hd : decide ((95 : Int) < (u.s : Int)) = true := by simp; omega
      go_enter Try.func14, Try.ntmps14
      go_wp2
      go_ret
      exact ⟨ret_bool (by rw [HS.out]; simp; omega), rfl⟩
    · have hd : decide ((95 : Int) < (u.s : Int)) = false := by simp; omega
      by_cases h3 : 95 < u.r
      · have hd : decide ((95 : Int) < (u.r : Int)) = true := by simp; omega
        go_enter Try.func14, Try.ntmps14
        go_wp2
        go_ret
        exact ⟨ret_bool (by rw [HS.out]; simp; omega), rfl⟩
      · have hd : decide ((95 : Int) < (u.r : Int)) = false := by simp; omega
        go_enter Try.func14, Try.ntmps14
        go_wp2
        go_ret
        exact ⟨ret_bool (by rw [HS.out]; simp; omega), rfl⟩
  · have h1 : 255 < u.s := by simpa using HR.out
    go_enter Try.func14, Try.ntmps14
    go_wp2
    go_ret
    exact ⟨ret_bool (by rw [HS.out]; simp; omega), rfl⟩
end
end Go.Proofs.Ytajoganfpppimaa
