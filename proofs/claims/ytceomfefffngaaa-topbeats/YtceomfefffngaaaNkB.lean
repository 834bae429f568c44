/- The program's node: New, State, ID, Boots, SetID, Step, Take; Command, Allows. -/
import Derived.Test.YtceomfefffngaaaNkA
import Derived.Test.YtceomfefffngaaaRwX
namespace Go.Proofs.Ytceomfefffngaaa.Nk
open Go.RowKit
set_option linter.unusedVariables false
set_option maxRecDepth 1000000
set_option linter.unusedSimpArgs false
theorem new_ok (w : World) (n : Int) (h : isN n = true) : Calls Try.prog 22 #[.int .i64 n] w fun e w' => e = .returned (.tuple #[.pointer (some ⟨w.heap.size, 0, none⟩), .int .i64 0]) ∧ Na w.heap.size ⟨n, n, 0, 0, 0⟩ w' ∧ Below w.heap.size w w' := by
  have HN := isN_any w n
  rw [h] at HN
  have H : Hid (Na w.heap.size ⟨n, n, 0, 0, 0⟩ (w.alloc (.cells #[.int .i64 n, .int .i64 n, .int .i64 0, .int .i64 0, .int .i64 0] 91)) ∧ Below w.heap.size w (w.alloc (.cells #[.int .i64 n, .int .i64 n, .int .i64 0, .int .i64 0, .int .i64 0] 91))) := ⟨Na.new w n, (Below.refl _ _).alloc (Nat.le_refl _) _⟩
  clear h
  go_enter Try.func22, Try.ntmps22
  go_wp2_with (go_at_call 35; refine HN.mono ?_; rintro e w' ⟨rfl, rfl⟩)
  go_ret2
  exact ⟨rfl, H.out⟩
theorem new_bad (w : World) (n : Int) (h : isN n = false) : Calls Try.prog 22 #[.int .i64 n] w fun e w' => e = .returned (.tuple #[.pointer none, .int .i64 1]) ∧ w' = w := by
  have HN := isN_any w n
  rw [h] at HN
  clear h
  go_enter Try.func22, Try.ntmps22
  go_wp2_with (go_at_call 35; refine HN.mono ?_; rintro e w' ⟨rfl, rfl⟩)
  go_ret2
  exact ⟨rfl, rfl⟩
section
variable {g : Nat} {s : Nd} {w : World}
theorem state_any (h : Na g s w) : Calls Try.prog 26 #[.pointer (some ⟨g, 0, none⟩)] w fun e w' => e = .returned (.int .i64 s.st) ∧ w' = w := by
  obtain ⟨c0, c1, c2, c3, c4, hf⟩ := h.cells
  clear h
  go_enter Try.func26, Try.ntmps26
  go_wp2
  go_ret
  exact ⟨rfl, rfl⟩
/-- What a step answers. -/
def StA (s : Nd) (B : Nat) (r : Value) (w : World) : Prop := if s.goes then ∃ q, r = .tuple #[.slice (some ⟨q, 0, none⟩) 1 1, .bool true] ∧ B ≤ q ∧ q < w.heap.size ∧ w.cell? ⟨q, 0, none⟩ = some (.int .u8 0) else r = .tuple #[.slice none 0 0, .bool false]
theorem step_any (h : Na g s w) : Calls Try.prog 23 #[.pointer (some ⟨g, 0, none⟩)] w fun e w' => ∃ r, e = .returned r ∧ StA s w.heap.size r w' ∧ Na g s.step w' ∧ Two g g w w' := by
  obtain ⟨c0, c1, c2, c3, c4, hf⟩ := h.cells
  have f2 := hf 2
  have lg := Bc.lt h
  by_cases h0 : s.st = 0
  · rw [h0] at c2
    by_cases h1 : s.id = 0
    · have hg : s.goes = false := by simp [Nd.goes, h0, h1]
      have H : Hid (Na g s.step w) := by show _; simp only [Nd.step, hg]; exact h
      have HS : Hid (StA s w.heap.size (.tuple #[.slice none 0 0, .bool false]) w) := hidOf2 (by simp [StA, hg])
      rw [h1] at c0
      clear h hg h0 h1
      go_enter Try.func23, Try.ntmps23
      go_wp2
      go_ret2
      exact ⟨_, rfl, HS.out, H.out, Two.refl _ _ _⟩
    · have d1 : (s.id == 0) = false := by simp [h1]
      have hg : s.goes = true := by simp [Nd.goes, h0, h1]
      have H : Hid (∀ o, Na g s.step ((w.setCell ⟨g, 2, none⟩ (.int .i64 127)).alloc o)) := fun o => Bc.alloc (Na.mk (Bc.set h 2 _) (by simp [Nd.step, hg]) (by simp [Nd.step, hg]) (by simp [Nd.step, hg]) (by simp [Nd.step, hg]) (by simp [Nd.step, hg])) o
      clear h h0 h1
      go_enter Try.func23, Try.ntmps23
      go_wp2
      go_ret2
      refine ⟨_, rfl, ?_, H.out _, ((Two.refl _ _ _).at0 _ _).alloc _⟩
      unfold StA
      rw [if_pos hg]
      refine ⟨_, rfl, Nat.le_refl _, by simp [World.setCell], ?_⟩
      have es : (w.setCell ⟨g, 2, none⟩ (.int .i64 127)).heap.size = w.heap.size := by simp [World.setCell]
      have e := Lib.cell_of_heap (heap_alloc_new (w.setCell ⟨g, 2, none⟩ (.int .i64 127)) (.cells #[.int .u8 0] 5)) 0
      rw [es] at e
      exact e
  · have d0 : (s.st == 0) = false := by simp [h0]
    have hg : s.goes = false := by simp [Nd.goes, h0]
    have H : Hid (Na g s.step w) := by show _; simp only [Nd.step, hg]; exact h
    have HS : Hid (StA s w.heap.size (.tuple #[.slice none 0 0, .bool false]) w) := hidOf2 (by simp [StA, hg])
    clear h hg h0
    go_enter Try.func23, Try.ntmps23
    go_wp2
    go_ret2
    exact ⟨_, rfl, HS.out, H.out, Two.refl _ _ _⟩
end
end Go.Proofs.Ytceomfefffngaaa.Nk
