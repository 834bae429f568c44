/- A node in memory, and what looks at it: numbers, commands, what is its own. -/
import Derived.Test.YtceomfefffngaaaNkM
import Derived.Test.YtceomfefffngaaaTwX
namespace Go.Proofs.Ytceomfefffngaaa.Nk
open Go.RowKit
set_option linter.unusedVariables false
set_option maxRecDepth 1000000
set_option linter.unusedSimpArgs false
def Nd.arr (s : Nd) : Array Value := #[.int .i64 s.id, .int .i64 s.next, .int .i64 s.st, .int .i64 s.boots, .int .i64 s.talks]
def Na (g : Nat) (s : Nd) (w : World) : Prop := Bc 91 g s.arr w
section
variable {g : Nat} {s : Nd} {w : World}
theorem Na.cells (h : Na g s w) : w.cell? ⟨g, 0, none⟩ = some (.int .i64 s.id) ∧ w.cell? ⟨g, 1, none⟩ = some (.int .i64 s.next) ∧ w.cell? ⟨g, 2, none⟩ = some (.int .i64 s.st) ∧ w.cell? ⟨g, 3, none⟩ = some (.int .i64 s.boots) ∧ w.cell? ⟨g, 4, none⟩ = some (.int .i64 s.talks) ∧ ∀ k, w.frozen? ⟨g, k, none⟩ = false :=
  ⟨Bc.cell h 0, Bc.cell h 1, Bc.cell h 2, Bc.cell h 3, Bc.cell h 4, fun k => Bc.frozen h k⟩
theorem Na.mk {a b c d e : Int} {S : Nd} (h : Bc 91 g #[.int .i64 a, .int .i64 b, .int .i64 c, .int .i64 d, .int .i64 e] w) (h1 : S.id = a) (h2 : S.next = b) (h3 : S.st = c) (h4 : S.boots = d) (h5 : S.talks = e) : Na g S w := by
  unfold Na Nd.arr
  rw [h1, h2, h3, h4, h5]
  exact h
theorem Na.new (w : World) (n : Int) : Na w.heap.size ⟨n, n, 0, 0, 0⟩ (w.alloc (.cells #[.int .i64 n, .int .i64 n, .int .i64 0, .int .i64 0, .int .i64 0] 91)) :=
  heap_alloc_new w (.cells #[.int .i64 n, .int .i64 n, .int .i64 0, .int .i64 0, .int .i64 0] 91)
end
theorem isN_any (w : World) (n : Int) : Calls Try.prog 35 #[.int .i64 n] w fun e w' => e = .returned (.bool (isN n)) ∧ w' = w := by
  by_cases h : 0 ≤ n
  · have d1 : decide (0 ≤ n) = true := by simp [h]
    by_cases h2 : n ≤ 127
    · have d2 : decide (n ≤ 127) = true := by simp [h2]
      have HO : Hid (isN n = true) := by show _ = _; simp [isN, d1, d2]
      clear h h2
      go_enter Try.func35, Try.ntmps35
      go_wp2
      go_ret
      exact ⟨ret_bool (by rw [HO.out]), rfl⟩
    · have d2 : decide (n ≤ 127) = false := by simp [h2]
      have HO : Hid (isN n = false) := by show _ = _; simp [isN, d1, d2]
      clear h h2
      go_enter Try.func35, Try.ntmps35
      go_wp2
      go_ret
      exact ⟨ret_bool (by rw [HO.out]), rfl⟩
  · have d1 : decide (0 ≤ n) = false := by simp [h]
    have HO : Hid (isN n = false) := by show _ = _; simp [isN, d1]
    clear h
    go_enter Try.func35, Try.ntmps35
    go_wp2
    go_ret
    exact ⟨ret_bool (by rw [HO.out]), rfl⟩
theorem target_yes (w : World) (c : Int) (h : isC c = true) : Calls Try.prog 36 #[.int .i64 c] w fun e w' => e = .returned (.tuple #[.int .i64 (tgC c), .bool true]) ∧ w' = w := by
  rcases isC_cases h with rfl | rfl | rfl | rfl | rfl
  all_goals
    clear h
    go_enter Try.func36, Try.ntmps36
    go_wp2
    go_ret2
    exact ⟨rfl, rfl⟩
theorem target_no (w : World) (c : Int) (h : isC c = false) : Calls Try.prog 36 #[.int .i64 c] w fun e w' => e = .returned (.tuple #[.int .i64 0, .bool false]) ∧ w' = w := by
  obtain ⟨h1, h2, h3, h4, h5⟩ := isC_not h
  have d1 : (c == 1) = false := by simp [h1]
  have d2 : (c == 2) = false := by simp [h2]
  have d3 : (c == 128) = false := by simp [h3]
  have d4 : (c == 129) = false := by simp [h4]
  have d5 : (c == 130) = false := by simp [h5]
  clear h h1 h2 h3 h4 h5
  go_enter Try.func36, Try.ntmps36
  go_wp2
  go_ret2
  exact ⟨rfl, rfl⟩
theorem hears_any {g : Nat} {s : Nd} {w : World} (h : Na g s w) (y : Int) : Calls Try.prog 37 #[.pointer (some ⟨g, 0, none⟩), .int .i64 y] w fun e w' => e = .returned (.bool (s.hears y)) ∧ w' = w := by
  obtain ⟨c0, c1, c2, c3, c4, hf⟩ := h.cells
  clear h
  have HO : Hid (s.hears y = (s.st != 0 && (y == 0 || y == s.id))) := rfl
  generalize s.hears y = o at *
  by_cases h : s.st = 0
  · rw [h] at c2 HO
    clear h
    go_enter Try.func37, Try.ntmps37
    go_wp2
    go_ret
    exact ⟨ret_bool (by rw [HO.out]; rfl), rfl⟩
  · have d1 : (s.st == 0) = false := by simp [h]
    have d1' : (s.st != 0) = true := by simp [h]
    rw [d1'] at HO
    clear h
    by_cases h2 : y = 0
    · subst h2
      go_enter Try.func37, Try.ntmps37
      go_wp2
      go_ret
      exact ⟨ret_bool (by rw [HO.out]; rfl), rfl⟩
    · have d2 : (y == 0) = false := by simp [h2]
      rw [d2] at HO
      clear h2
      go_enter Try.func37, Try.ntmps37
      go_wp2
      go_ret
      exact ⟨ret_bool (by rw [HO.out]; rfl), rfl⟩
theorem target_any (w : World) (c : Int) : Calls Try.prog 36 #[.int .i64 c] w fun e w' => e = .returned (.tuple #[.int .i64 (if isC c then tgC c else 0), .bool (isC c)]) ∧ w' = w := by
  cases h : isC c
  · exact target_no w c h
  · exact target_yes w c h
end Go.Proofs.Ytceomfefffngaaa.Nk
