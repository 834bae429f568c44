/- Command, what may be done in a state (the program's and the document's), the small living call of layer 17. -/
import Derived.Test.YtceomfefffngaaaNkC
namespace Go.Proofs.Ytceomfefffngaaa.Nk
open Go.RowKit
set_option linter.unusedVariables false
set_option maxRecDepth 1000000
set_option linter.unusedSimpArgs false
theorem wrU8 (n : Nat) (h : n < 256) : IntKind.u8.wrap (n : Int) = n := by
  simp only [IntKind.wrap, IntKind.bits, IntKind.signed]
  simp
  omega
theorem cmd_bad (w : World) (c n : Int) (h : (isC c && isN n) = false) : Calls Try.prog 24 #[.int .i64 c, .int .i64 n] w fun e w' => e = .returned (.tuple #[.slice none 0 0, .int .i64 1]) ∧ w' = w := by
  have HN := isN_any w n
  have HC := target_any w c
  cases hc : isC c
  · rw [hc] at HC
    clear h hc
    go_enter Try.func24, Try.ntmps24
    go_wp2_with (first | (go_at_call 36; refine HC.mono ?_; rintro e w' ⟨rfl, rfl⟩) | (go_at_call 35; refine HN.mono ?_; rintro e w' ⟨rfl, rfl⟩))
    go_ret2
    exact ⟨rfl, rfl⟩
  · have hn : isN n = false := by simpa [hc] using h
    rw [hc] at HC
    rw [hn] at HN
    clear h hc hn
    go_enter Try.func24, Try.ntmps24
    go_wp2_with (first | (go_at_call 36; refine HC.mono ?_; rintro e w' ⟨rfl, rfl⟩) | (go_at_call 35; refine HN.mono ?_; rintro e w' ⟨rfl, rfl⟩))
    go_ret2
    exact ⟨rfl, rfl⟩
theorem cmd_ok (w : World) (c n : Nat) (h : isC c = true) (h2 : n ≤ 127) : Calls Try.prog 24 #[.int .i64 c, .int .i64 n] w fun e w' => e = .returned (.tuple #[.slice (some ⟨w.heap.size, 0, none⟩) 2 2, .int .i64 0]) ∧ w' = w.alloc (.cells #[.int .u8 c, .int .u8 n] 5) := by
  have HN := isN_any w n
  have HC := target_any w c
  have hn : isN n = true := by simp [isN]; omega
  have e1 : IntKind.u8.wrap (c : Int) = c := wrU8 c (by rcases isC_cases h with e | e | e | e | e <;> omega)
  have e2 : IntKind.u8.wrap (n : Int) = n := wrU8 n (by omega)
  rw [h] at HC
  rw [hn] at HN
  clear h h2 hn
  go_enter Try.func24, Try.ntmps24
  go_wp2_with (first | (go_at_call 36; refine HC.mono ?_; rintro e w' ⟨rfl, rfl⟩) | (go_at_call 35; refine HN.mono ?_; rintro e w' ⟨rfl, rfl⟩))
  go_ret2
  exact ⟨rfl, rfl⟩
end Go.Proofs.Ytceomfefffngaaa.Nk
