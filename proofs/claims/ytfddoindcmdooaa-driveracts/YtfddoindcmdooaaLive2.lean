/- The small living call of every statement of layer 2 answers true. -/
import Derived.Test.YtfddoindcmdooaaEq
namespace Go.Proofs.Ytfddoindcmdooaa
open Go.RowKit Go.Proofs.Bits
set_option linter.unusedVariables false
set_option maxRecDepth 1000000

def f0 : Fr := ⟨291, false, false, 2, [1, 2, 0, 0, 0, 0, 0, 0], by decide, by decide, rfl⟩
theorem live_chk : f0.chk = 0 := by decide +kernel
theorem live_long : (encV f0 true).length = 64 := by decide +kernel
theorem live_dec : frB (decF (encV f0 true)) f0 = true := by decide +kernel
theorem live_n : decN (encV f0 true) = 64 := by decide +kernel
theorem live_e : decE (encV f0 true) = 0 := by decide +kernel
theorem live_decV : decV (encV f0 true) = .tuple #[.agg f0.arr, .int .i64 64, .int .i64 0] := by
  rw [decV, live_n, live_e, (frB_iff _ _).1 live_dec]; rfl
theorem live_check (w : World) : Calls Try.prog 32 #[.agg f0.arr] w fun e w' => e = .returned (.int .i64 0) ∧ Below w.heap.size w w' := by
  have h := fCheck_any f0 w
  rw [live_chk] at h
  exact h
end Go.Proofs.Ytfddoindcmdooaa
