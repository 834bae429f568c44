/- The small living call of every statement answers true. -/
import Derived.Test.YtffajokpfobalaaStuff
import Derived.Test.YtffajokpfobalaaSums
namespace Go.Proofs.Ytffajokpfobalaa
open Go.RowKit Go.Proofs.Bits
set_option linter.unusedVariables false
set_option maxRecDepth 1000000

theorem live_stuff : (⟨(stuffV [48, 48, 48, 48, 48]).toArray⟩ : ByteArray) = ⟨#[48, 48, 48, 48, 48, 49]⟩ := by decide +kernel
theorem live_err : err [48, 48, 48, 48, 48] = 0 := by decide +kernel
theorem live_crc : crcV [49] = 17817 := by decide +kernel
theorem live_err1 : err [49] = 0 := by decide +kernel
theorem live_err2 : err [48, 49] = 0 := by decide +kernel
theorem live_err3 : err [50] = 8 := by decide +kernel

theorem live1 (w : World) : Calls Try.prog 15 #[.string ⟨#[48, 48, 48, 48, 48]⟩] w fun e w' => e = .returned (.tuple #[.string ⟨#[48, 48, 48, 48, 48, 49]⟩, .int .i64 0]) ∧ Below w.heap.size w w' := by
  have h := Stuff_any ⟨#[48, 48, 48, 48, 48]⟩ w
  rw [show (⟨#[48, 48, 48, 48, 48]⟩ : ByteArray).data.toList = [48, 48, 48, 48, 48] from rfl, live_stuff, live_err] at h
  exact h
theorem live2 (w : World) : Calls Try.prog 28 #[.string ⟨#[49]⟩] w fun e w' => e = .returned (.tuple #[.int .u16 17817, .int .i64 0]) ∧ Below w.heap.size w w' := by
  have h := CRC_any ⟨#[49]⟩ w
  rw [show (⟨#[49]⟩ : ByteArray).data.toList = [49] from rfl, live_crc, live_err1] at h
  exact h
end Go.Proofs.Ytffajokpfobalaa
