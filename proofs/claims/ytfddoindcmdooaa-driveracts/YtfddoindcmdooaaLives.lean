/- The small living call of every statement answers true. -/
import Derived.Test.YtfddoindcmdooaaStuff
import Derived.Test.YtfddoindcmdooaaSums
namespace Go.Proofs.Ytfddoindcmdooaa
open Go.RowKit Go.Proofs.Bits
set_option linter.unusedVariables false
set_option maxRecDepth 1000000

theorem live_stuff : (⟨(stuffV [48, 48, 48, 48, 48]).toArray⟩ : ByteArray) = ⟨#[48, 48, 48, 48, 48, 49]⟩ := by decide +kernel
theorem live_err : err [48, 48, 48, 48, 48] = 0 := by decide +kernel
theorem live_crc : crcV [49] = 17817 := by decide +kernel
theorem live_err1 : err [49] = 0 := by decide +kernel
theorem live_err2 : err [48, 49] = 0 := by decide +kernel
theorem live_err3 : err [50] = 8 := by decide +kernel

end Go.Proofs.Ytfddoindcmdooaa
