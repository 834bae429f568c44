/- Contracts: what looks at a text first tells its error. -/
import Derived.Test.YtfddoindcmdooaaMath
import Derived.Test.YtfddoindcmdooaaProg
import Derived.WalkKit
import Derived.Deep.QuietTactic
import Derived.BigQuiet
namespace Go.Proofs.Ytfddoindcmdooaa
open Go.RowKit Go.Proofs.Bits

theorem below_iter (w : World) (s : ByteArray) (pos : Nat) : Below w.heap.size w (w.iter s pos) := (Below.refl _ _).alloc (Nat.le_refl _) _
theorem ret_int {k : IntKind} {a b : Int} (h : a = b) : Ending.returned (.int k a) = .returned (.int k b) := by rw [h]
theorem ret_bool {a b : Bool} (h : a = b) : Ending.returned (.bool a) = .returned (.bool b) := by rw [h]
theorem decode_no (s : ByteArray) (pos : Nat) (h : pos < s.size) (hb : isBit s[pos] = false) : (Utf8.decode s pos).1 ≠ 48 ∧ (Utf8.decode s pos).1 ≠ 49 := by
  have hn := isBit_not hb
  by_cases ha : (s[pos]'h).toNat < 128
  · rw [decode_ascii s pos h ha]; exact hn
  · have := (decode_high s pos h (by omega)).1
    omega

end Go.Proofs.Ytfddoindcmdooaa
