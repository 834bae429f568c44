/- The small living call of every statement answers true. -/
import Derived.Test.YtcpgpnilglbmoaaStuff
import Derived.Test.YtcpgpnilglbmoaaSums
namespace Go.Proofs.Ytcpgpnilglbmoaa
open Go.RowKit Go.Proofs.Bits
set_option linter.unusedVariables false

theorem live_stuff : (⟨(stuffV [48, 48, 48, 48, 48]).toArray⟩ : ByteArray) = ⟨#[48, 48, 48, 48, 48, 49]⟩ := by decide +kernel
theorem live_err : err [48, 48, 48, 48, 48] = 0 := by decide +kernel
theorem live_crc : crcV [49] = 17817 := by decide +kernel
theorem live_err1 : err [49] = 0 := by decide +kernel
theorem live_err2 : err [48, 49] = 0 := by decide +kernel
theorem live_err3 : err [50] = 8 := by decide +kernel

theorem live1 (w : World) : Calls Try.prog 16 #[.string ⟨#[48, 48, 48, 48, 48]⟩] w fun e w' => e = .returned (.tuple #[.string ⟨#[48, 48, 48, 48, 48, 49]⟩, .int .i64 0]) ∧ Below w.heap.size w w' := by
  have h := Stuff_any ⟨#[48, 48, 48, 48, 48]⟩ w
  rw [show (⟨#[48, 48, 48, 48, 48]⟩ : ByteArray).data.toList = [48, 48, 48, 48, 48] from rfl, live_stuff, live_err] at h
  exact h
theorem live2 (w : World) : Calls Try.prog 20 #[.string ⟨#[49]⟩] w fun e w' => e = .returned (.tuple #[.int .u16 17817, .int .i64 0]) ∧ Below w.heap.size w w' := by
  have h := CRC_any ⟨#[49]⟩ w
  rw [show (⟨#[49]⟩ : ByteArray).data.toList = [49] from rfl, live_crc, live_err1] at h
  exact h
theorem live3 (w : World) : Calls Try.prog 13 #[.string ⟨#[48, 49]⟩] w fun e w' => e = .returned (.bool true) ∧ Below w.heap.size w w' := by
  have h := Valid_any ⟨#[48, 49]⟩ w
  rw [show (⟨#[48, 49]⟩ : ByteArray).data.toList = [48, 49] from rfl, live_err2] at h
  exact h
theorem live4 (w : World) : Calls Try.prog 13 #[.string ⟨#[50]⟩] w fun e w' => e = .returned (.bool false) ∧ Below w.heap.size w w' := by
  have h := Valid_any ⟨#[50]⟩ w
  rw [show (⟨#[50]⟩ : ByteArray).data.toList = [50] from rfl, live_err3] at h
  exact h

set_option maxHeartbeats 1000000 in
theorem lives_any (w : World) :
    Calls Try.prog 15 #[] w fun e w' => e = .returned (.bool true) ∧ Below w.heap.size w w' := by
  go_enter Try.func15, Try.ntmps15
  go_wp2_with fail
  refine (live1 _).mono ?_
  rintro e w1 ⟨rfl, b1⟩
  go_wp2_with fail
  refine (live2 _).mono ?_
  rintro e w2 ⟨rfl, b2⟩
  go_wp2_with fail
  refine (live3 _).mono ?_
  rintro e w3 ⟨rfl, b3⟩
  go_wp2_with fail
  refine (live4 _).mono ?_
  rintro e w4 ⟨rfl, b4⟩
  go_wp2
  go_ret
  have s1 := b1.size
  have s2 := b2.size
  have s3 := b3.size
  exact ⟨rfl, ((b1.trans (b2.mono (by omega))).trans (b3.mono (by omega))).trans (b4.mono (by omega))⟩
end Go.Proofs.Ytcpgpnilglbmoaa
