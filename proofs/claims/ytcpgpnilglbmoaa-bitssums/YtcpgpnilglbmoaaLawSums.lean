/- The law BitsSums returns true whatever bits and bytes come in. -/
import Derived.Test.YtcpgpnilglbmoaaCopy
namespace Go.Proofs.Ytcpgpnilglbmoaa
open Go.RowKit Go.Proofs.Bits
set_option linter.unusedVariables false

set_option maxHeartbeats 1000000 in
theorem sums_walk (s : ByteArray) (v : Value) (l : List UInt8) (w : World) (hm : l.length ≤ 140737488355328) (hB : Bytes w v l) :
    Calls Try.prog 5 #[.string s, v] w fun e w' => e = .returned (.bool true) ∧ Below w.heap.size w w' := by
  have hm63 : l.length ≤ maxLen := by unfold maxLen; omega
  go_enter Try.func5, Try.ntmps5
  go_wp2_with fail
  refine (CRC_any s _).mono ?_
  rintro e w1 ⟨rfl, b1⟩
  go_wp2_with fail
  refine (rCRC_any s _).mono ?_
  rintro e w2 ⟨rfl, rfl⟩
  have hB1 := hB.below b1
  have hB2 := hB1.below (((Below.refl _ w2).alloc (Nat.le_refl _) (.cells #[] 5)))
  have hown := own_empty w2
  go_wp2_with (at_builtin; refine append_bytes rfl _ _ rfl w2.heap.size _ [] rfl hown v l rfl hB2 (by simp; omega) (by simp) ?_)
  intro v' w3 hown' hg
  have b3 : Below w2.heap.size w2 w3 := ((Below.refl _ w2).alloc (Nat.le_refl _) (.cells #[] 5)).grown hg (by simp) (by simp [Value.ownBlock])
  have hB3 := hB1.below b3
  have hB4 := bytes_of_own hown'
  go_wp2_with fail
  refine (CRC16_bytes v' l _ hm63 hB4).mono ?_
  rintro e w4 ⟨rfl, rfl⟩
  go_wp2_with fail
  refine (rCRC16_bytes v l _ hm63 hB3).mono ?_
  rintro e w5 ⟨rfl, rfl⟩
  go_wp2_with fail
  refine (lives_any _).mono ?_
  rintro e w6 ⟨rfl, b6⟩
  go_wp2
  go_ret
  have s1 := b1.size
  have s3 := b3.size
  exact ⟨rfl, (b1.trans (b3.mono (by omega))).trans (b6.mono (by omega))⟩
end Go.Proofs.Ytcpgpnilglbmoaa
