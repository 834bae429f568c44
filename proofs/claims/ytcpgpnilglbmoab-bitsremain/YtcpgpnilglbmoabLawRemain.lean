/- The law BitsRemain returns true whatever bytes come in. -/
import Derived.Test.YtcpgpnilglbmoabCopy
import Derived.Test.YtcpgpnilglbmoabMathC
namespace Go.Proofs.Ytcpgpnilglbmoab
open Go.RowKit Go.Proofs.Bits
set_option linter.unusedVariables false

set_option maxHeartbeats 1000000 in
theorem remain_walk (v : Value) (l : List UInt8) (w : World) (hm : l.length + 2 ≤ 140737488355328) (hB : Bytes w v l) :
    Calls Try.prog 3 #[v] w fun e w' => e = .returned (.bool true) ∧ Below w.heap.size w w' := by
  have hm63 : l.length ≤ maxLen := by unfold maxLen; omega
  have hn := crc16_lt l
  have hB0 := hB.below ((Below.refl _ w).alloc (Nat.le_refl _) (.cells #[] 5))
  have hown := own_empty w
  go_enter Try.func3, Try.ntmps3
  go_wp2_with (at_builtin; refine append_bytes rfl _ _ rfl w.heap.size _ [] rfl hown v l rfl hB0 (by simp; omega) (by simp) ?_)
  intro v1 w1 hown1 hg1
  have b1 : Below w.heap.size w w1 := ((Below.refl _ w).alloc (Nat.le_refl _) (.cells #[] 5)).grown hg1 (by simp) (by simp [Value.ownBlock])
  have hB1 := hB.below b1
  have hB1b := bytes_of_own hown1
  go_wp2_with fail
  refine (CRC16_bytes v1 l _ hm63 hB1b).mono ?_
  rintro e w2 ⟨rfl, rfl⟩
  clear hown hown1 hB0 hB1b hg1
  have hown := own_empty w2
  have hB2 := hB1.below ((Below.refl _ w2).alloc (Nat.le_refl _) (.cells #[] 5))
  go_wp2_with (at_builtin; refine append_bytes rfl _ _ rfl w2.heap.size _ [] rfl hown v l rfl hB2 (by simp; omega) (by simp) ?_)
  intro v3 w3 hown3 hg3
  have b3 : Below w2.heap.size w2 w3 := ((Below.refl _ w2).alloc (Nat.le_refl _) (.cells #[] 5)).grown hg3 (by simp) (by simp [Value.ownBlock])
  obtain ⟨hi, hhi⟩ : ∃ c : UInt8, c.toNat = crc16 l / 256 := ⟨UInt8.ofNat (crc16 l / 256), by simp; omega⟩
  obtain ⟨lo, hlo⟩ : ∃ c : UInt8, c.toNat = crc16 l % 256 := ⟨UInt8.ofNat (crc16 l % 256), by simp⟩
  have HR : Hid (crc16 (l ++ [hi, lo]) = 0) := crc16_remain l hi lo hhi hlo
  have hBn : Bytes (w3.alloc (.cells #[.int .u8 ((crc16 l : Int) / 256), .int .u8 ((crc16 l : Int) % 256)] 5)) (.slice (some ⟨w3.heap.size, 0, none⟩) 2 2) [hi, lo] := by
    refine ⟨some ⟨w3.heap.size, 0, none⟩, 2, rfl, (fun h => by cases h), fun k hk => ⟨w3.heap.size, 0, rfl, by simp, ?_⟩⟩
    have hh : (w3.alloc (.cells #[.int .u8 ((crc16 l : Int) / 256), .int .u8 ((crc16 l : Int) % 256)] 5)).heap[w3.heap.size]? = some (.cells #[.int .u8 ((crc16 l : Int) / 256), .int .u8 ((crc16 l : Int) % 256)] 5 (0, 0)) := by
      show (w3.heap.push _)[w3.heap.size]? = _
      simp
    rw [Lib.cell_of_heap hh]
    match k, hk with
    | 0, _ => simp [hhi]
    | 1, _ => simp [hlo]
    | k + 2, hk => simp at hk; omega
  have hown4 := ownsRow_alloc hown3 (.cells #[.int .u8 ((crc16 l : Int) / 256), .int .u8 ((crc16 l : Int) % 256)] 5)
  have s3 := b3.size
  go_wp2_with (at_builtin; refine append_bytes rfl _ _ rfl w2.heap.size _ l rfl hown4 _ [hi, lo] rfl hBn (by simp; omega) (by simp; omega) ?_)
  intro v5 w5 hown5 hg5
  have b5 : Below w2.heap.size w2 w5 := (b3.alloc (by omega) _).grown hg5 (by simp; omega) (fun k hk => (own_lt hown3 k hk))
  have hB5 : Bytes w5 v5 (l ++ [hi, lo]) := bytes_of_own (by simpa using hown5)
  go_wp2_with fail
  refine (CRC16_bytes v5 _ _ (by unfold maxLen; simp; omega) hB5).mono ?_
  rintro e w6 ⟨rfl, rfl⟩
  rw [HR.out]
  go_wp2_with fail
  refine (lives_any _).mono ?_
  rintro e w6 ⟨rfl, b6⟩
  go_wp2
  go_ret
  have s1 := b1.size
  have s5 := b5.size
  exact ⟨rfl, (b1.trans (b5.mono (by omega))).trans (b6.mono (by omega))⟩
end Go.Proofs.Ytcpgpnilglbmoab
