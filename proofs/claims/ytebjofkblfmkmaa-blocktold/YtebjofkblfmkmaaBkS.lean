/- Contracts: the sums of bytes. -/
import Derived.Test.YtebjofkblfmkmaaMath
import Derived.Test.YtebjofkblfmkmaaTyE
import Derived.Laws.BitsAllLaws
namespace Go.Proofs.Ytebjofkblfmkmaa
open Go.RowKit Go.Proofs.Bits
set_option linter.unusedVariables false
set_option maxRecDepth 1000000
theorem val_intN {k : IntKind} {a b : Int} (h : a = b) : Value.int k a = .int k b := by rw [h]
theorem byte16_end (x : Nat) (c : UInt8) (j : Nat) (h : j ≤ 8) (h8 : ¬ j < 8) : ((turns16 j (x ^^^ (c.toNat * 256)) : Nat) : Int) = ((byte16 x c : Nat) : Int) := by
  obtain rfl : j = 8 := by omega
  rfl
theorem n16_in (x : Nat) (c : UInt8) (hx : x < 65536) : bits BinOp.xor IntKind.u16 (x : Int) ((c.toNat : Int) * 256) = ((x ^^^ (c.toNat * 256) : Nat) : Int) := by
  have := c.toNat_lt
  rw [show ((c.toNat : Int) * 256) = ((c.toNat * 256 : Nat) : Int) from by omega, u16_xor_nat _ _ (by omega) (by omega)]
theorem n32_in (x : Nat) (c : UInt8) (hx : x < 65536) : bits BinOp.xor IntKind.u32 (x : Int) ((c.toNat : Int) * 256) = ((x ^^^ (c.toNat * 256) : Nat) : Int) := by
  have := c.toNat_lt
  rw [show ((c.toNat : Int) * 256) = ((c.toNat * 256 : Nat) : Int) from by omega, u32_xor_nat _ _ (by omega) (by omega)]
theorem n16_wrap (y : Nat) : IntKind.u16.wrap ((y : Int) * 2) = ((y * 2 % 65536 : Nat) : Int) := by
  rw [IntKind.wrap_u16]; omega
theorem n16_yes (y : Nat) (h : ((y : Int) / 32768 == 1) = true) : bits BinOp.xor IntKind.u16 (IntKind.u16.wrap ((y : Int) * 2)) 4129 = ((turn16 y : Nat) : Int) := by
  simp at h
  rw [n16_wrap, show (4129 : Int) = ((4129 : Nat) : Int) from rfl, u16_xor_nat _ _ (by omega) (by omega), turn16, if_pos (by omega)]
theorem n16_no (y : Nat) (h : ((y : Int) / 32768 == 1) = false) : IntKind.u16.wrap ((y : Int) * 2) = ((turn16 y : Nat) : Int) := by
  simp at h
  rw [n16_wrap, turn16, if_neg (by omega)]
theorem n32_out (y : Nat) (hy : y < 65536) : bits BinOp.and IntKind.u32 ((y : Int) / 32768) 1 = ((y / 32768 : Nat) : Int) := by
  rw [show ((y : Int) / 32768) = ((y / 32768 : Nat) : Int) from by omega, show (1 : Int) = ((1 : Nat) : Int) from rfl, u32_and_nat _ _ (by omega) (by omega), nat_mask1]
  omega
theorem n32_and (y : Nat) (hy : y < 65536) : bits BinOp.and IntKind.u32 ((y : Int) * 2) 65535 = ((y * 2 % 65536 : Nat) : Int) := by
  rw [show ((y : Int) * 2) = ((y * 2 : Nat) : Int) from by omega, show (65535 : Int) = ((65535 : Nat) : Int) from rfl, u32_and_nat _ _ (by omega) (by omega), nat_mask16]
theorem n32_yes (y : Nat) (hy : y < 65536) (h : (bits BinOp.and IntKind.u32 ((y : Int) / 32768) 1 == 1) = true) : bits BinOp.xor IntKind.u32 (bits BinOp.and IntKind.u32 ((y : Int) * 2) 65535) 4129 = ((turn16 y : Nat) : Int) := by
  rw [n32_out y hy] at h
  simp at h
  rw [n32_and y hy, show (4129 : Int) = ((4129 : Nat) : Int) from rfl, u32_xor_nat _ _ (by omega) (by omega), turn16, if_pos (by omega)]
theorem n32_no (y : Nat) (hy : y < 65536) (h : (bits BinOp.and IntKind.u32 ((y : Int) / 32768) 1 == 1) = false) : bits BinOp.and IntKind.u32 ((y : Int) * 2) 65535 = ((turn16 y : Nat) : Int) := by
  rw [n32_out y hy] at h
  simp at h
  rw [n32_and y hy, turn16, if_neg (by omega)]

set_option maxHeartbeats 400000 in
theorem CRC16_some (b off cap : Nat) (l : List UInt8) (w : World) (hm : l.length ≤ maxLen) (hc : ∀ k (h : k < l.length), w.cell? ⟨b, off + k, none⟩ = some (.int .u8 l[k].toNat)) :
    Calls Try.prog 45 #[.slice (some ⟨b, off, none⟩) l.length cap] w fun e w' => e = .returned (.int .u16 (crc16 l)) ∧ w' = w := by
  unfold maxLen at hm
  go_enter Try.func45, Try.ntmps45
  go_wp2
  go_loop [3, 9] (fun n i => ∃ (k : Nat), k ≤ l.length ∧ i = .int .i64 k ∧ n = .int .u16 (crc16 (l.take k))) (fun _ i => l.length - (intOf i).toNat)
  case atStart => exact ⟨0, Nat.zero_le _, rfl, rfl⟩
  case round =>
    obtain ⟨k, hle, rfl, rfl⟩ := hrel
    have hx := crc16_lt (l.take k)
    by_cases hp : k < l.length
    · have HS : Hid (crc16 (l.take (k + 1)) = byte16 (crc16 (l.take k)) l[k]) := by
        show crc16 _ = _
        rw [ltake_snoc l k hp, crc16_snoc]
      have hcell := hc k hp
      have hbb := l[k].toNat_lt
      generalize crc16 (l.take k) = x at hx HS
      go_wp2
      go_loop [3, 18] (fun n i => ∃ (j : Nat), j ≤ 8 ∧ i = .int .i64 j ∧ n = .int .u16 (turns16 j (x ^^^ (l[k].toNat * 256)))) (fun _ i => 8 - (intOf i).toNat)
      case atStart => exact ⟨0, by omega, rfl, val_intN (n16_in x _ hx)⟩
      case round =>
        obtain ⟨j, hj, rfl, rfl⟩ := hrel
        have hy := turns16_lt j _ (xor16_lt x l[k] hx)
        by_cases hj8 : j < 8
        · have HT : Hid (turns16 (j + 1) (x ^^^ (l[k].toNat * 256)) = turn16 (turns16 j (x ^^^ (l[k].toNat * 256)))) := rfl
          generalize turns16 j (x ^^^ (l[k].toNat * 256)) = y at hy HT
          go_wp2
          all_goals
            go_round
            case rel => exact ⟨j + 1, by omega, by go_num, val_intN (by rw [HT.out]; first | exact n16_yes _ ‹_› | exact n16_no _ ‹_›)⟩
            case measure => simp [intOf]; omega
        · go_wp2
          go_round
          case rel => exact ⟨k + 1, by omega, by go_num, val_intN (by rw [HS.out]; exact byte16_end x _ j hj hj8)⟩
          case measure => simp [intOf]; omega
    · go_wp2
      go_ret
      exact ⟨ret_int (by rw [List.take_of_length_le (by omega)]), rfl⟩

set_option maxHeartbeats 400000 in
theorem rCRC16_some (b off cap : Nat) (l : List UInt8) (w : World) (hm : l.length ≤ maxLen) (hc : ∀ k (h : k < l.length), w.cell? ⟨b, off + k, none⟩ = some (.int .u8 l[k].toNat)) :
    Calls Try.prog 32 #[.slice (some ⟨b, off, none⟩) l.length cap] w fun e w' => e = .returned (.int .u16 (crc16 l)) ∧ w' = w := by
  unfold maxLen at hm
  go_enter Try.func32, Try.ntmps32
  go_wp2
  go_loop [3, 4] (fun n i => ∃ (k : Nat), k ≤ l.length ∧ i = .int .i64 k ∧ n = .int .u32 (crc16 (l.take k))) (fun _ i => l.length - (intOf i).toNat)
  case atStart => exact ⟨0, Nat.zero_le _, rfl, rfl⟩
  case round =>
    obtain ⟨k, hle, rfl, rfl⟩ := hrel
    have hx := crc16_lt (l.take k)
    by_cases hp : k < l.length
    · have HS : Hid (crc16 (l.take (k + 1)) = byte16 (crc16 (l.take k)) l[k]) := by
        show crc16 _ = _
        rw [ltake_snoc l k hp, crc16_snoc]
      have hcell := hc k hp
      have hbb := l[k].toNat_lt
      generalize crc16 (l.take k) = x at hx HS
      go_wp2
      go_loop [3, 5] (fun n i => ∃ (j : Nat), j ≤ 8 ∧ i = .int .i64 j ∧ n = .int .u32 (turns16 j (x ^^^ (l[k].toNat * 256)))) (fun _ i => 8 - (intOf i).toNat)
      case atStart => exact ⟨0, by omega, rfl, val_intN (n32_in x _ hx)⟩
      case round =>
        obtain ⟨j, hj, rfl, rfl⟩ := hrel
        have hy := turns16_lt j _ (xor16_lt x l[k] hx)
        by_cases hj8 : j < 8
        · have HT : Hid (turns16 (j + 1) (x ^^^ (l[k].toNat * 256)) = turn16 (turns16 j (x ^^^ (l[k].toNat * 256)))) := rfl
          generalize turns16 j (x ^^^ (l[k].toNat * 256)) = y at hy HT
          go_wp2
          all_goals
            go_round
            case rel => exact ⟨j + 1, by omega, by go_num, val_intN (by rw [HT.out]; first | exact n32_yes _ hy ‹_› | exact n32_no _ hy ‹_›)⟩
            case measure => simp [intOf]; omega
        · go_wp2
          go_round
          case rel => exact ⟨k + 1, by omega, by go_num, val_intN (by rw [HS.out]; exact byte16_end x _ j hj hj8)⟩
          case measure => simp [intOf]; omega
    · go_wp2
      go_ret
      exact ⟨ret_int (by rw [List.take_of_length_le (by omega)]), rfl⟩

/-- No byte: whatever the address. -/
theorem CRC16_none (a : Option Addr) (cap : Nat) (w : World) :
    Calls Try.prog 45 #[.slice a 0 cap] w fun e w' => e = .returned (.int .u16 0) ∧ w' = w := by
  go_enter Try.func45, Try.ntmps45
  go_wp2
  go_loop [3, 9] (fun n i => i = .int .i64 0 ∧ n = .int .u16 0) (fun _ i => 0)
  case atStart => exact ⟨rfl, rfl⟩
  case round =>
    obtain ⟨rfl, rfl⟩ := hrel
    go_wp2
    go_ret
    exact ⟨rfl, rfl⟩
theorem rCRC16_none (a : Option Addr) (cap : Nat) (w : World) :
    Calls Try.prog 32 #[.slice a 0 cap] w fun e w' => e = .returned (.int .u16 0) ∧ w' = w := by
  go_enter Try.func32, Try.ntmps32
  go_wp2
  go_loop [3, 4] (fun n i => i = .int .i64 0 ∧ n = .int .u32 0) (fun _ i => 0)
  case atStart => exact ⟨rfl, rfl⟩
  case round =>
    obtain ⟨rfl, rfl⟩ := hrel
    go_wp2
    go_ret
    exact ⟨rfl, rfl⟩
theorem CRC16_bytes (v : Value) (l : List UInt8) (w : World) (hm : l.length ≤ maxLen) (h : Bytes w v l) :
    Calls Try.prog 45 #[v] w fun e w' => e = .returned (.int .u16 (crc16 l)) ∧ w' = w := by
  obtain ⟨ao, cap, rfl, h0, hc⟩ := h
  by_cases hl : l = []
  · subst hl; exact CRC16_none _ _ _
  · obtain ⟨b, off, ha, hlt, _⟩ := hc 0 (List.length_pos_iff.2 hl)
    subst ha
    refine CRC16_some b off cap l w hm (fun k hk => ?_)
    obtain ⟨b', off', ha', _, hcell⟩ := hc k hk
    simp at ha'
    obtain ⟨rfl, rfl⟩ := ha'
    exact hcell
theorem rCRC16_bytes (v : Value) (l : List UInt8) (w : World) (hm : l.length ≤ maxLen) (h : Bytes w v l) :
    Calls Try.prog 32 #[v] w fun e w' => e = .returned (.int .u16 (crc16 l)) ∧ w' = w := by
  obtain ⟨ao, cap, rfl, h0, hc⟩ := h
  by_cases hl : l = []
  · subst hl; exact rCRC16_none _ _ _
  · obtain ⟨b, off, ha, hlt, _⟩ := hc 0 (List.length_pos_iff.2 hl)
    subst ha
    refine rCRC16_some b off cap l w hm (fun k hk => ?_)
    obtain ⟨b', off', ha', _, hcell⟩ := hc k hk
    simp at ha'
    obtain ⟨rfl, rfl⟩ := ha'
    exact hcell
end Go.Proofs.Ytebjofkblfmkmaa
