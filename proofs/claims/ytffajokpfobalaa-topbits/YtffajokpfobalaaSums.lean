/- Contracts of the sums. -/
import Derived.Test.YtffajokpfobalaaLook
namespace Go.Proofs.Ytffajokpfobalaa
open Go.RowKit Go.Proofs.Bits
set_option linter.unusedVariables false
set_option maxRecDepth 1000000

theorem num16_ne (x c : Nat) (hx : x < 32768) (hc : c = 48 ∨ c = 49) (h : ((x : Int) / 16384 != (c : Int) - 48) = true) :
    bits BinOp.xor IntKind.u16 (bits BinOp.and IntKind.u16 ((x : Int) * 2) 32767) 17817 = ((crcStep x (c - 48) : Nat) : Int) := by
  rw [show ((x : Int) * 2) = ((x * 2 : Nat) : Int) from by omega, show (32767 : Int) = ((32767 : Nat) : Int) from rfl, u16_and_nat _ _ (by omega) (by omega), nat_mask15,
    show (17817 : Int) = ((17817 : Nat) : Int) from rfl, u16_xor_nat _ _ (by omega) (by omega), crcStep_ne]
  intro e
  simp at h
  omega
theorem num16_eq (x c : Nat) (hx : x < 32768) (hc : c = 48 ∨ c = 49) (h : ((x : Int) / 16384 != (c : Int) - 48) = false) :
    bits BinOp.and IntKind.u16 ((x : Int) * 2) 32767 = ((crcStep x (c - 48) : Nat) : Int) := by
  rw [show ((x : Int) * 2) = ((x * 2 : Nat) : Int) from by omega, show (32767 : Int) = ((32767 : Nat) : Int) from rfl, u16_and_nat _ _ (by omega) (by omega), nat_mask15, crcStep_eq]
  simp at h
  omega
theorem num32_out (x : Nat) (hx : x < 32768) : bits BinOp.and IntKind.u32 ((x : Int) / 16384) 1 = ((x / 16384 : Nat) : Int) := by
  rw [show ((x : Int) / 16384) = ((x / 16384 : Nat) : Int) from by omega, show (1 : Int) = ((1 : Nat) : Int) from rfl, u32_and_nat _ _ (by omega) (by omega), nat_mask1]
  omega
theorem num32_ne (x c : Nat) (hx : x < 32768) (hc : c = 48 ∨ c = 49) (h : (bits BinOp.and IntKind.u32 ((x : Int) / 16384) 1 != (c : Int) - 48) = true) :
    bits BinOp.xor IntKind.u32 (bits BinOp.and IntKind.u32 ((x : Int) * 2) 32767) 17817 = ((crcStep x (c - 48) : Nat) : Int) := by
  rw [num32_out x hx] at h
  rw [show ((x : Int) * 2) = ((x * 2 : Nat) : Int) from by omega, show (32767 : Int) = ((32767 : Nat) : Int) from rfl, u32_and_nat _ _ (by omega) (by omega), nat_mask15,
    show (17817 : Int) = ((17817 : Nat) : Int) from rfl, u32_xor_nat _ _ (by omega) (by omega), crcStep_ne]
  intro e
  simp at h
  omega
theorem num32_eq (x c : Nat) (hx : x < 32768) (hc : c = 48 ∨ c = 49) (h : (bits BinOp.and IntKind.u32 ((x : Int) / 16384) 1 != (c : Int) - 48) = false) :
    bits BinOp.and IntKind.u32 ((x : Int) * 2) 32767 = ((crcStep x (c - 48) : Nat) : Int) := by
  rw [num32_out x hx] at h
  rw [show ((x : Int) * 2) = ((x * 2 : Nat) : Int) from by omega, show (32767 : Int) = ((32767 : Nat) : Int) from rfl, u32_and_nat _ _ (by omega) (by omega), nat_mask15, crcStep_eq]
  simp at h
  omega
theorem ret_two {k : IntKind} {a b : Int} {v : Value} (h : a = b) : Ending.returned (.tuple #[.int k a, v]) = .returned (.tuple #[.int k b, v]) := by rw [h]
theorem val_int {k : IntKind} {a b : Int} (h : a = b) : Value.int k a = .int k b := by rw [h]

set_option maxHeartbeats 400000 in
theorem CRC_any (s : ByteArray) (w : World) :
    Calls Try.prog 28 #[.string s] w fun e w' => e = .returned (.tuple #[.int .u16 (crcV s.data.toList), .int .i64 (err s.data.toList)]) ∧ Below w.heap.size w w' := by
  by_cases h0 : err s.data.toList = 0
  · obtain ⟨hl, hall⟩ := err_zero h0
    have hs : s.size ≤ 65536 := by simpa using hl
    have HF : Hid (crcV s.data.toList = crc s.data.toList) := by show crcV _ = crc _; simp [crcV, h0]
    have H0 : Hid (err s.data.toList = 0) := h0
    clear h0 hl
    go_enter Try.func28, Try.ntmps28
    go_wp2_with (go_at_call 29; refine (look_any s _).mono ?_; rintro e w1 ⟨rfl, hb⟩; rw [H0.out])
    go_loopw [5] (fun n w' => ∃ (pos : Nat), pos ≤ s.size ∧ w' = w1.iter s pos ∧ n = .int .u16 (crc (s.data.toList.take pos))) (fun _ w' => s.size - w'.iterPos w1.heap.size)
    case atStart => exact ⟨0, Nat.zero_le _, rfl, rfl⟩
    case round =>
      obtain ⟨pos, hle, rfl, rfl⟩ := hrel
      by_cases hp : pos < s.size
      · have hbit := all_at hall pos hp
        have HS : Hid (crc (s.data.toList.take (pos + 1)) = crcStep (crc (s.data.toList.take pos)) (s[pos].toNat - 48)) := by
          show crc _ = _
          rw [take_snoc s pos hp, crc_snoc]
        have hx := crc_lt (s.data.toList.take pos)
        have hnx : ∀ ty, (Instr.next (.pointer (some ⟨w1.heap.size, 0, none⟩)) true ty).run Try.prog (w1.iter s pos) = _ := fun ty => run_next_ascii w1 s pos ty hp (by omega)
        generalize crc (s.data.toList.take pos) = x at hx HS
        go_wp2
        all_goals
          go_roundw
          case rel => exact ⟨pos + 1, by omega, rfl, val_int (by rw [HS.out]; first | exact num16_ne _ _ hx hbit ‹_› | exact num16_eq _ _ hx hbit ‹_›)⟩
          case measure => simp; omega
      · have hnx : ∀ ty, (Instr.next (.pointer (some ⟨w1.heap.size, 0, none⟩)) true ty).run Try.prog (w1.iter s pos) = _ := fun ty => run_next_end w1 s pos ty hp
        go_wp2
        go_ret2
        obtain rfl : pos = s.size := by omega
        refine ⟨?_, hb.trans ((below_iter _ _ _).mono hb.size)⟩
        rw [HF.out, H0.out]
        exact ret_two (by rw [take_all])
  · have HF : Hid (crcV s.data.toList = 0) := by show crcV _ = 0; simp [crcV, h0]
    have hn : (err s.data.toList != 0) = true := by simp [h0]
    go_enter Try.func28, Try.ntmps28
    go_wp2_with (go_at_call 29; refine (look_any s _).mono ?_; rintro e w1 ⟨rfl, hb⟩)
    go_ret2
    refine ⟨?_, hb⟩
    rw [HF.out]
    rfl

theorem byte16_end (x : Nat) (c : UInt8) (j : Nat) (h : j ≤ 8) (h8 : ¬ j < 8) : ((turns16 j (x ^^^ (c.toNat * 256)) : Nat) : Int) = ((byte16 x c : Nat) : Int) := by
  obtain rfl : j = 8 := by omega
  rfl
theorem n16_in (x : Nat) (c : UInt8) (hx : x < 65536) : bits BinOp.xor IntKind.u16 (x : Int) ((c.toNat : Int) * 256) = ((x ^^^ (c.toNat * 256) : Nat) : Int) := by
  have := c.toNat_lt
  rw [show ((c.toNat : Int) * 256) = ((c.toNat * 256 : Nat) : Int) from by omega, u16_xor_nat _ _ (by omega) (by omega)]
theorem n32_in (x : Nat) (c : UInt8) (hx : x < 65536) : bits BinOp.xor IntKind.u32 (x : Int) ((c.toNat : Int) * 256) = ((x ^^^ (c.toNat * 256) : Nat) : Int) := by
  have := c.toNat_lt
  rw [show ((c.toNat : Int) * 256) = ((c.toNat * 256 : Nat) : Int) from by omega, u32_xor_nat _ _ (by omega) (by omega)]
theorem n16_wrap (y : Nat) : IntKind.u16.wrap ((y : Int) * 2) = ((y * 2 % 65536 : Nat) : Int) := by
  rw [IntKind.wrap_u16]; omega
theorem n16_yes (y : Nat) (h : ((y : Int) / 32768 == 1) = true) : bits BinOp.xor IntKind.u16 (IntKind.u16.wrap ((y : Int) * 2)) 4129 = ((turn16 y : Nat) : Int) := by
  simp at h
  rw [n16_wrap, show (4129 : Int) = ((4129 : Nat) : Int) from rfl, u16_xor_nat _ _ (by omega) (by omega), turn16, if_pos (by omega)]
theorem n16_no (y : Nat) (h : ((y : Int) / 32768 == 1) = false) : IntKind.u16.wrap ((y : Int) * 2) = ((turn16 y : Nat) : Int) := by
  simp at h
  rw [n16_wrap, turn16, if_neg (by omega)]
theorem n32_out (y : Nat) (hy : y < 65536) : bits BinOp.and IntKind.u32 ((y : Int) / 32768) 1 = ((y / 32768 : Nat) : Int) := by
  rw [show ((y : Int) / 32768) = ((y / 32768 : Nat) : Int) from by omega, show (1 : Int) = ((1 : Nat) : Int) from rfl, u32_and_nat _ _ (by omega) (by omega), nat_mask1]
  omega
theorem n32_and (y : Nat) (hy : y < 65536) : bits BinOp.and IntKind.u32 ((y : Int) * 2) 65535 = ((y * 2 % 65536 : Nat) : Int) := by
  rw [show ((y : Int) * 2) = ((y * 2 : Nat) : Int) from by omega, show (65535 : Int) = ((65535 : Nat) : Int) from rfl, u32_and_nat _ _ (by omega) (by omega), nat_mask16]
theorem n32_yes (y : Nat) (hy : y < 65536) (h : (bits BinOp.and IntKind.u32 ((y : Int) / 32768) 1 == 1) = true) : bits BinOp.xor IntKind.u32 (bits BinOp.and IntKind.u32 ((y : Int) * 2) 65535) 4129 = ((turn16 y : Nat) : Int) := by
  rw [n32_out y hy] at h
  simp at h
  rw [n32_and y hy, show (4129 : Int) = ((4129 : Nat) : Int) from rfl, u32_xor_nat _ _ (by omega) (by omega), turn16, if_pos (by omega)]
theorem n32_no (y : Nat) (hy : y < 65536) (h : (bits BinOp.and IntKind.u32 ((y : Int) / 32768) 1 == 1) = false) : bits BinOp.and IntKind.u32 ((y : Int) * 2) 65535 = ((turn16 y : Nat) : Int) := by
  rw [n32_out y hy] at h
  simp at h
  rw [n32_and y hy, turn16, if_neg (by omega)]

end Go.Proofs.Ytffajokpfobalaa
