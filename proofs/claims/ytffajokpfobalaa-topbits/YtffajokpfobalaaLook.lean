/- Contracts: what looks at a text first tells its error. -/
import Derived.Test.YtffajokpfobalaaMath
import Derived.Test.YtffajokpfobalaaProg
import Derived.WalkKit
import Derived.Deep.QuietTactic
import Derived.BigQuiet
namespace Go.Proofs.Ytffajokpfobalaa
open Go.RowKit Go.Proofs.Bits

theorem below_iter (w : World) (s : ByteArray) (pos : Nat) : Below w.heap.size w (w.iter s pos) := (Below.refl _ _).alloc (Nat.le_refl _) _
theorem ret_int {k : IntKind} {a b : Int} (h : a = b) : Ending.returned (.int k a) = .returned (.int k b) := by rw [h]
theorem ret_bool {a b : Bool} (h : a = b) : Ending.returned (.bool a) = .returned (.bool b) := by rw [h]
theorem decode_no (s : ByteArray) (pos : Nat) (h : pos < s.size) (hb : isBit s[pos] = false) : (Utf8.decode s pos).1 ≠ 48 ∧ (Utf8.decode s pos).1 ≠ 49 := by
  have hn := isBit_not hb
  by_cases ha : (s[pos]'h).toNat < 128
  · rw [decode_ascii s pos h ha]; exact hn
  · have := (decode_high s pos h (by omega)).1
    omega

set_option maxHeartbeats 400000 in
theorem look_any (s : ByteArray) (w : World) :
    Calls Try.prog 29 #[.string s] w fun e w' => e = .returned (.int .i64 (err s.data.toList)) ∧ Below w.heap.size w w' := by
  by_cases hl : 65536 < s.size
  · go_enter Try.func29, Try.ntmps29
    go_wp2
    go_ret
    exact ⟨by simp [err, hl], Below.refl _ _⟩
  · go_enter Try.func29, Try.ntmps29
    go_wp2
    go_loopw [] (fun w' => ∃ (pos : Nat), pos ≤ s.size ∧ w' = w.iter s pos ∧ (s.data.toList.take pos).all isBit = true) (fun w' => s.size - w'.iterPos w.heap.size)
    case atStart => exact ⟨0, Nat.zero_le _, rfl, by simp⟩
    case round =>
      obtain ⟨pos, hle, rfl, hall⟩ := hrel
      by_cases hp : pos < s.size
      · by_cases hb : isBit s[pos] = true
        · have hb2 := isBit_cases hb
          have hnx : ∀ ty, (Instr.next (.pointer (some ⟨w.heap.size, 0, none⟩)) true ty).run Try.prog (w.iter s pos) = _ := fun ty => run_next_ascii w s pos ty hp (by omega)
          rcases hb2 with h48 | h48
          all_goals
            go_wp2
            go_roundw
            case rel => exact ⟨pos + 1, by omega, rfl, by rw [take_snoc s pos hp]; exact all_snoc _ _ hall hb⟩
            case measure => simp; omega
        · rw [Bool.not_eq_true] at hb
          have hd := decode_no s pos hp hb
          have H : Hid (err s.data.toList = 8) := by
            show err s.data.toList = 8
            simp [err, hl, not_all pos hp hb]
          clear hb hall
          generalize hD : Utf8.decode s pos = D at hd
          have hnx : ∀ ty, (Instr.next (.pointer (some ⟨w.heap.size, 0, none⟩)) true ty).run Try.prog (w.iter s pos) = .ok (.tuple #[.bool true, .int .i64 pos, .int .i32 D.1]) (w.iter s (pos + D.2)) := by
            intro ty
            rw [← hD]
            exact run_next_any w s pos ty hp
          clear hD
          obtain ⟨d, n⟩ := D
          obtain ⟨h48, h49⟩ := hd
          have h48 : ((d : Int) != 48) = true := by simp; omega
          have h49 : ((d : Int) != 49) = true := by simp; omega
          go_wp2
          go_ret
          exact ⟨ret_int H.out.symm, below_iter _ _ _⟩
      · have hnx : ∀ ty, (Instr.next (.pointer (some ⟨w.heap.size, 0, none⟩)) true ty).run Try.prog (w.iter s pos) = _ := fun ty => run_next_end w s pos ty hp
        go_wp2
        go_ret
        obtain rfl : pos = s.size := by omega
        rw [take_all] at hall
        exact ⟨ret_int (by simp [err, hl, hall]), below_iter _ _ _⟩

theorem Valid_any (s : ByteArray) (w : World) :
    Calls Try.prog 35 #[.string s] w fun e w' => e = .returned (.bool (err s.data.toList == 0)) ∧ Below w.heap.size w w' := by
  go_enter Try.func35, Try.ntmps35
  go_wp2_with (go_at_call 29; refine (look_any s _).mono ?_; rintro e w1 ⟨rfl, hb⟩)
  go_ret
  exact ⟨rfl, hb⟩
end Go.Proofs.Ytffajokpfobalaa
