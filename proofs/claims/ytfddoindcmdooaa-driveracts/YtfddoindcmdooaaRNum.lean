/- Contracts of the document's own Value and Number. -/
import Derived.Test.YtfddoindcmdooaaNum
import Derived.Test.YtfddoindcmdooaaCells
import Derived.Test.YtfddoindcmdooaaBuild
namespace Go.Proofs.Ytfddoindcmdooaa
open Go.RowKit Go.Proofs.Bits
set_option linter.unusedVariables false
set_option maxRecDepth 1000000

theorem numL_cons (n w : Nat) : numL n (w + 1) = bitc (n / 2 ^ w % 2) :: numL n w := by
  induction w generalizing n with
  | zero => simp [numL]
  | succ w ih =>
    rw [numL, ih (n / 2), numL, Nat.div_div_eq_div_mul, Nat.pow_succ, Nat.mul_comm 2 (2 ^ w)]
    rfl
/-- The cells behind j rounds: zeros, then the last j bits. -/
def numCells (n wd j : Nat) : List Value := List.replicate (wd - j) (.int .u8 0) ++ Lib.byteCells (numL n j)
theorem numCells_length (n wd j : Nat) (h : j ≤ wd) : (numCells n wd j).length = wd := by
  simp [numCells, Lib.byteCells_length, numL_length]; omega
theorem numCells_next (n wd j : Nat) (h : j < wd) : (numCells n wd j).set (wd - 1 - j) (.int .u8 (bitc (n / 2 ^ j % 2)).toNat) = numCells n wd (j + 1) := by
  unfold numCells
  rw [List.set_append_left _ _ (by simp; omega), numL_cons]
  have e : wd - j = (wd - (j + 1)) + 1 := by omega
  rw [e, List.replicate_succ', List.set_append_right _ _ (by simp; omega)]
  have e2 : wd - 1 - j - (List.replicate (wd - (j + 1)) (Value.int IntKind.u8 0)).length = 0 := by simp; omega
  rw [e2]
  simp [Lib.byteCells]

theorem num_byte (m : Nat) (hu : m < 18446744073709551616) : ((48 : Int) + bits BinOp.and IntKind.u64 (m : Int) 1) % 256 = ((bitc (m % 2)).toNat : Int) := by
  rw [show (1 : Int) = ((1 : Nat) : Int) from rfl, u64_and_nat _ _ hu (by omega), nat_mask1, bitc_val _ (by omega)]
  omega

set_option maxHeartbeats 400000 in
theorem rNumber_in (n wd : Nat) (w : World) (hu : n < 18446744073709551616) (hw : wd ≤ 64) :
    Calls Try.prog 60 #[.int .u64 n, .int .i64 wd] w fun e w' => e = .returned (.tuple #[.string ⟨(numV n wd).toArray⟩, .int .i64 (numE n wd)]) ∧ Below w.heap.size w w' := by
  have hd1 : decide ((wd : Int) < 0) = false := by simp
  have hd2 : decide (64 < (wd : Int)) = false := by simp; omega
  have HU : Hid (n < 18446744073709551616) := hu
  clear hu
  obtain ⟨i0, hi, hz0, hz1, hz2⟩ := info_parts info5
  go_enter Try.func60, Try.ntmps60
  go_wp2_with (at_make; refine wpList_make_row _ rfl _ _ 75 rfl 5 i0 (.int .u8 0) Try.underlying75 hi hz0 hz1 rfl .i64 .i64 wd rfl rfl (by rw [hz2]; omega) (by omega) ?_)
  go_loopw [0, 7] (fun m i wr => ∃ j : Nat, j ≤ wd ∧ i = .int .i64 ((wd : Int) - 1 - j) ∧ m = .int .u64 ((n / 2 ^ j : Nat) : Int) ∧ Row wr w.heap.size (numCells n wd j) ∧ Below w.heap.size w wr) (fun _ i _ => (intOf i + 1).toNat)
  case atStart => exact ⟨0, Nat.zero_le _, val_int (by omega), val_int (by simp), by simpa [numCells, numL, Lib.byteCells] using Row.made w (.int .u8 0) wd 5, (Below.refl _ _).alloc (Nat.le_refl _) _⟩
  case round =>
    obtain ⟨j, hj, rfl, rfl, hR, hb⟩ := hrel
    by_cases hjw : j < wd
    · have hl := numCells_length n wd j hj
      have hR2 := hR.set (wd - 1 - j) (.int .u8 (bitc (n / 2 ^ j % 2)).toNat)
      rw [numCells_next n wd j hjw] at hR2
      have hc := hR.cell (wd - 1 - j) (by omega)
      have hf := hR.free (wd - 1 - j) (by omega)
      have hui : n / 2 ^ j < 18446744073709551616 := Nat.lt_of_le_of_lt (Nat.div_le_self _ _) HU.out
      have HB : Hid (((48 : Int) + bits BinOp.and IntKind.u64 ((n / 2 ^ j : Nat) : Int) 1) % 256 = ((bitc (n / 2 ^ j % 2)).toNat : Int)) := num_byte _ hui
      have HM : Hid (n / 2 ^ (j + 1) = n / 2 ^ j / 2) := by show n / 2 ^ (j + 1) = n / 2 ^ j / 2; rw [Nat.div_div_eq_div_mul, Nat.pow_succ]
      have HUI : Hid (n / 2 ^ j < 18446744073709551616) := hui
      clear hui
      generalize n / 2 ^ j = m at *
      go_wp2
      go_roundw
      case rel => exact ⟨j + 1, by omega, val_int (by omega), val_int (by rw [HM.out]; omega), by rw [HB.out]; exact hR2, hb.setCell (p := ⟨w.heap.size, wd - 1 - j, none⟩) (Nat.le_refl _) _⟩
      case measure => simp [intOf]; omega
    · obtain rfl : j = wd := by omega
      have hR3 : Row wr w.heap.size (Lib.byteCells (numL n j)) := by simpa [numCells] using hR
      have ht := hR3.text j
      rw [numL_length] at ht
      have hcast : ((n : Int) / 2 ^ j) = ((n / 2 ^ j : Nat) : Int) := by simp
      by_cases hz : n / 2 ^ j = 0
      · have HZ : Hid (n / 2 ^ j = 0) := hz
        have hzb : ((n : Int) / 2 ^ j != 0) = false := by rw [hcast, hz]; rfl
        clear hz hcast
        go_wp2
        go_ret2
        refine ⟨?_, hb⟩
        rw [show numV n (j : Int) = numL n j by unfold numV; rw [if_neg (by simp only [Int.toNat_natCast, HZ.out]; omega)]; rfl, show numE n (j : Int) = 0 by unfold numE; rw [if_neg (by simp only [Int.toNat_natCast, HZ.out]; omega)]]
        rfl
      · have HZ : Hid (¬ n / 2 ^ j = 0) := hz
        have hzb : ((n : Int) / 2 ^ j != 0) = true := by rw [hcast, bne_iff_ne]; omega
        clear hz hcast
        go_wp2
        go_ret2
        refine ⟨?_, hb⟩
        rw [show numV n (j : Int) = [] by unfold numV; rw [if_pos (by simp only [Int.toNat_natCast]; exact .inr (.inr HZ.out))], show numE n (j : Int) = 1 by unfold numE; rw [if_pos (by simp only [Int.toNat_natCast]; exact .inr (.inr HZ.out))]]
        rfl

set_option maxHeartbeats 400000 in
theorem rNumber_out (n : Nat) (wd : Int) (w : World) (h : wd < 0 ∨ 64 < wd) :
    Calls Try.prog 60 #[.int .u64 n, .int .i64 wd] w fun e w' => e = .returned (.tuple #[.string ⟨#[]⟩, .int .i64 1]) ∧ Below w.heap.size w w' := by
  by_cases h1 : wd < 0
  · have hd1 : decide (wd < 0) = true := by simpa using h1
    clear h
    go_enter Try.func60, Try.ntmps60
    go_wp2
    go_ret2
    exact ⟨rfl, Below.refl _ _⟩
  · have h2 : 64 < wd := by omega
    have hd1 : decide (wd < 0) = false := by simpa using h1
    have hd2 : decide (64 < wd) = true := by simpa using h2
    clear h
    go_enter Try.func60, Try.ntmps60
    go_wp2
    go_ret2
    exact ⟨rfl, Below.refl _ _⟩

theorem rNumber_any (n : Nat) (wd : Int) (w : World) (hu : n < 18446744073709551616) :
    Calls Try.prog 60 #[.int .u64 n, .int .i64 wd] w fun e w' => e = .returned (.tuple #[.string ⟨(numV n wd).toArray⟩, .int .i64 (numE n wd)]) ∧ Below w.heap.size w w' := by
  by_cases h : wd < 0 ∨ 64 < wd
  · have h2 : wd < 0 ∨ 64 < wd ∨ n / 2 ^ wd.toNat ≠ 0 := by omega
    rw [numV, numE, if_pos h2, if_pos h2]
    exact rNumber_out n wd w h
  · obtain ⟨k, rfl⟩ := Int.eq_ofNat_of_zero_le (show 0 ≤ wd by omega)
    exact rNumber_in n k w hu (by omega)
end Go.Proofs.Ytfddoindcmdooaa
