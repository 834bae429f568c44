/- Plain facts on numbers as bits. -/
import Derived.Test.YtffajokpfobalaaMath
import Derived.Test.YtffajokpfobalaaMathB
namespace Go.Proofs.Bits

def valStep (n : Nat) (c : UInt8) : Nat := n * 2 + (c.toNat - 48)
def val (l : List UInt8) : Nat := l.foldl valStep 0
def valV (l : List UInt8) : Nat := if err l = 0 then (if 64 < l.length then 0 else val l) else 0
def valE (l : List UInt8) : Int := if err l = 0 then (if 64 < l.length then 2 else 0) else err l
theorem val_snoc (l : List UInt8) (c : UInt8) : val (l ++ [c]) = valStep (val l) c := by simp [val]
theorem val_lt (l : List UInt8) (h : l.all isBit = true) : val l < 2 ^ l.length := by
  induction l using snoc_ind with
  | h0 => simp [val]
  | h1 l c ih =>
    simp only [List.all_append, Bool.and_eq_true, List.all_cons, List.all_nil, Bool.and_true] at h
    have hc := isBit_cases h.2
    have := ih h.1
    rw [val_snoc, valStep, List.length_append, List.length_cons, List.length_nil, Nat.pow_succ]
    omega

def bitc (b : Nat) : UInt8 := if b = 0 then 48 else 49
theorem bitc_bit (b : Nat) : (bitc b).toNat = 48 ∨ (bitc b).toNat = 49 := by
  unfold bitc; split
  · left; rfl
  · right; rfl
theorem bitc_val (b : Nat) (h : b ≤ 1) : (bitc b).toNat = 48 + b := by
  have : b = 0 ∨ b = 1 := by omega
  rcases this with rfl | rfl <;> rfl
/-- The last w bits of n, the highest first. -/
def numL (n : Nat) : Nat → List UInt8
  | 0 => []
  | w + 1 => numL (n / 2) w ++ [bitc (n % 2)]
theorem numL_length (n w : Nat) : (numL n w).length = w := by
  induction w generalizing n with
  | zero => rfl
  | succ w ih => simp [numL, ih]
theorem numL_all (n w : Nat) : (numL n w).all isBit = true := by
  induction w generalizing n with
  | zero => rfl
  | succ w ih => rw [numL]; exact all_snoc _ _ (ih _) (isBit_of (bitc_bit _))
theorem numL_val (n w : Nat) : val (numL n w) = n % 2 ^ w := by
  induction w generalizing n with
  | zero => simp [numL, val, Nat.mod_one]
  | succ w ih =>
    rw [numL, val_snoc, ih, valStep, bitc_val _ (by omega), Nat.pow_succ]
    have h1 := Nat.mod_mul_left_div_self n 2 (2 ^ w)
    have h2 := Nat.mod_mod_of_dvd n (Nat.dvd_mul_left 2 (2 ^ w))
    omega
/-- One bit more from the front. -/
theorem numL_next (n w i : Nat) (h : i < w) : numL (n / 2 ^ (w - (i + 1))) (i + 1) = numL (n / 2 ^ (w - i)) i ++ [bitc (n / 2 ^ (w - 1 - i) % 2)] := by
  rw [numL, Nat.div_div_eq_div_mul, ← Nat.pow_succ, show (w - (i + 1)).succ = w - i by omega, show w - (i + 1) = w - 1 - i by omega]
def numE (n : Nat) (w : Int) : Int := if w < 0 ∨ 64 < w ∨ n / 2 ^ w.toNat ≠ 0 then 1 else 0
def numV (n : Nat) (w : Int) : List UInt8 := if w < 0 ∨ 64 < w ∨ n / 2 ^ w.toNat ≠ 0 then [] else numL n w.toNat
end Go.Proofs.Bits
