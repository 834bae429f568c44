/- Plain facts on bytes of numbers: no program is named here. -/
import Derived.Test.YthalhidebkhclaaTyMath
namespace Go.Proofs.Ty

/-- A number's bytes, the lowest first; the number of bytes. -/
def lowL (n k : Nat) : List UInt8 := (List.range k).map fun i => UInt8.ofNat (n / 256 ^ i)
def joinL : List UInt8 → Nat
  | [] => 0
  | c :: r => c.toNat + 256 * joinL r
theorem lowL_length (n k : Nat) : (lowL n k).length = k := by simp [lowL]
theorem lowL_snoc (n k : Nat) : lowL n (k + 1) = lowL n k ++ [UInt8.ofNat (n / 256 ^ k)] := by simp [lowL, List.range_succ]
theorem lowL_cons (n k : Nat) : lowL n (k + 1) = UInt8.ofNat n :: lowL (n / 256) k := by
  rw [lowL, List.range_succ_eq_map, List.map_cons, List.map_map, Nat.pow_zero, Nat.div_one]
  congr 1
  simp only [lowL]
  apply List.map_congr_left
  intro i _
  show UInt8.ofNat (n / 256 ^ (i + 1)) = UInt8.ofNat (n / 256 / 256 ^ i)
  rw [Nat.div_div_eq_div_mul, Nat.pow_succ, Nat.mul_comm]
theorem joinL_lt (l : List UInt8) : joinL l < 256 ^ l.length := by
  induction l with
  | nil => simp [joinL]
  | cons c r ih =>
    have := c.toNat_lt
    simp only [joinL, List.length_cons, Nat.pow_succ]
    omega
theorem joinL_snoc (l : List UInt8) (c : UInt8) : joinL (l ++ [c]) = joinL l + c.toNat * 256 ^ l.length := by
  induction l with
  | nil => simp [joinL]
  | cons d r ih =>
    simp only [List.cons_append, joinL, ih, List.length_cons, Nat.pow_succ]
    have e : 256 * (c.toNat * 256 ^ r.length) = c.toNat * (256 ^ r.length * 256) := by rw [Nat.mul_left_comm, Nat.mul_comm 256]
    rw [Nat.mul_add, e]
    omega
theorem ofNat_toNat (n : Nat) : (UInt8.ofNat n).toNat = n % 256 := by simp
theorem join_low (n k : Nat) : joinL (lowL n k) = n % 256 ^ k := by
  induction k generalizing n with
  | zero => simp [lowL, joinL, Nat.mod_one]
  | succ k ih =>
    rw [lowL_cons, joinL, ih, ofNat_toNat, Nat.pow_succ]
    have h1 := Nat.div_add_mod n 256
    have h2 := Nat.div_add_mod (n / 256) (256 ^ k)
    rw [Nat.mul_comm (256 ^ k) 256, Nat.mod_mul]
theorem low_join (l : List UInt8) : lowL (joinL l) l.length = l := by
  induction l with
  | nil => rfl
  | cons c r ih =>
    have hc := c.toNat_lt
    rw [List.length_cons, lowL_cons, joinL]
    have e : (c.toNat + 256 * joinL r) / 256 = joinL r := by omega
    rw [e, ih]
    congr 1
    apply UInt8.toNat_inj.1
    rw [ofNat_toNat]
    omega
theorem low_set (n z k : Nat) (h : k < z) : (lowL n k ++ List.replicate (z - k) 0).set k (UInt8.ofNat (n / 256 ^ k)) = lowL n (k + 1) ++ List.replicate (z - (k + 1)) 0 := by
  rw [show z - k = (z - (k + 1)) + 1 by omega, List.replicate_succ, List.set_append_right _ _ (by rw [lowL_length]; omega), lowL_length, Nat.sub_self, List.set_cons_zero, lowL_snoc]
  simp
/-- What Encode tells. -/
def encL (t : Int) (n : Nat) (s : ByteArray) : List UInt8 := if 0 < siz t then lowL n (siz t) else s.data.toList
def encV (t : Int) (n : Nat) (s : ByteArray) : List UInt8 := if chk t n s = 0 then encL t n s else []
theorem siz_le (t : Int) : siz t ≤ 8 := by unfold siz; (repeat' split) <;> omega
end Go.Proofs.Ty
