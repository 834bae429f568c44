/- Plain facts: the sum of bits put together is the sums put together. -/
import Derived.Test.YtpjddhihokgffaaMath
namespace Go.Proofs.Bits

def poly (b : Bool) : Nat := if b then 17817 else 0
theorem crcStep_poly (x c : Nat) : crcStep x c = (x * 2 % 32768) ^^^ poly (x / 16384 != c) := by
  unfold crcStep poly
  by_cases h : x / 16384 = c
  · simp [h]
  · simp [h]
theorem poly_xor (a b : Bool) : poly (a ^^ b) = poly a ^^^ poly b := by
  cases a <;> cases b <;> rfl
theorem xor_double (x y : Nat) : (x ^^^ y) * 2 % 32768 = (x * 2 % 32768) ^^^ (y * 2 % 32768) := by
  have h : ∀ z : Nat, z * 2 = z <<< 1 := fun z => by rw [Nat.shiftLeft_eq]
  rw [h, h, h, Nat.shiftLeft_xor_distrib, show (32768 : Nat) = 2 ^ 15 from rfl, Nat.xor_mod_two_pow]
theorem xor_out (x y : Nat) : (x ^^^ y) / 16384 = (x / 16384) ^^^ (y / 16384) := by
  have h : ∀ z : Nat, z / 16384 = z >>> 14 := fun z => by rw [Nat.shiftRight_eq_div_pow]
  rw [h, h, h, Nat.shiftRight_xor_distrib]
theorem bit_ne (a b c d : Nat) (ha : a ≤ 1) (hb : b ≤ 1) (hc : c ≤ 1) (hd : d ≤ 1) : ((a ^^^ b) != (c ^^^ d)) = ((a != c) ^^ (b != d)) := by
  have h : ∀ n : Nat, n ≤ 1 → n = 0 ∨ n = 1 := by omega
  rcases h a ha with rfl | rfl <;> rcases h b hb with rfl | rfl <;> rcases h c hc with rfl | rfl <;> rcases h d hd with rfl | rfl <;> rfl
theorem crcStep_xor (x y c d : Nat) (hx : x < 32768) (hy : y < 32768) (hc : c ≤ 1) (hd : d ≤ 1) : crcStep (x ^^^ y) (c ^^^ d) = crcStep x c ^^^ crcStep y d := by
  rw [crcStep_poly, crcStep_poly, crcStep_poly, xor_double, xor_out, bit_ne _ _ _ _ (by omega) (by omega) hc hd, poly_xor]
  ac_rfl

def xorc (a b : UInt8) : UInt8 := if a = b then 48 else 49
theorem xorc_bit (a b : UInt8) : (xorc a b).toNat = 48 ∨ (xorc a b).toNat = 49 := by
  unfold xorc; split
  · left; rfl
  · right; rfl
theorem xorc_val (a b : UInt8) (ha : a.toNat = 48 ∨ a.toNat = 49) (hb : b.toNat = 48 ∨ b.toNat = 49) : (xorc a b).toNat - 48 = (a.toNat - 48) ^^^ (b.toNat - 48) := by
  unfold xorc
  by_cases h : a = b
  · rw [if_pos h, h, Nat.xor_self]; rfl
  · rw [if_neg h]
    have : a.toNat ≠ b.toNat := fun e => h (UInt8.toNat_inj.1 e)
    rcases ha with ha | ha <;> rcases hb with hb | hb <;> rw [ha, hb] <;> first | rfl | (exfalso; omega)
def xorL (a b : List UInt8) : List UInt8 := List.zipWith xorc a b
theorem crcFrom_xor (a b : List UInt8) (x y : Nat) (hl : a.length = b.length) (ha : a.all isBit = true) (hb : b.all isBit = true) (hx : x < 32768) (hy : y < 32768) :
    crcFrom (x ^^^ y) (xorL a b) = crcFrom x a ^^^ crcFrom y b := by
  induction a generalizing b x y with
  | nil =>
    cases b with
    | nil => rfl
    | cons d b => simp at hl
  | cons c a ih =>
    cases b with
    | nil => simp at hl
    | cons d b =>
      simp only [List.all_cons, Bool.and_eq_true] at ha hb
      have hc := isBit_cases ha.1
      have hd := isBit_cases hb.1
      have e := xorc_val c d hc hd
      show crcFrom (crcStep (x ^^^ y) ((xorc c d).toNat - 48)) (xorL a b) = crcFrom (crcStep x (c.toNat - 48)) a ^^^ crcFrom (crcStep y (d.toNat - 48)) b
      rw [e, crcStep_xor x y _ _ hx hy (by omega) (by omega)]
      exact ih b _ _ (by simpa using hl) ha.2 hb.2 (crcStep_lt _ _) (crcStep_lt _ _)
theorem crc_xor (a b : List UInt8) (hl : a.length = b.length) (ha : a.all isBit = true) (hb : b.all isBit = true) : crc (xorL a b) = crc a ^^^ crc b :=
  crcFrom_xor a b 0 0 hl ha hb (by omega) (by omega)
theorem xorL_all (a b : List UInt8) : (xorL a b).all isBit = true := by
  rw [List.all_eq_true]
  intro c hc
  simp only [xorL, List.mem_iff_getElem?, List.getElem?_zipWith] at hc
  obtain ⟨i, hi⟩ := hc
  cases ha : a[i]? <;> cases hb : b[i]? <;> simp [ha, hb] at hi
  rw [← hi]
  exact isBit_of (xorc_bit _ _)
theorem xorL_length (a b : List UInt8) (hl : a.length = b.length) : (xorL a b).length = a.length := by simp [xorL, hl]
theorem err_of (l : List UInt8) (h1 : l.length ≤ 65536) (h2 : l.all isBit = true) : err l = 0 := by simp [err, h2]; omega
theorem err_part (l r : List UInt8) (h : err l = 0) (hr : ∀ c ∈ r, c ∈ l) (hlen : r.length ≤ l.length) : err r = 0 := by
  obtain ⟨h1, h2⟩ := err_zero h
  refine err_of r (by omega) ?_
  rw [List.all_eq_true] at h2 ⊢
  exact fun c hc => h2 c (hr c hc)
theorem crcV_ok {l : List UInt8} (h : err l = 0) : crcV l = crc l := by simp [crcV, h]
end Go.Proofs.Bits
