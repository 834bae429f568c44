/- Plain facts: what the sum of fifteen bits finds. -/
import Derived.Test.YtpjddhihokgffaaMathN
import Derived.Test.YtpjddhihokgffaaMathL
namespace Go.Proofs.Bits

/-- The register turned up by one. -/
def sh (x : Nat) : Nat := crcStep x 0
def shs : Nat → Nat → Nat
  | 0, x => x
  | n + 1, x => sh (shs n x)
theorem sh_lt (x : Nat) : sh x < 32768 := crcStep_lt _ _
theorem shs_lt (n x : Nat) (h : x < 32768) : shs n x < 32768 := by
  cases n with
  | zero => exact h
  | succ n => exact sh_lt _
theorem sh_xor (x y : Nat) (hx : x < 32768) (hy : y < 32768) : sh (x ^^^ y) = sh x ^^^ sh y := by
  have := crcStep_xor x y 0 0 hx hy (by omega) (by omega)
  simpa [sh] using this
theorem xor_lt15 {x y : Nat} (hx : x < 32768) (hy : y < 32768) : x ^^^ y < 32768 := Nat.xor_lt_two_pow (n := 15) hx hy
theorem shs_xor (n x y : Nat) (hx : x < 32768) (hy : y < 32768) : shs n (x ^^^ y) = shs n x ^^^ shs n y := by
  induction n with
  | zero => rfl
  | succ n ih => rw [shs, ih, sh_xor _ _ (shs_lt _ _ hx) (shs_lt _ _ hy)]; rfl
theorem sh_zero : sh 0 = 0 := rfl
theorem shs_zero (n : Nat) : shs n 0 = 0 := by
  induction n with
  | zero => rfl
  | succ n ih => rw [shs, ih]; rfl
theorem sh_small (x : Nat) (h : x < 16384) : sh x = x * 2 := by
  unfold sh crcStep; rw [if_pos (by omega)]; omega
theorem xor_zero {x y : Nat} (h : x ^^^ y = 0) : x = y := by
  have e : (x ^^^ y) ^^^ y = x := by rw [Nat.xor_assoc, Nat.xor_self, Nat.xor_zero]
  rw [h, Nat.zero_xor] at e
  exact e.symm
theorem sh_inj0 (x : Nat) (hx : x < 32768) (h : sh x = 0) : x = 0 := by
  by_cases hs : x < 16384
  · rw [sh_small x hs] at h; omega
  · exfalso
    unfold sh crcStep at h
    rw [if_neg (by omega)] at h
    have := xor_zero h
    omega
theorem shs_inj0 (n x : Nat) (hx : x < 32768) (h : shs n x = 0) : x = 0 := by
  induction n with
  | zero => exact h
  | succ n ih => exact ih (sh_inj0 _ (shs_lt _ _ hx) h)
theorem shs_add (m n x : Nat) : shs (m + n) x = shs m (shs n x) := by
  induction m with
  | zero => simp [shs]
  | succ m ih => rw [Nat.add_right_comm, shs, ih]; rfl

/-- The remainder of all bits. -/
def remStep (r : Nat) (c : UInt8) : Nat := sh r ^^^ (c.toNat - 48)
def remFrom (r : Nat) (l : List UInt8) : Nat := l.foldl remStep r
def rem (l : List UInt8) : Nat := remFrom 0 l
theorem bit_lt {c : UInt8} (h : isBit c = true) : c.toNat - 48 ≤ 1 := by have := isBit_cases h; omega
theorem remStep_lt (r : Nat) (c : UInt8) (h : isBit c = true) : remStep r c < 32768 := xor_lt15 (sh_lt _) (by have := bit_lt h; omega)
theorem remFrom_lt (r : Nat) (l : List UInt8) (hr : r < 32768) (h : l.all isBit = true) : remFrom r l < 32768 := by
  induction l generalizing r with
  | nil => exact hr
  | cons c l ih =>
    simp only [List.all_cons, Bool.and_eq_true] at h
    exact ih _ (remStep_lt _ _ h.1) h.2
theorem remFrom_xor (l : List UInt8) (r d : Nat) (hr : r < 32768) (hd : d < 32768) (h : l.all isBit = true) : remFrom (r ^^^ d) l = remFrom r l ^^^ shs l.length d := by
  induction l generalizing r d with
  | nil => rfl
  | cons c l ih =>
    simp only [List.all_cons, Bool.and_eq_true] at h
    show remFrom (remStep (r ^^^ d) c) l = remFrom (remStep r c) l ^^^ shs (l.length + 1) d
    have e : remStep (r ^^^ d) c = remStep r c ^^^ sh d := by
      unfold remStep; rw [sh_xor r d hr hd]; ac_rfl
    rw [e, ih _ _ (remStep_lt _ _ h.1) (sh_lt _) h.2, shs_add l.length 1 d]
    rfl
theorem remFrom_append (r : Nat) (l m : List UInt8) : remFrom r (l ++ m) = remFrom (remFrom r l) m := by simp [remFrom]

/-- A bit that is turned about. -/
theorem rem_flip (l : List UInt8) (k : Nat) (hk : k < l.length) (h : l.all isBit = true) : rem (l.set k (oth l[k])) = rem l ^^^ shs (l.length - 1 - k) 1 := by
  have hsplit : l = l.take k ++ l[k] :: l.drop (k + 1) := by
    rw [List.getElem_cons_drop, List.take_append_drop]
  have hb : isBit l[k] = true := by rw [List.all_eq_true] at h; exact h _ (List.getElem_mem hk)
  have ht : (l.take k).all isBit = true := by
    rw [List.all_eq_true] at h ⊢; exact fun c hc => h c (List.mem_of_mem_take hc)
  have hd : (l.drop (k + 1)).all isBit = true := by
    rw [List.all_eq_true] at h ⊢; exact fun c hc => h c (List.mem_of_mem_drop hc)
  have hset : l.set k (oth l[k]) = l.take k ++ oth l[k] :: l.drop (k + 1) := List.set_eq_take_append_cons_drop .. |>.trans (by rw [if_pos hk])
  have e1 : rem (l.set k (oth l[k])) = remFrom (remStep (rem (l.take k)) (oth l[k])) (l.drop (k + 1)) := by
    rw [hset]; unfold rem; rw [remFrom_append]; rfl
  have e2 : rem l = remFrom (remStep (rem (l.take k)) l[k]) (l.drop (k + 1)) := by
    conv => lhs; rw [hsplit]
    unfold rem; rw [remFrom_append]; rfl
  have e3 : remStep (rem (l.take k)) (oth l[k]) = remStep (rem (l.take k)) l[k] ^^^ 1 := by
    unfold remStep
    have : (oth l[k]).toNat - 48 = (l[k].toNat - 48) ^^^ 1 := by
      rcases isBit_cases hb with hc | hc
      · rw [hc, oth, if_pos (UInt8.toNat_inj.1 hc)]; rfl
      · rw [hc, oth, if_neg (by intro e; rw [e] at hc; simp at hc)]; rfl
    rw [this]; ac_rfl
  rw [e1, e3, remFrom_xor _ _ _ (remStep_lt _ _ hb) (by omega) hd, ← e2, List.length_drop]
  congr 2
  omega

theorem crcStep_in (x c : Nat) (hx : x < 32768) (hc : c ≤ 1) : crcStep x c = sh (x ^^^ (c * 16384)) := by
  have : c = 0 ∨ c = 1 := by omega
  rcases this with rfl | rfl
  · simp [sh]
  · have h := crcStep_xor x 0 0 1 hx (by omega) (by omega) (by omega)
    have h2 := crcStep_xor x 16384 0 0 hx (by omega) (by omega) (by omega)
    simp at h h2
    rw [sh, Nat.one_mul, h2, h]
    rfl
theorem shs_one14 (c : Nat) (hc : c ≤ 1) : shs 14 c = c * 16384 := by
  have : c = 0 ∨ c = 1 := by omega
  rcases this with rfl | rfl <;> rfl
theorem crc_rem (l : List UInt8) (h : l.all isBit = true) : crc l = shs 15 (rem l) := by
  induction l using snoc_ind with
  | h0 => rfl
  | h1 l c ih =>
    simp only [List.all_append, List.all_cons, List.all_nil, Bool.and_true, Bool.and_eq_true] at h
    have hb := bit_lt h.2
    have hr : rem l < 32768 := remFrom_lt 0 l (by omega) h.1
    have er : rem (l ++ [c]) = remStep (rem l) c := by simp [rem, remFrom]
    rw [crc_snoc, crcStep_in _ _ (crc_lt l) hb, ih h.1, er, remStep, shs_xor 15 _ _ (sh_lt _) (by omega), sh_xor _ _ (shs_lt _ _ hr) (by omega)]
    rw [← shs_one14 _ hb, show sh (shs 14 (c.toNat - 48)) = shs 15 (c.toNat - 48) from rfl, show sh (shs 15 (rem l)) = shs (1 + 15) (rem l) from (shs_add 1 15 _).symm, Nat.add_comm 1 15, shs_add 15 1]
    rfl
theorem even_xor_one (a : Nat) : a * 2 ^^^ 1 = a * 2 + 1 := by
  have h1 : (a * 2 ^^^ 1) >>> 1 = a := by
    rw [Nat.shiftRight_xor_distrib, Nat.shiftRight_eq_div_pow, Nat.shiftRight_eq_div_pow]
    simp
  have h2 : (a * 2 ^^^ 1) % 2 = 1 := by
    have h := Nat.xor_mod_two_pow (a := a * 2) (b := 1) (n := 1)
    rw [show (2 : Nat) ^ 1 = 2 from rfl] at h
    rw [h, Nat.mul_mod_left]
    rfl
  rw [Nat.shiftRight_eq_div_pow] at h1
  omega
theorem remFrom_small (l : List UInt8) (h : l.all isBit = true) (hl : l.length ≤ 15) : rem l = val l := by
  induction l using snoc_ind with
  | h0 => rfl
  | h1 l c ih =>
    simp only [List.all_append, List.all_cons, List.all_nil, Bool.and_true, Bool.and_eq_true] at h
    simp only [List.length_append, List.length_cons, List.length_nil] at hl
    have hb := bit_lt h.2
    have hv := val_lt l h.1
    have hv2 : val l < 2 ^ 14 := Nat.lt_of_lt_of_le hv (Nat.pow_le_pow_right (by omega) (by omega))
    have er : rem (l ++ [c]) = remStep (rem l) c := by simp [rem, remFrom]
    rw [er, ih h.1 (by omega), val_snoc, remStep, valStep, sh_small _ (by omega)]
    have hx : ∀ a b : Nat, b ≤ 1 → a * 2 ^^^ b = a * 2 + b := by
      intro a b hb
      have : b = 0 ∨ b = 1 := by omega
      rcases this with rfl | rfl
      · simp
      · exact even_xor_one a
    exact hx _ _ hb
/-- A word's remainder is its bits' sum and its last fifteen bits put together. -/
theorem rem_word (l c : List UInt8) (hl : l.all isBit = true) (hc : c.all isBit = true) (h15 : c.length = 15) : rem (l ++ c) = crc l ^^^ val c := by
  have hr : rem l < 32768 := remFrom_lt 0 l (by omega) hl
  have e : rem (l ++ c) = remFrom (0 ^^^ rem l) c := by rw [Nat.zero_xor]; simp [rem, remFrom]
  rw [e, remFrom_xor c 0 (rem l) (by omega) hr hc, h15, crc_rem l hl, Nat.xor_comm]
  congr 1
  exact remFrom_small c hc (by omega)
theorem rem_coded (l : List UInt8) (hl : l.all isBit = true) : rem (l ++ numL (crc l) 15) = 0 := by
  rw [rem_word l _ hl (numL_all _ _) (numL_length _ _), numL_val, Nat.mod_eq_of_lt (crc_lt l), Nat.xor_self]
end Go.Proofs.Bits
