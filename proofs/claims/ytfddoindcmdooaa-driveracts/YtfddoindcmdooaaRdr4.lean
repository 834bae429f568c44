/- Contract of a reader's body. -/
import Derived.Test.YtfddoindcmdooaaRdr3
import Derived.Test.YtfddoindcmdooaaFrS
import Derived.Test.YtfddoindcmdooaaSums
namespace Go.Proofs.Ytfddoindcmdooaa
open Go.RowKit Go.Proofs.Bits
set_option linter.unusedVariables false
set_option maxRecDepth 1000000

section
variable {t : List UInt8} {s : RS} {g : Nat} {w w' : World}

theorem Kp.of_below (hb : Below w.heap.size w w') (hg : g ≤ w.heap.size) : Kp g w w' :=
  ⟨hb.mono hg, fun k x hk _ _ => by have hlt : k < w.heap.size := (Array.getElem?_eq_some_iff.1 hk).1; exact (hb.block k hlt).trans hk⟩
theorem owns_below {B n : Nat} {v : Value} {xs : List Value} (h : w.ownsRowF B 5 1 v n xs) (hb : Below w.heap.size w w') : w'.ownsRowF B 5 1 v n xs :=
  h.kept (row := none) ⟨hb.os, hb.tape, hb.output, hb.size, fun k hk _ => hb.block k hk⟩ (by cases hv : v.ownBlock <;> simp)
theorem bindR_inv {α β : Type} {m : RM α} {k : α → RM β} {s s' : RS} {b : β} (h : bindR m k s = .ok (b, s')) : ∃ a s1, m s = .ok (a, s1) ∧ k a s1 = .ok (b, s') := by
  cases hm : m s with
  | error f => rw [bindR_error hm] at h; cases h
  | ok q => exact ⟨q.1, q.2, rfl, (bindR_ok (a := q.1) (s' := q.2) hm).symm.trans h⟩
theorem bitS_grows {b : UInt8} {s' : RS} (h : bitS t s = .ok (b, s')) : s'.seen = s.seen ++ [b] := by
  unfold bitS at h
  split at h
  · cases h
  · split at h
    · split at h
      · cases h
      · split at h
        · cases h
        · simp only [Except.ok.injEq, Prod.mk.injEq] at h; rw [← h.2, ← h.1]
    · simp only [Except.ok.injEq, Prod.mk.injEq] at h; rw [← h.2, ← h.1]
theorem takeS_grows (n : Nat) : ∀ {s s' : RS} {bs : List UInt8}, takeS t n s = .ok (bs, s') → s'.seen = s.seen ++ bs := by
  induction n with
  | zero => intro s s' bs h; simp only [takeS, retR, Except.ok.injEq, Prod.mk.injEq] at h; rw [← h.2, ← h.1]; simp
  | succ n ih =>
    intro s s' bs h
    obtain ⟨b1, s1, h1, h⟩ := bindR_inv h
    obtain ⟨b, s2, h2, h⟩ := bindR_inv h
    simp only [retR, Except.ok.injEq, Prod.mk.injEq] at h
    rw [← h.2, ← h.1, bitS_grows h2, ih h1]; simp
theorem fieldS_inv {hh : Nat × Bool × Bool} {s' : RS} (hall : t.all isBit = true) (hrow : s.row ≤ 4) (h : fieldS t s = .ok (hh, s')) : s'.row ≤ 4 ∧ hh.1 < 536870912 ∧ ∃ l, s'.seen = s.seen ++ l := by
  obtain ⟨a, s1, h1, h⟩ := bindR_inv h
  obtain ⟨b, s2, h2, h⟩ := bindR_inv h
  obtain ⟨c, s3, h3, h⟩ := bindR_inv h
  have r3 := bitS_row h3 (bitS_row h2 (takeS_row 11 h1 hrow))
  have la := takeS_lt hall h1
  have g3 : s3.seen = s.seen ++ (a ++ [b] ++ [c]) := by rw [bitS_grows h3, bitS_grows h2, takeS_grows 11 h1]; simp
  by_cases hx : c = 49
  · rw [if_pos hx] at h
    obtain ⟨d, s4, h4, h⟩ := bindR_inv h
    obtain ⟨e, s5, h5, h⟩ := bindR_inv h
    obtain ⟨f, s6, h6, h⟩ := bindR_inv h
    obtain ⟨f', s7, h7, h⟩ := bindR_inv h
    simp only [retR, Except.ok.injEq, Prod.mk.injEq] at h
    have lb := takeS_lt hall h4
    rw [← h.2, ← h.1]
    exact ⟨bitS_row h7 (bitS_row h6 (bitS_row h5 (takeS_row 18 h4 r3))), by simp only; omega, (a ++ [b] ++ [c]) ++ (d ++ [e] ++ [f] ++ [f']), by rw [bitS_grows h7, bitS_grows h6, bitS_grows h5, takeS_grows 18 h4, g3]; simp⟩
  · rw [if_neg hx] at h
    obtain ⟨d, s4, h4, h⟩ := bindR_inv h
    simp only [retR, Except.ok.injEq, Prod.mk.injEq] at h
    rw [← h.2, ← h.1]
    exact ⟨bitS_row h4 r3, by simp only; omega, a ++ [b] ++ [c] ++ [d], by rw [bitS_grows h4, g3]; simp⟩
theorem bytesS_inv (n : Nat) : ∀ {s s' : RS} {ds : List UInt8}, s.row ≤ 4 → bytesS t n s = .ok (ds, s') → ds.length = n ∧ s'.row ≤ 4 ∧ ∃ l, s'.seen = s.seen ++ l := by
  induction n with
  | zero => intro s s' ds hr h; simp only [bytesS, retR, Except.ok.injEq, Prod.mk.injEq] at h; rw [← h.2, ← h.1]; exact ⟨rfl, hr, [], by simp⟩
  | succ n ih =>
    intro s s' ds hr h
    obtain ⟨b1, s1, h1, h⟩ := bindR_inv h
    obtain ⟨b, s2, h2, h⟩ := bindR_inv h
    simp only [retR, Except.ok.injEq, Prod.mk.injEq] at h
    obtain ⟨i1, i2, l, i3⟩ := ih hr h1
    rw [← h.2, ← h.1]
    exact ⟨by simp [i1], takeS_row 8 h2 i2, l ++ b, by rw [takeS_grows 8 h2, i3]; simp⟩

/-- The frame that was told. -/
def toldF (f : Bits.Told) : Fr := if h : f.id < 4294967296 ∧ f.len < 9223372036854775808 ∧ f.ds.length ≤ 8 then
  ⟨f.id, f.ext, f.rem, f.len, f.ds ++ List.replicate (8 - f.ds.length) 0, h.1, by omega, by simp; omega⟩ else Fr.nul
theorem toldF_pos {f : Bits.Told} (h : f.id < 4294967296 ∧ f.len < 9223372036854775808 ∧ f.ds.length ≤ 8) : toldF f = ⟨f.id, f.ext, f.rem, f.len, f.ds ++ List.replicate (8 - f.ds.length) 0, h.1, by omega, by simp; omega⟩ := by rw [toldF, dif_pos h]
theorem toldF_nil (hh : Nat × Bool × Bool) (n : Nat) (h1 : hh.1 < 4294967296) (h2 : n < 9223372036854775808) : (fieldF hh).setLen n (by omega) = toldF ⟨hh.1, hh.2.1, hh.2.2, n, []⟩ := by
  rw [toldF_pos ⟨h1, h2, by simp⟩, fieldF, dif_pos h1]; rfl
theorem toldF_bytes (hh : Nat × Bool × Bool) (n : Nat) (h1 : hh.1 < 4294967296) (h2 : n < 9223372036854775808) : (toldF ⟨hh.1, hh.2.1, hh.2.2, n, []⟩).bytes = nOf hh.2.2 n := by
  rw [toldF_pos ⟨h1, h2, by simp⟩]
  simp only [Fr.bytes, nOf]
  cases hh.2.2
  · simp only [Bool.false_or, decide_eq_true_eq, Bool.false_eq_true, if_false]
    rw [if_neg (by omega)]
    split <;> omega
  · simp
theorem put_snoc (ds : List UInt8) (c : UInt8) (h : ds.length < 8) : (ds ++ List.replicate (8 - ds.length) (0 : UInt8)).set ds.length c = (ds ++ [c]) ++ List.replicate (8 - (ds ++ [c]).length) 0 := by
  rw [List.set_append_right _ _ (Nat.le_refl _), Nat.sub_self, show 8 - ds.length = (8 - (ds.length + 1)) + 1 by omega, List.replicate_succ]
  simp
theorem toldF_snoc (f : Bits.Told) (c : UInt8) (h1 : f.id < 4294967296) (h2 : f.len < 9223372036854775808) (h3 : f.ds.length < 8) : (toldF f).arr.setIfInBounds (4 + f.ds.length) (.int .u8 c.toNat) = (toldF { f with ds := f.ds ++ [c] }).arr := by
  rw [toldF_pos ⟨h1, h2, by omega⟩, toldF_pos (f := { f with ds := f.ds ++ [c] }) ⟨h1, h2, by simp; omega⟩]
  simp only [Fr.arr, Fr.cells, List.setIfInBounds_toArray, ← put_snoc f.ds c h3]
  congr 1
  rw [show 4 + f.ds.length = f.ds.length + 1 + 1 + 1 + 1 by omega]
  simp [List.map_set]
theorem crc_seen (h : s.ok t) (ht : t.length ≤ 65536) : crcV s.seen = crc s.seen := by
  have : err s.seen = 0 := by
    unfold err
    rw [if_neg (by have := h.1; have := h.2.2.1; omega), if_pos h.2.2.2]
  rw [crcV, if_pos this]
def toldV (f : Bits.Told) : Value := (toldF f).val

end
end Go.Proofs.Ytfddoindcmdooaa
