/- Plain: a sender and a receiver, block by block. -/
import Derived.Test.YtebjofkblfmkmaaBkN1
namespace Go.Proofs.Ytebjofkblfmkmaa
open Go.RowKit Go.Proofs.Ty Go.Proofs.Bits
set_option linter.unusedVariables false
set_option maxRecDepth 1000000
set_option linter.unusedSimpArgs false
/-- The bytes, filled up. -/
def pad (bs : List UInt8) : List UInt8 := bs ++ List.replicate (7 * segs bs.length - bs.length) 0
theorem pad_len (bs : List UInt8) : (pad bs).length = 7 * segs bs.length := by
  have := segs_ge bs.length
  simp [pad]
  omega
theorem pad_getD (bs : List UInt8) (i : Nat) : (pad bs).getD i 0 = bs.getD i 0 := by
  unfold pad
  rw [List.getD_eq_getElem?_getD, List.getD_eq_getElem?_getD]
  by_cases h : i < bs.length
  · rw [List.getElem?_append_left h]
  · rw [List.getElem?_append_right (by omega), List.getElem?_eq_none (l := bs) (by omega), List.getElem?_replicate]
    split <;> rfl
theorem take7 (l : List UInt8) (h : 7 ≤ l.length) : l.take 7 = [l.getD 0 0, l.getD 1 0, l.getD 2 0, l.getD 3 0, l.getD 4 0, l.getD 5 0, l.getD 6 0] := by
  match l, h with
  | _ :: _ :: _ :: _ :: _ :: _ :: _ :: _, _ => rfl
theorem seg_l (bs : List UInt8) (c i : Nat) : (segF bs c i).l.drop 1 = [sgB bs (c + i) 0, sgB bs (c + i) 1, sgB bs (c + i) 2, sgB bs (c + i) 3, sgB bs (c + i) 4, sgB bs (c + i) 5, sgB bs (c + i) 6] := rfl
theorem pad_step (bs : List UInt8) (c i : Nat) (h : c + i < segs bs.length) : (pad bs).take (7 * (c + i)) ++ (segF bs c i).l.drop 1 = (pad bs).take (7 * (c + i + 1)) := by
  have e : 7 * (c + i + 1) = 7 * (c + i) + 7 := by omega
  rw [e, List.take_add, seg_l]
  congr 1
  rw [take7 _ (by rw [List.length_drop, pad_len]; omega)]
  have g : ∀ j, ((pad bs).drop (7 * (c + i))).getD j 0 = sgB bs (c + i) j := fun j => by
    rw [List.getD_eq_getElem?_getD, List.getElem?_drop, ← List.getD_eq_getElem?_getD, pad_getD]
    rfl
  simp only [g]
theorem pad_all (bs : List UInt8) : (pad bs).take (7 * segs bs.length) = pad bs := List.take_of_length_le (by rw [pad_len]; exact Nat.le_refl _)
theorem seg_b0 (bs : List UInt8) (c i : Nat) (hi : i < 127) : (segF bs c i).b0.toNat = i + 1 + if c + i + 1 = segs bs.length then 128 else 0 := by
  show (UInt8.ofNat _).toNat = _
  simp
  split <;> omega
/-- The receiver when j of a block at c were taken. -/
def rJ (bs : List UInt8) (size c j : Nat) : Rc :=
  if c + j = segs bs.length then ⟨2, size, pad bs, j, 0⟩ else if j = size then ⟨1, size, (pad bs).take (7 * (c + j)), 0, 0⟩ else ⟨1, size, (pad bs).take (7 * (c + j)), j, 0⟩
/-- And when the block was answered. -/
def rA (bs : List UInt8) (size c j : Nat) : Rc :=
  if c + j = segs bs.length then ⟨2, size, pad bs, j, 0⟩ else ⟨1, size, (pad bs).take (7 * (c + j)), 0, 0⟩
theorem pad_le (bs : List UInt8) (size : Nat) (hl : bs.length ≤ 65536) (h1 : 1 ≤ size) (h2 : size ≤ 127) : (pad bs).length ≤ 65543 := by
  rw [pad_len]
  unfold segs
  omega
theorem take_le (bs : List UInt8) (size : Nat) (hl : bs.length ≤ 65536) (h1 : 1 ≤ size) (h2 : size ≤ 127) (k : Nat) : ((pad bs).take k).length ≤ 65543 := by
  have := pad_le bs size hl h1 h2
  rw [List.length_take]
  omega
theorem rJ_ok (bs : List UInt8) (size c : Nat) (hl : bs.length ≤ 65536) (h1 : 1 ≤ size) (h2 : size ≤ 127) (j : Nat) (hj : j ≤ size) : (rJ bs size c j).Ok := by
  have hp := pad_le bs size hl h1 h2
  have ht := take_le bs size hl h1 h2 (7 * (c + j))
  have h7 : 7 ≤ (pad bs).length := by rw [pad_len]; have := segs_pos bs.length; omega
  unfold rJ
  split
  · exact ⟨⟨by simp, h2, by show (pad bs).length ≤ 70000; omega, by show j ≤ 127; omega, by simp⟩, hp, by simp, fun _ => h7⟩
  · split
    · exact ⟨⟨by simp, h2, by show ((pad bs).take _).length ≤ 70000; omega, by simp, by simp⟩, ht, fun _ => h1, by simp⟩
    · exact ⟨⟨by simp, h2, by show ((pad bs).take _).length ≤ 70000; omega, by show j ≤ 127; omega, by simp⟩, ht, fun _ => by show j < size; omega, by simp⟩
theorem rA_ok (bs : List UInt8) (size c : Nat) (hl : bs.length ≤ 65536) (h1 : 1 ≤ size) (h2 : size ≤ 127) (j : Nat) (hj : j ≤ 127) : (rA bs size c j).Ok := by
  have hp := pad_le bs size hl h1 h2
  have ht := take_le bs size hl h1 h2 (7 * (c + j))
  have h7 : 7 ≤ (pad bs).length := by rw [pad_len]; have := segs_pos bs.length; omega
  unfold rA
  split
  · exact ⟨⟨by simp, h2, by show (pad bs).length ≤ 70000; omega, hj, by simp⟩, hp, by simp, fun _ => h7⟩
  · exact ⟨⟨by simp, h2, by show ((pad bs).take _).length ≤ 70000; omega, by simp, by simp⟩, ht, fun _ => h1, by simp⟩
/-- The next segment is taken. -/
theorem feed_next (bs : List UInt8) (size c : Nat) (hl : bs.length ≤ 65536) (h1 : 1 ≤ size) (h2 : size ≤ 127) (j : Nat) (hj : j < size) (hc : c + j < segs bs.length) : rFeed (rJ bs size c j) (segF bs c j) = (if c + j + 1 = segs bs.length ∨ j + 1 = size then some (rAns (j + 1) size) else none, rJ bs size c (j + 1)) := by
  have hp := pad_le bs size hl h1 h2
  have hpl := pad_len bs
  have e0 : rJ bs size c j = ⟨1, size, (pad bs).take (7 * (c + j)), j, 0⟩ := by
    unfold rJ
    rw [if_neg (by omega), if_neg (by omega)]
  have hb := seg_b0 bs c j (by omega)
  have hst := pad_step bs c j hc
  have hln : ((pad bs).take (7 * (c + j))).length = 7 * (c + j) := by rw [List.length_take]; omega
  rw [e0]
  unfold rFeed rTake
  rw [if_pos rfl, if_neg (by rw [hb]; simp only []; split <;> omega), if_neg (by simp only [hln]; omega)]
  by_cases hlast : c + j + 1 = segs bs.length
  · rw [if_pos hlast] at hb
    rw [if_pos (by omega), if_pos (.inl hlast)]
    simp only []
    rw [hst, hlast, pad_all]
    congr 1
    unfold rJ
    rw [if_pos (by omega)]
  · rw [if_neg hlast] at hb
    rw [if_neg (by omega)]
    simp only []
    by_cases hfull : j + 1 = size
    · rw [if_pos hfull, if_pos (.inr hfull), hst]
      congr 1
      unfold rJ
      rw [if_neg (by omega), if_pos hfull]
      simp [Nat.add_assoc]
    · rw [if_neg hfull, if_neg (by omega), hst]
      congr 1
      unfold rJ
      rw [if_neg (by omega), if_neg hfull]
      simp [Nat.add_assoc]
/-- A later one is passed over. -/
theorem feed_over (bs : List UInt8) (size c : Nat) (hl : bs.length ≤ 65536) (h1 : 1 ≤ size) (h2 : size ≤ 127) (i j : Nat) (hj : j < i) (hi : i < size) (hc : c + i < segs bs.length) : rFeed (rJ bs size c j) (segF bs c i) = (none, rJ bs size c j) := by
  have e0 : rJ bs size c j = ⟨1, size, (pad bs).take (7 * (c + j)), j, 0⟩ := by
    unfold rJ
    rw [if_neg (by omega), if_neg (by omega)]
  have hb := seg_b0 bs c i (by omega)
  rw [e0]
  unfold rFeed rTake
  rw [if_pos rfl, if_pos (by rw [hb]; simp only []; split <;> omega)]
/-- Time ran out. -/
theorem ask_J (bs : List UInt8) (size c : Nat) (hl : bs.length ≤ 65536) (h1 : 1 ≤ size) (h2 : size ≤ 127) (j : Nat) (hj : j < size) (hc : c + j < segs bs.length) : rAsk (rJ bs size c j) = (some (rAns j size), rA bs size c j) := by
  have e0 : rJ bs size c j = ⟨1, size, (pad bs).take (7 * (c + j)), j, 0⟩ := by
    unfold rJ
    rw [if_neg (by omega), if_neg (by omega)]
  have e1 : rA bs size c j = ⟨1, size, (pad bs).take (7 * (c + j)), 0, 0⟩ := by
    unfold rA
    rw [if_neg (by omega)]
  rw [e0, e1]
  simp [rAsk]
theorem J_A (bs : List UInt8) (size c : Nat) (hl : bs.length ≤ 65536) (h1 : 1 ≤ size) (h2 : size ≤ 127) (j : Nat) (h : c + j = segs bs.length ∨ j = size) : rJ bs size c j = rA bs size c j := by
  unfold rJ rA
  split
  · rfl
  · rename_i hh
    rw [if_pos (h.resolve_left hh)]
/-- The end is taken. -/
theorem feed_end (bs : List UInt8) (size : Nat) (hl : bs.length ≤ 65536) (h1 : 1 ≤ size) (h2 : size ≤ 127) (cm : Nat) : rFeed ⟨2, size, pad bs, cm, 0⟩ (endF bs) = (some (frm 161 0 0 0), .fin 0 bs) := by
  have hsp := segs_sp bs.length
  have hge := segs_ge bs.length
  have hcl := crc16_lt bs
  have e0 : (endF bs).b0.toNat = 193 + 4 * (7 * segs bs.length - bs.length) := by
    show (UInt8.ofNat _).toNat = _
    simp
    omega
  have e1 : (endF bs).b1.toNat = crc16 bs % 256 := by
    show (UInt8.ofNat _).toNat = _
    simp
  have e2 : (endF bs).b2.toNat = crc16 bs / 256 := by
    show (UInt8.ofNat _).toNat = _
    simp
    omega
  have en : (pad bs).length - (endF bs).b0.toNat / 4 % 8 = bs.length := by rw [pad_len, e0]; omega
  have et : (pad bs).take bs.length = bs := by unfold pad; rw [List.take_left]
  unfold rFeed
  rw [if_neg (by simp), if_neg (by rw [e0]; simp only []; omega), if_pos ⟨rfl, by rw [e0]; omega, by rw [e0]; omega⟩]
  unfold rEnd
  rw [if_neg ?_]
  · simp only []
    rw [en, et]
  · simp only []
    rw [en, et, e1, e2]
    omega
/-- The sender is answered. -/
theorem sfeed_ans (bs : List UInt8) (c m : Nat) (j size : Nat) (h2 : size ≤ 127) (h1 : 1 ≤ size) (hj : j ≤ m) (hm : m ≤ 127) (hc : c + j ≤ segs bs.length) : sFeed ⟨1, bs, c, m, 0⟩ (rAns j size) = if c + j < segs bs.length then (blkF bs (c + j) size, ⟨1, bs, c + j, min size (segs bs.length - (c + j)), 0⟩) else ([endF bs], ⟨2, bs, c + j, m, 0⟩) := by
  have e0 : (rAns j size).b0.toNat = 162 := rfl
  have e1 : (rAns j size).b1.toNat = j := by show (UInt8.ofNat _).toNat = _; simp; omega
  have e2 : (rAns j size).b2.toNat = size := by show (UInt8.ofNat _).toNat = _; simp; omega
  unfold sFeed sAns
  rw [if_neg (by simp), if_neg (by rw [e0]; decide), if_pos rfl, if_neg (by rw [e0]; simp), if_neg (by rw [e1]; simp only []; omega), if_neg (by rw [e2]; omega), e1, e2]
theorem sfeed_end (bs : List UInt8) (c : Nat) (sn : Nat) : sFeed ⟨2, bs, c, sn, 0⟩ (frm 161 0 0 0) = ([], .fin 0) := by
  have e0 : (frm 161 0 0 0).b0.toNat = 161 := rfl
  unfold sFeed
  rw [if_neg (by simp), if_neg (by rw [e0]; decide), if_neg (by simp), if_neg (by rw [e0]; simp)]
end Go.Proofs.Ytebjofkblfmkmaa
