/- What a Save keeps, whenever the power goes: plain. -/
import Derived.Test.YthbcpmakhdogmaaNvM
namespace Go.Proofs.Nv
open Go.Proofs.Bits
set_option linter.unusedVariables false
set_option maxRecDepth 1000000
section
variable {c : Ch}
theorem splice_take {α : Type} {l b : List α} {o : Nat} (n : Nat) (h : n ≤ o) (hl : o ≤ l.length) : (splice l o b).take n = l.take n := by
  unfold splice
  rw [List.append_assoc, List.take_append_of_le_length (by rw [List.length_take]; omega), List.take_take, Nat.min_eq_left h]
theorem put_seg (h : c.Ok) {f j : Nat} (hf : f + c.many ≤ c.n) (hj : j < c.many) {b : List UInt8} (hb : b.length = 8) : (c.put (f + j) b).seg f = splice (c.seg f) (8 * j) b := by
  have := h.len
  show ((splice c.pg (8 * (f + j)) b).drop (8 * f)).take (8 * c.many) = _
  rw [splice_in (by omega) _ _ (by omega) (by omega) (by omega)]
  unfold Ch.seg
  congr 1
  omega
theorem put_other (h : c.Ok) {f g j : Nat} (hf : f + c.many ≤ c.n) (hj : j < c.many) (hg : g + c.many ≤ f ∨ f + c.many ≤ g) {b : List UInt8} (hb : b.length = 8) : (c.put (f + j) b).seg g = c.seg g := by
  have := h.len
  show ((splice c.pg (8 * (f + j)) b).drop (8 * g)).take (8 * c.many) = _
  rw [splice_apart (by omega) _ _ (by omega)]
  rfl
theorem segLen (h : c.Ok) (f : Nat) (hf : f + c.many ≤ c.n) : (c.seg f).length = 8 * c.many := by
  have := h.len
  unfold Ch.seg
  rw [List.length_take, List.length_drop]
  omega
/-- Bytes filled up to whole pages. -/
def full (b : List UInt8) : List UInt8 := b ++ List.replicate (8 * nch b - b.length) 0
theorem full_len (b : List UInt8) : (full b).length = 8 * nch b := by
  unfold full nch
  rw [List.length_append, List.length_replicate]
  omega
theorem full_chunk (b : List UInt8) (k : Nat) (hk : k < nch b) : pad (chunk b k) = ((full b).drop (8 * k)).take 8 := by
  have hn : nch b = (b.length + 7) / 8 := rfl
  apply List.ext_getElem?
  intro j
  have hcl : (chunk b k).length = min 8 (b.length - 8 * k) := by unfold chunk; rw [List.length_take, List.length_drop]
  rw [List.getElem?_take, List.getElem?_drop]
  unfold pad full
  by_cases hj : j < 8
  · rw [if_pos hj]
    by_cases h1 : 8 * k + j < b.length
    · rw [List.getElem?_append_left (by omega), List.getElem?_append_left h1]
      unfold chunk
      rw [List.getElem?_take, if_pos hj, List.getElem?_drop]
    · rw [List.getElem?_append_right (by omega), List.getElem?_append_right (by omega), List.getElem?_replicate, List.getElem?_replicate, if_pos (by omega), if_pos (by omega)]
  · rw [if_neg hj, List.getElem?_eq_none]
    rw [List.length_append, List.length_replicate]
    omega
theorem hs_clear (room : Nat) (s : List UInt8) (h : s.take 8 = zero8) : hs room s = (0, []) := by
  have e : s.take 2 = [0, 0] := by
    have := congrArg (List.take 2) h
    rw [List.take_take] at this
    exact this
  unfold hs
  rw [if_pos (.inl (by rw [e]; rfl))]
theorem hs_read (room k : Nat) (b s : List UInt8) (hk0 : k ≠ 0) (hk : k < 65536) (hb : b.length ≤ room) (hr : room < 4294967296) (h1 : s.take 8 = head k b) (h2 : (s.drop 8).take b.length = b) : hs room s = (k, b) := by
  have hcr := crc16_lt (le k 2 ++ le b.length 4 ++ b)
  have l2 : (le k 2).length = 2 := le_len _ _
  have l4 : (le b.length 4).length = 4 := le_len _ _
  have lc : (le (crc16 (le k 2 ++ le b.length 4 ++ b)) 2).length = 2 := le_len _ _
  have e1 : s.take 2 = le k 2 := by
    have := congrArg (List.take 2) h1
    rw [List.take_take] at this
    rw [show min 2 8 = 2 from rfl] at this
    rw [this, head, List.append_assoc, List.take_append_of_le_length (by omega), List.take_of_length_le (by omega)]
  have e6 : s.take 6 = le k 2 ++ le b.length 4 := by
    have := congrArg (List.take 6) h1
    rw [List.take_take] at this
    rw [show min 6 8 = 6 from rfl] at this
    rw [this, head, List.take_append_of_le_length (by rw [List.length_append]; omega), List.take_of_length_le (by rw [List.length_append]; omega)]
  have e4 : (s.drop 2).take 4 = le b.length 4 := by
    have : (s.drop 2).take 4 = (s.take 6).drop 2 := by rw [List.drop_take]
    rw [this, e6, List.drop_append_of_le_length (by omega), List.drop_eq_nil_of_le (by omega), List.nil_append]
  have e8 : (s.drop 6).take 2 = le (crc16 (le k 2 ++ le b.length 4 ++ b)) 2 := by
    have : (s.drop 6).take 2 = (s.take 8).drop 6 := by rw [List.drop_take]
    rw [this, h1, head, List.drop_append_of_le_length (by rw [List.length_append]; omega), List.drop_eq_nil_of_le (by rw [List.length_append]; omega), List.nil_append]
  have n1 : num (le k 2) = k := num_le _ _ (by omega)
  have n4 : num (le b.length 4) = b.length := num_le _ _ (by omega)
  have nc : num (le (crc16 (le k 2 ++ le b.length 4 ++ b)) 2) = crc16 (le k 2 ++ le b.length 4 ++ b) := num_le _ _ (by omega)
  unfold hs
  rw [e1, e4, e8, e6, n1, n4, nc, h2, if_neg (by omega), if_pos rfl]
theorem wr_go (h : c.Ok) {i : Nat} (hi : i < c.n) (hd : c.dead = false) (hl : c.left ≠ 0) (b : List UInt8) : c.wr (i : Int) b = (c.put i b, true) := by
  unfold Ch.wr
  rw [if_neg (by simp [Ch.has, hd, hi]), if_neg hl, Int.toNat_natCast]
theorem wr_off (h : c.Ok) {i : Nat} (hi : i < c.n) (hd : c.dead = false) (hl : c.left = 0) (b : List UInt8) : c.wr (i : Int) b = (c.die, false) := by
  unfold Ch.wr
  rw [if_neg (by simp [Ch.has, hd, hi]), if_pos hl]
/-- Two halves. -/
structure Hv (c : Ch) (f g : Nat) : Prop where
  f1 : f + c.many ≤ c.n
  g1 : g + c.many ≤ c.n
  ap : g + c.many ≤ f ∨ f + c.many ≤ g
theorem wrK_spec (h : c.Ok) {f g : Nat} (hv : Hv c f g) (b : List UInt8) (hb : b.length ≤ c.room) (hd : c.dead = false) (k : Nat) (hk : k ≤ nch b) :
    (c.wrK (f + 1) b k).1.Ok ∧ (c.wrK (f + 1) b k).1.n = c.n ∧ (c.wrK (f + 1) b k).1.seg g = c.seg g ∧
    ((c.left < 0 ∨ (k : Int) ≤ c.left) → (c.wrK (f + 1) b k).2 = true ∧ (c.wrK (f + 1) b k).1.dead = false ∧ (c.wrK (f + 1) b k).1.left = (if c.left < 0 then c.left else c.left - k) ∧ (c.wrK (f + 1) b k).1.seg f = splice (c.seg f) 8 ((full b).take (8 * k))) ∧
    (¬ (c.left < 0 ∨ (k : Int) ≤ c.left) → (c.wrK (f + 1) b k).2 = false ∧ (c.wrK (f + 1) b k).1.dead = true ∧ ((c.wrK (f + 1) b k).1.seg f).take 8 = (c.seg f).take 8) := by
  have hl1 := h.l1
  have hn : nch b = (b.length + 7) / 8 := rfl
  have hrm : c.room = 8 * (c.many - 1) := rfl
  have hmany : 2 ≤ c.many := by have := h.lo; unfold Ch.many; omega
  induction k with
  | zero =>
    refine ⟨h, rfl, rfl, fun _ => ⟨rfl, hd, ?_, ?_⟩, fun hx => absurd (by omega) hx⟩
    · show c.left = _
      split
      · rfl
      · simp
    · show c.seg f = _
      rw [Nat.mul_zero, List.take_zero, splice_nil]
  | succ k ih =>
    obtain ⟨i1, i2, i3, i4, i5⟩ := ih (by omega)
    have hm : (c.wrK (f + 1) b k).1.many = c.many := by unfold Ch.many; rw [i2]
    by_cases hk1 : c.left < 0 ∨ (k : Int) ≤ c.left
    · obtain ⟨j1, j2, j3, j4⟩ := i4 hk1
      have hpn : f + 1 + k < (c.wrK (f + 1) b k).1.n := by rw [i2]; have := hv.f1; omega
      have hstep : c.wrK (f + 1) b (k + 1) = (c.wrK (f + 1) b k).1.wr ((f + 1 + k : Nat) : Int) (pad (chunk b k)) := by
        show (if (c.wrK (f + 1) b k).2 then _ else _) = _
        rw [if_pos j1]
      have hp8 := pad_len _ (chunk_len b k)
      by_cases hz : (c.wrK (f + 1) b k).1.left = 0
      · have hk2 : ¬ (c.left < 0 ∨ ((k + 1 : Nat) : Int) ≤ c.left) := by
          rw [j3] at hz
          split at hz <;> omega
        rw [hstep, wr_off i1 hpn j2 hz]
        refine ⟨⟨i1.len, i1.lo, i1.hi, i1.l1, i1.l2⟩, i2, i3, fun hx => absurd hx hk2, fun _ => ⟨rfl, rfl, ?_⟩⟩
        show ((c.wrK (f + 1) b k).1.seg f).take 8 = _
        rw [j4, splice_take 8 (Nat.le_refl _) (by rw [segLen h f hv.f1]; omega)]
      · have hk2 : c.left < 0 ∨ ((k + 1 : Nat) : Int) ≤ c.left := by
          rw [j3] at hz
          split at hz <;> omega
        rw [hstep, wr_go i1 hpn j2 hz]
        have hj : k + 1 < (c.wrK (f + 1) b k).1.many := by rw [hm]; omega
        have e1 : f + 1 + k = f + (k + 1) := by omega
        refine ⟨Ch.put_ok i1 hpn hp8, i2, ?_, fun _ => ⟨rfl, j2, ?_, ?_⟩, fun hx => absurd hk2 hx⟩
        · rw [e1, put_other i1 (by rw [hm, i2]; exact hv.f1) hj (by rw [hm]; exact hv.ap) hp8, i3]
        · show (if 0 < (c.wrK (f + 1) b k).1.left then (c.wrK (f + 1) b k).1.left - 1 else (c.wrK (f + 1) b k).1.left) = _
          rw [j3]
          split <;> split <;> omega
        · rw [e1, put_seg i1 (by rw [hm, i2]; exact hv.f1) hj hp8, j4, full_chunk b k (by omega)]
          have hfl := full_len b
          have hx : ((full b).take (8 * k)).length = 8 * k := by rw [List.length_take]; omega
          have hy : (((full b).drop (8 * k)).take 8).length = 8 := by rw [List.length_take, List.length_drop]; omega
          have hsl := segLen h f hv.f1
          have := splice_next (l := c.seg f) (o := 8) (x := (full b).take (8 * k)) (y := ((full b).drop (8 * k)).take 8) (by rw [hx, hy, hsl]; omega)
          rw [hx] at this
          rw [show 8 * (k + 1) = 8 + 8 * k by omega, this]
          congr 1
          rw [Nat.add_comm 8 (8 * k), List.take_add]
    · obtain ⟨j1, j2, j3⟩ := i5 hk1
      have hstep : c.wrK (f + 1) b (k + 1) = c.wrK (f + 1) b k := by
        show (if (c.wrK (f + 1) b k).2 then _ else _) = _
        rw [if_neg (by rw [j1]; decide)]
      rw [hstep]
      exact ⟨i1, i2, i3, fun hx => absurd (by omega) hk1, fun _ => ⟨j1, j2, j3⟩⟩
theorem kept_congr {c d : Ch} (hn : d.n = c.n) (hp : d.pg = c.pg) : d.kept = c.kept := by
  have hm : d.many = c.many := by unfold Ch.many; rw [hn]
  have hr : d.room = c.room := by unfold Ch.room; rw [hn]
  have hh : ∀ f, d.holds f = c.holds f := fun f => by unfold Ch.holds Ch.seg; rw [hr, hp, hm]
  unfold Ch.kept Ch.latest
  rw [hm, hh, hh]
theorem kept_power (c : Ch) : c.power.kept = c.kept := kept_congr rfl rfl
theorem kept_cut (c : Ch) (a : Int) : (c.cut a).kept = c.kept := kept_congr rfl rfl
theorem into_hv (h : c.Ok) : ∃ g, Hv c c.into g ∧ ((c.latest = 1 ∧ c.into = 0 ∧ g = c.many) ∨ (c.latest = 0 ∧ c.into = c.many ∧ g = 0)) := by
  have hm : c.many + c.many ≤ c.n := by unfold Ch.many; omega
  rcases c.latest_le with h0 | h1
  · have e : c.into = c.many := by unfold Ch.into; rw [if_neg (by omega)]
    exact ⟨0, ⟨by rw [e]; exact hm, by omega, .inl (by rw [e]; omega)⟩, .inr ⟨h0, e, rfl⟩⟩
  · have e : c.into = 0 := by unfold Ch.into; rw [if_pos h1]
    exact ⟨c.many, ⟨by rw [e]; omega, hm, .inr (by rw [e]; omega)⟩, .inl ⟨h1, e, rfl⟩⟩
/-- The new half is cleared: what was kept is kept. -/
theorem kept_clear {d : Ch} (h : c.Ok) {g : Nat} (hg : (c.latest = 1 ∧ c.into = 0 ∧ g = c.many) ∨ (c.latest = 0 ∧ c.into = c.many ∧ g = 0)) (hn : d.n = c.n) (hs1 : d.seg g = c.seg g) (hz : d.holds c.into = (0, [])) : d.kept = c.kept := by
  have hm : d.many = c.many := by unfold Ch.many; rw [hn]
  have hr : d.room = c.room := by unfold Ch.room; rw [hn]
  have hgh : d.holds g = c.holds g := by unfold Ch.holds; rw [hr, hs1]
  rcases hg with ⟨hl, hi, rfl⟩ | ⟨hl, hi, rfl⟩
  · rw [hi] at hz
    have hl' : d.latest = 1 := by unfold Ch.latest; rw [if_pos (.inl (by rw [hz]))]
    unfold Ch.kept
    rw [hl', hl, if_pos rfl, if_pos rfl, hm, hgh]
  · rw [hi] at hz
    have h0 : (c.holds 0).1 ≠ 0 := by
      intro e
      unfold Ch.latest at hl
      rw [if_pos (.inl e)] at hl
      cases hl
    have hl' : d.latest = 0 := by
      unfold Ch.latest
      rw [hm, hz, hgh, if_neg]
      intro hx
      rcases hx with hx | hx
      · exact h0 hx
      · have := nxt_pos (c.holds 0).1
        simp only at hx
        omega
    unfold Ch.kept
    rw [hl', hl, if_neg (by decide), if_neg (by decide), hgh]
/-- The new half holds what is new, with the counter behind that of what was kept: it is kept. -/
theorem kept_new {d : Ch} (h : c.Ok) {g : Nat} (hg : (c.latest = 1 ∧ c.into = 0 ∧ g = c.many) ∨ (c.latest = 0 ∧ c.into = c.many ∧ g = 0)) (hn : d.n = c.n) (hs1 : d.seg g = c.seg g) {b : List UInt8} (hz : d.holds c.into = (nxt c.kept.1, b)) : d.kept = (nxt c.kept.1, b) := by
  have hm : d.many = c.many := by unfold Ch.many; rw [hn]
  have hr : d.room = c.room := by unfold Ch.room; rw [hn]
  have hgh : d.holds g = c.holds g := by unfold Ch.holds; rw [hr, hs1]
  have hpos := nxt_pos c.kept.1
  rcases hg with ⟨hl, hi, rfl⟩ | ⟨hl, hi, rfl⟩
  · have hk : c.kept = c.holds c.many := by unfold Ch.kept; rw [hl, if_pos rfl]
    have hkl := c.kept_lt
    rw [hi] at hz
    have hl' : d.latest = 0 := by
      unfold Ch.latest
      rw [hz, hm, hgh, ← hk, if_neg]
      intro hx
      rcases hx with hx | hx
      · simp only at hx; omega
      · exact nxt_ne hkl hx.symm
    unfold Ch.kept
    rw [hl', if_neg (by decide), hz]
    show _ = (nxt (if c.latest = 1 then c.holds c.many else c.holds 0).1, b)
    rfl
  · have hk : c.kept = c.holds 0 := by unfold Ch.kept; rw [hl, if_neg (by decide)]
    rw [hi] at hz
    have hl' : d.latest = 1 := by
      unfold Ch.latest
      rw [hm, hz, hgh, if_pos]
      exact .inr (by rw [hk])
    have hz' : d.holds d.many = (nxt c.kept.1, b) := by rw [hm]; exact hz
    unfold Ch.kept at hz' ⊢
    rw [hl', if_pos rfl, hz']
/-- A Save. -/
theorem save_spec (h : c.Ok) (b : List UInt8) (hb : b.length ≤ c.room) (hd : c.dead = false) :
    (c.left < 0 ∨ ((2 + nch b : Nat) : Int) ≤ c.left → (c.save b).2 = 0 ∧ (c.save b).1.dead = false ∧ (c.save b).1.kept = (nxt c.kept.1, b) ∧ (c.left < 0 → (c.save b).1.left = c.left)) ∧
    (¬ (c.left < 0 ∨ ((2 + nch b : Nat) : Int) ≤ c.left) → (c.save b).2 = 6 ∧ (c.save b).1.dead = true ∧ (c.save b).1.kept = c.kept) := by
  obtain ⟨g, hv, hg⟩ := into_hv h
  have hl1 := h.l1
  have hmany : 2 ≤ c.many := by have := h.lo; unfold Ch.many; omega
  have hrm : c.room = 8 * (c.many - 1) := rfl
  have hrl : c.room ≤ 131072 := by have := h.hi; unfold Ch.room; omega
  have hfn : c.into < c.n := by have := hv.f1; omega
  obtain ⟨f, hf⟩ : ∃ f, c.into = f := ⟨_, rfl⟩
  have hsl := segLen h f (by rw [← hf]; exact hv.f1)
  by_cases hz : c.left = 0
  · have e1 : c.wr (c.into : Int) zero8 = (c.die, false) := wr_off h hfn hd hz _
    have es : c.save b = (c.die, 6) := by
      unfold Ch.save
      rw [if_neg (by omega), hd, e1]
      rfl
    rw [es]
    exact ⟨fun hx => absurd hx (by omega), fun _ => ⟨rfl, rfl, kept_congr rfl rfl⟩⟩
  · have e1 : c.wr (c.into : Int) zero8 = (c.put c.into zero8, true) := wr_go h hfn hd hz _
    obtain ⟨c1, hc1⟩ : ∃ c1, c.put c.into zero8 = c1 := ⟨_, rfl⟩
    rw [hc1] at e1
    have ok1 : c1.Ok := by rw [← hc1]; exact Ch.put_ok h hfn zero8_len
    have n1 : c1.n = c.n := by rw [← hc1]; rfl
    have m1 : c1.many = c.many := by unfold Ch.many; rw [n1]
    have r1 : c1.room = c.room := by unfold Ch.room; rw [n1]
    have d1 : c1.dead = false := by rw [← hc1]; exact hd
    have l1' : c1.left = if 0 < c.left then c.left - 1 else c.left := by rw [← hc1]; rfl
    have sf1 : c1.seg c.into = splice (c.seg c.into) 0 zero8 := by
      rw [← hc1]
      have := put_seg h hv.f1 (j := 0) (by omega) zero8_len
      rw [Nat.add_zero, Nat.mul_zero] at this
      exact this
    have sg1 : c1.seg g = c.seg g := by
      rw [← hc1]
      have := put_other h hv.f1 (j := 0) (by omega) hv.ap zero8_len
      rw [Nat.add_zero] at this
      exact this
    have hv1 : Hv c1 c.into g := ⟨by rw [m1, n1]; exact hv.f1, by rw [m1, n1]; exact hv.g1, by rw [m1]; exact hv.ap⟩
    obtain ⟨k1, k2, k3, k4, k5⟩ := wrK_spec ok1 hv1 b (by rw [r1]; exact hb) d1 (nch b) (Nat.le_refl _)
    rw [hf] at sf1
    have hz8 : (c1.seg f).take 8 = zero8 := by
      rw [sf1]
      unfold splice
      rw [List.take_zero, List.nil_append, List.take_append_of_le_length (by rw [zero8_len]; exact Nat.le_refl _), List.take_of_length_le (by rw [zero8_len]; exact Nat.le_refl _)]
    obtain ⟨c2, o2, hc2⟩ : ∃ c2 o2, c1.wrK (c.into + 1) b (nch b) = (c2, o2) := ⟨_, _, rfl⟩
    rw [hc2] at k1 k2 k3 k4 k5
    simp only at k1 k2 k3 k4 k5
    have m2 : c2.many = c.many := by unfold Ch.many; rw [k2, n1]
    have r2 : c2.room = c.room := by unfold Ch.room; rw [k2, n1]
    have es : c.save b = if o2 = false then (c2, 6) else ((c2.wr (c.into : Int) (head (nxt c.kept.1) b)).1, if (c2.wr (c.into : Int) (head (nxt c.kept.1) b)).2 then 0 else 6) := by
      unfold Ch.save
      rw [if_neg (by omega), hd, e1]
      simp only [hc2]
      rfl
    by_cases hk : c1.left < 0 ∨ ((nch b : Nat) : Int) ≤ c1.left
    · obtain ⟨j1, j2, j3, j4⟩ := k4 hk
      subst j1
      rw [if_neg (by decide)] at es
      have hfn2 : c.into < c2.n := by rw [k2, n1]; exact hfn
      by_cases hz2 : c2.left = 0
      · have e3 := wr_off k1 hfn2 j2 hz2 (head (nxt c.kept.1) b)
        rw [e3] at es
        rw [es]
        refine ⟨fun hx => absurd hx ?_, fun _ => ⟨rfl, rfl, ?_⟩⟩
        · rw [j3, l1'] at hz2
          split at hz2 <;> split at hz2 <;> omega
        · refine kept_clear h hg (by show c2.n = c.n; rw [k2, n1]) (by show c2.seg g = _; rw [k3, sg1]) ?_
          show hs c2.room (c2.seg c.into) = _
          refine hs_clear _ _ ?_
          rw [hf] at j4
          rw [hf, j4, splice_take 8 (Nat.le_refl _) (by rw [sf1, splice_len (by rw [zero8_len]; omega), hsl]; omega), hz8]
      · have e3 := wr_go k1 hfn2 j2 hz2 (head (nxt c.kept.1) b)
        rw [e3] at es
        rw [es]
        refine ⟨fun hx => ⟨rfl, j2, ?_, fun hneg => ?_⟩, fun hx => absurd ?_ hx⟩
        · refine kept_new h hg (by show c2.n = c.n; rw [k2, n1]) ?_ ?_
          · have := put_other k1 (f := c.into) (g := g) (j := 0) (by rw [m2, k2, n1]; exact hv.f1) (by rw [m2]; omega) (by rw [m2]; exact hv.ap) (head_len (nxt c.kept.1) b)
            rw [Nat.add_zero] at this
            rw [this, k3, sg1]
          · have hsg := put_seg k1 (f := c.into) (j := 0) (by rw [m2, k2, n1]; exact hv.f1) (by rw [m2]; omega) (head_len (nxt c.kept.1) b)
            rw [Nat.add_zero, Nat.mul_zero] at hsg
            show hs c2.room ((c2.put c.into (head (nxt c.kept.1) b)).seg c.into) = _
            have hkl := c.kept_lt
            refine hs_read _ _ _ _ (by have := nxt_pos c.kept.1; omega) (nxt_lt hkl) (by rw [r2]; exact hb) (by rw [r2]; omega) ?_ ?_
            · rw [hsg]
              unfold splice
              rw [List.take_zero, List.nil_append, List.take_append_of_le_length (by rw [head_len]; exact Nat.le_refl _), List.take_of_length_le (by rw [head_len]; exact Nat.le_refl _)]
            · rw [hsg]
              have hfl := full_len b
              have hnn : nch b = (b.length + 7) / 8 := rfl
              have hft : (full b).take (8 * nch b) = full b := List.take_of_length_le (by omega)
              rw [hft, hf] at j4
              have hs1l : (c1.seg f).length = 8 * c.many := by rw [sf1, splice_len (by rw [zero8_len]; omega), hsl]
              rw [hf, j4]
              rw [splice_apart (by rw [splice_len (by rw [hfl]; omega), head_len]; omega) 8 b.length (.inr (by rw [head_len]; omega))]
              unfold splice
              rw [List.append_assoc, List.drop_append_of_le_length (by rw [List.length_take]; omega), List.drop_eq_nil_of_le (by rw [List.length_take]; omega), List.nil_append]
              unfold full
              rw [List.append_assoc, List.take_append_of_le_length (Nat.le_refl _), List.take_of_length_le (Nat.le_refl _)]
        · show (if 0 < c2.left then c2.left - 1 else c2.left) = c.left
          rw [j3, l1', if_neg (show ¬ 0 < c.left by omega), if_pos hneg, if_neg (by omega)]
        · rw [j3, l1'] at hz2
          rw [l1'] at hk
          split at hz2 <;> split at hz2 <;> omega
    · obtain ⟨j1, j2, j3⟩ := k5 hk
      subst j1
      rw [if_pos rfl] at es
      rw [es]
      refine ⟨fun hx => absurd ?_ hk, fun _ => ⟨rfl, j2, ?_⟩⟩
      · rw [l1']
        split <;> omega
      · refine kept_clear h hg (by show c2.n = c.n; rw [k2, n1]) (by rw [k3, sg1]) ?_
        show hs c2.room (c2.seg c.into) = _
        refine hs_clear _ _ ?_
        rw [hf] at j3
        rw [hf, j3, hz8]
theorem save_long (b : List UInt8) (hb : c.room < b.length) : c.save b = (c, 2) := by unfold Ch.save; rw [if_pos hb]
theorem new_kept {n : Nat} (h1 : 4 ≤ n) : (Ch.new n).kept = (0, []) := by
  have hz : ∀ f, f + n / 2 ≤ n → (Ch.new n).holds f = (0, []) := fun f hf => by
    refine hs_clear _ _ ?_
    unfold Ch.seg Ch.new Ch.many
    simp only [List.drop_replicate, List.take_replicate]
    show List.replicate _ _ = List.replicate 8 0
    congr 1
    omega
  have hm : (Ch.new n).many = n / 2 := rfl
  have hl : (Ch.new n).latest = 1 := by unfold Ch.latest; rw [if_pos (.inl (by rw [hz 0 (by omega)]))]
  unfold Ch.kept
  rw [hl, if_pos rfl, hm, hz (n / 2) (by omega)]
theorem save_room (c : Ch) (b : List UInt8) : (c.save b).1.room = c.room := by unfold Ch.room; rw [Ch.save_n]
end
end Go.Proofs.Nv
