/- Layer 12, plain: segments, blocks, what a sender and a receiver do. -/
import Derived.Test.YtebjofkblfmkmaaBkI
import Derived.Test.YtebjofkblfmkmaaBkS
namespace Go.Proofs.Ytebjofkblfmkmaa
open Go.RowKit Go.Proofs.Ty Go.Proofs.Bits
set_option linter.unusedVariables false
set_option maxRecDepth 1000000
set_option linter.unusedSimpArgs false
/-- How many segments there are. -/
def segs (n : Nat) : Nat := max 1 ((n + 6) / 7)
theorem segs_pos (n : Nat) : 1 ≤ segs n := by unfold segs; omega
theorem segs_le (n : Nat) : segs n ≤ n / 7 + 1 := by unfold segs; omega
theorem segs_ge (n : Nat) : n ≤ 7 * segs n := by unfold segs; omega
theorem segs_sp (n : Nat) : 7 * segs n - n ≤ 7 := by unfold segs; omega
theorem segs_lo (n k : Nat) (h : k < segs n) : 7 * k ≤ n := by unfold segs at h; omega
def sgB (bs : List UInt8) (k j : Nat) : UInt8 := bs.getD (7 * k + j) 0
/-- The frame of one segment of a block that begins at c. -/
def segF (bs : List UInt8) (c i : Nat) : F8 := ⟨.ofNat (i + 1 + if c + i + 1 = segs bs.length then 128 else 0), sgB bs (c + i) 0, sgB bs (c + i) 1, sgB bs (c + i) 2, sgB bs (c + i) 3, sgB bs (c + i) 4, sgB bs (c + i) 5, sgB bs (c + i) 6⟩
def blkF (bs : List UInt8) (c size : Nat) : List F8 := (List.range (min size (segs bs.length - c))).map (segF bs c)
theorem blkF_len (bs : List UInt8) (c size : Nat) : (blkF bs c size).length = min size (segs bs.length - c) := by simp [blkF]
def endF (bs : List UInt8) : F8 := ⟨.ofNat (193 + 4 * (7 * segs bs.length - bs.length)), .ofNat (crc16 bs % 256), .ofNat (crc16 bs / 256), 0, 0, 0, 0, 0⟩
/-- A sender: how far it is (0 not begun, 1 in blocks, 2 at the end, 3 done), its bytes, how many segments came, how many the block has, its code. -/
structure Sn where
  st : Nat
  bs : List UInt8
  cm : Nat
  sn : Nat
  cd : Nat
def Sn.fin (cd : Nat) : Sn := ⟨3, [], 0, 0, cd⟩
structure Sn.Wk (s : Sn) : Prop where
  st : s.st ≤ 3
  bs : s.bs.length ≤ 65536
  cm : s.cm ≤ segs s.bs.length
  sn : s.sn ≤ 127
  cd : s.cd < 4294967296
structure Sn.Ok (s : Sn) : Prop extends Sn.Wk s where
  le : s.cm + s.sn ≤ segs s.bs.length ∨ s.st ≠ 1
def sGive (cd : Nat) : List F8 × Sn := ([frm 128 0 0 cd], .fin cd)
/-- The answer to a block. -/
def sAns (s : Sn) (a : F8) : List F8 × Sn :=
  if a.b0.toNat ≠ 162 then sGive 84148225
  else if s.sn < a.b1.toNat then sGive 84148227
  else if ¬ (1 ≤ a.b2.toNat ∧ a.b2.toNat ≤ 127) then sGive 84148226
  else if s.cm + a.b1.toNat < segs s.bs.length then (blkF s.bs (s.cm + a.b1.toNat) a.b2.toNat, ⟨1, s.bs, s.cm + a.b1.toNat, min a.b2.toNat (segs s.bs.length - (s.cm + a.b1.toNat)), s.cd⟩)
  else ([endF s.bs], ⟨2, s.bs, s.cm + a.b1.toNat, s.sn, s.cd⟩)
def sFeed (s : Sn) (a : F8) : List F8 × Sn :=
  if s.st = 0 ∨ s.st = 3 then ([], s)
  else if a.b0.toNat / 32 = 4 then ([], .fin (num4 a))
  else if s.st = 1 then sAns s a
  else if a.b0.toNat ≠ 161 then sGive 84148225
  else ([], .fin 0)
theorem Sn.fin_ok (cd : Nat) (h : cd < 4294967296) : (Sn.fin cd).Ok := ⟨⟨by simp [Sn.fin], by simp [Sn.fin], by simp [Sn.fin], by simp [Sn.fin], h⟩, .inr (by simp [Sn.fin])⟩
theorem sAns_ok (s : Sn) (a : F8) (h : s.Ok) (h1 : s.st = 1) : (sAns s a).2.Ok := by
  have := h.bs
  have hl : s.cm + s.sn ≤ segs s.bs.length := h.le.resolve_right (fun e => e h1)
  have hc := h.cm
  have hs := h.sn
  unfold sAns
  repeat' split
  · exact Sn.fin_ok _ (by decide)
  · exact Sn.fin_ok _ (by decide)
  · exact Sn.fin_ok _ (by decide)
  · refine ⟨⟨by simp, h.bs, by simp; omega, ?_, h.cd⟩, ?_⟩
    · show min _ _ ≤ 127
      omega
    · left
      show s.cm + a.b1.toNat + min a.b2.toNat (segs s.bs.length - (s.cm + a.b1.toNat)) ≤ segs s.bs.length
      omega
  · refine ⟨⟨by simp, h.bs, ?_, hs, h.cd⟩, .inr (by simp)⟩
    show s.cm + a.b1.toNat ≤ segs s.bs.length
    omega
theorem sFeed_ok (s : Sn) (a : F8) (h : s.Ok) : (sFeed s a).2.Ok := by
  unfold sFeed
  repeat' split
  · exact h
  · exact Sn.fin_ok _ (num4_lt a)
  · exact sAns_ok s a h ‹_›
  · exact Sn.fin_ok _ (by decide)
  · exact Sn.fin_ok _ (by decide)
/-- A receiver: how far it is (1 in blocks, 2 at the end, 3 done), its blocks' size, what came, how many of this block, its code. -/
structure Rc where
  st : Nat
  sz : Nat
  bs : List UInt8
  cm : Nat
  cd : Nat
def Rc.fin (cd : Nat) (b : List UInt8) : Rc := ⟨3, 0, b, 0, cd⟩
structure Rc.Wk (r : Rc) : Prop where
  st : 1 ≤ r.st ∧ r.st ≤ 3
  sz : r.sz ≤ 127
  bl : r.bs.length ≤ 70000
  cm : r.cm ≤ 127
  cd : r.cd < 4294967296
structure Rc.Ok (r : Rc) : Prop extends Rc.Wk r where
  bs : r.bs.length ≤ 65543
  lt : r.st = 1 → r.cm < r.sz
  seven : r.st = 2 → 7 ≤ r.bs.length
/-- The answer to a block. -/
def rAns (cm sz : Nat) : F8 := ⟨162, .ofNat cm, .ofNat sz, 0, 0, 0, 0, 0⟩
def rGive (cd : Nat) : Option F8 × Rc := (some (frm 128 0 0 cd), .fin cd [])
def rTake (r : Rc) (f : F8) : Option F8 × Rc :=
  if f.b0.toNat % 128 ≠ r.cm + 1 then (none, r)
  else if 65543 < r.bs.length + 7 then rGive 84148229
  else if 128 ≤ f.b0.toNat then (some (rAns (r.cm + 1) r.sz), ⟨2, r.sz, r.bs ++ f.l.drop 1, r.cm + 1, r.cd⟩)
  else if r.cm + 1 = r.sz then (some (rAns (r.cm + 1) r.sz), ⟨1, r.sz, r.bs ++ f.l.drop 1, 0, r.cd⟩)
  else (none, ⟨1, r.sz, r.bs ++ f.l.drop 1, r.cm + 1, r.cd⟩)
def rEnd (r : Rc) (f : F8) : Option F8 × Rc :=
  if 65536 < r.bs.length - f.b0.toNat / 4 % 8 ∨ crc16 (r.bs.take (r.bs.length - f.b0.toNat / 4 % 8)) ≠ f.b1.toNat + 256 * f.b2.toNat then rGive 84148228
  else (some (frm 161 0 0 0), .fin 0 (r.bs.take (r.bs.length - f.b0.toNat / 4 % 8)))
def rFeed (r : Rc) (f : F8) : Option F8 × Rc :=
  if r.st = 1 then rTake r f
  else if r.st = 2 ∧ f.b0.toNat / 32 = 4 then (none, .fin (num4 f) [])
  else if r.st = 2 ∧ f.b0.toNat / 32 = 6 ∧ f.b0.toNat % 2 = 1 then rEnd r f
  else (none, r)
def rAsk (r : Rc) : Option F8 × Rc :=
  if r.st = 3 then (none, r)
  else (some (rAns r.cm r.sz), ⟨r.st, r.sz, r.bs, if r.st = 1 then 0 else r.cm, r.cd⟩)
theorem Rc.fin_ok (cd : Nat) (b : List UInt8) (h : cd < 4294967296) (hb : b.length ≤ 65543) : (Rc.fin cd b).Ok := ⟨⟨by simp [Rc.fin], by simp [Rc.fin], by simp [Rc.fin]; omega, by simp [Rc.fin], h⟩, hb, by simp [Rc.fin], by simp [Rc.fin]⟩
theorem F8.seven (f : F8) : (f.l.drop 1).length = 7 := rfl
theorem rTake_ok (r : Rc) (f : F8) (h : r.Ok) (h1 : r.st = 1) : (rTake r f).2.Ok := by
  have := h.lt h1
  have := h.sz
  have := f.seven
  unfold rTake
  repeat' split
  · exact h
  · exact Rc.fin_ok _ _ (by decide) (by simp)
  all_goals refine ⟨⟨by simp, h.sz, by simp only [List.length_append]; omega, ?_, h.cd⟩, by simp only [List.length_append]; omega, ?_, ?_⟩
  all_goals (dsimp only; first | omega | (intro _; omega) | (intro _; rw [List.length_append]; omega))
theorem rFeed_ok (r : Rc) (f : F8) (h : r.Ok) : (rFeed r f).2.Ok := by
  unfold rFeed
  repeat' split
  · exact rTake_ok r f h ‹_›
  · exact Rc.fin_ok _ _ (num4_lt f) (by simp)
  · unfold rEnd
    split
    · exact Rc.fin_ok _ _ (by decide) (by simp)
    · exact Rc.fin_ok _ _ (by decide) (by have := h.bs; rw [List.length_take]; omega)
  · exact h
theorem rAsk_wk (r : Rc) (h : r.Wk) : (rAsk r).2.Wk := by
  unfold rAsk
  split
  · exact h
  · refine ⟨h.st, h.sz, h.bl, ?_, h.cd⟩
    have := h.cm
    show (if r.st = 1 then 0 else r.cm) ≤ 127
    split <;> omega
theorem rAsk_ok (r : Rc) (h : r.Ok) : (rAsk r).2.Ok := by
  unfold rAsk
  split
  · exact h
  · rename_i h3
    have := h.st
    by_cases h1 : r.st = 1
    · have := h.lt h1
      refine ⟨⟨h.st, h.sz, h.bl, by simp [h1], h.cd⟩, h.bs, ?_, h.seven⟩
      intro _
      simp [h1]
      omega
    · refine ⟨⟨h.st, h.sz, h.bl, by simp [h1]; exact h.cm, h.cd⟩, h.bs, fun e => absurd e h1, h.seven⟩
/-- What is answered, as two values. -/
def ansV (o : Option F8) : Value := .tuple #[.agg (o.getD F8.nul).arr, .bool o.isSome]
end Go.Proofs.Ytebjofkblfmkmaa
