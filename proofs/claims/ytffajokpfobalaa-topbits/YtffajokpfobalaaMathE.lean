/- A frame's bits are read as that frame: plain facts. -/
import Derived.Test.YtffajokpfobalaaDec
import Derived.Test.YtffajokpfobalaaPla
namespace Go.Proofs.Ytffajokpfobalaa
open Go.RowKit Go.Proofs.Bits
set_option linter.unusedVariables false
set_option maxRecDepth 1000000

/-- Where a reader stands that has read the stuffed bits l. -/
def R (l : List UInt8) : RS := ⟨(stuff l).length, (st l).2.1, (st l).2.2, l⟩
theorem R_nil : R [] = Bits.start := rfl
theorem stuff_snoc (l : List UInt8) (c : UInt8) : stuff (l ++ [c]) = stuff l ++ (if cnt (st l) c = 5 then [c, oth c] else [c]) := by
  show (st (l ++ [c])).1 = (st l).1 ++ _
  rw [st_snoc]
  by_cases h : cnt (st l) c = 5
  · rw [stStep_full h, if_pos h]; simp
  · rw [stStep_open h, if_neg h]
theorem get_pre {a b t : List UInt8} (h : a ++ b <+: t) (i : Nat) (hi : i < b.length) : t[a.length + i]? = some b[i] := by
  obtain ⟨r, rfl⟩ := h
  rw [List.append_assoc, List.getElem?_append_right (by omega), List.getElem?_append_left (by omega)]
  simp
theorem bitS_R {t l : List UInt8} {c : UInt8} (h : stuff (l ++ [c]) <+: t) : bitS t (R l) = .ok (c, R (l ++ [c])) := by
  rw [stuff_snoc] at h
  have hr : rowR (R l) c = cnt (st l) c := rfl
  by_cases h5 : cnt (st l) c = 5
  · rw [if_pos h5] at h
    have g0 := get_pre h 0 (by simp)
    have g1 := get_pre h 1 (by simp)
    simp only [Nat.add_zero, List.getElem_cons_zero, List.getElem_cons_succ] at g0 g1
    have g0' : t[(R l).pos]? = some c := g0
    have g1' : t[(R l).pos + 1]? = some (oth c) := g1
    unfold bitS
    rw [g0']
    simp only [hr, if_pos h5, g1', if_neg (oth_ne c)]
    simp only [R, st_snoc, stStep_full h5, stuff_snoc, if_pos h5]
    simp
  · rw [if_neg h5] at h
    have g0 := get_pre h 0 (by simp)
    simp only [Nat.add_zero, List.getElem_cons_zero] at g0
    have g0' : t[(R l).pos]? = some c := g0
    unfold bitS
    rw [g0']
    simp only [hr, if_neg h5]
    simp only [R, st_snoc, stStep_open h5, stuff_snoc, if_neg h5]
    simp
theorem stuff_pre (l m : List UInt8) : stuff l <+: stuff (l ++ m) := by
  induction m using snoc_ind with
  | h0 => simp
  | h1 m c ih =>
    rw [← List.append_assoc, stuff_snoc]
    exact ih.trans (List.prefix_append _ _)
theorem takeS_R {t : List UInt8} (bs : List UInt8) : ∀ (l : List UInt8), stuff (l ++ bs) <+: t → takeS t bs.length (R l) = .ok (bs, R (l ++ bs)) := by
  induction bs using snoc_ind with
  | h0 => intro l h; simp [takeS, retR]
  | h1 bs c ih =>
    intro l h
    rw [List.length_append, List.length_singleton]
    have h1 := ih l (by
      rw [← List.append_assoc] at h
      exact (stuff_pre _ _).trans h)
    have h2 := bitS_R (t := t) (l := l ++ bs) (c := c) (by rw [List.append_assoc]; exact h)
    rw [takeS_next h1 h2, List.append_assoc]
theorem takeS_n {t : List UInt8} {n : Nat} {bs l : List UInt8} (hn : bs.length = n) (h : stuff (l ++ bs) <+: t) : takeS t n (R l) = .ok (bs, R (l ++ bs)) := by
  subst hn; exact takeS_R bs l h
theorem val_num (n w : Nat) (h : n < 2 ^ w) : val (numL n w) = n := by rw [numL_val, Nat.mod_eq_of_lt h]
theorem pre_of {a b t : List UInt8} (h : stuff (a ++ b) <+: t) : stuff a <+: t := (stuff_pre a b).trans h
theorem flag_bit (b : Bool) : decide ((if b then (49 : UInt8) else 48) = 49) = b := by cases b <;> rfl
theorem flagV_one (b : Bool) : flagV b = [if b then 49 else 48] := by cases b <;> rfl

theorem fieldS_R {t : List UInt8} (f : Fr) (h0 : f.chk = 0) (h : stuff ([48] ++ f.field ++ [48] ++ (if f.ext then [48] else [])) <+: t) :
    fieldS t (R [48]) = .ok ((f.id, f.ext, f.rem), R ([48] ++ f.field ++ [48] ++ (if f.ext then [48] else []))) := by
  obtain ⟨p1, p2, p3, p4⟩ := chk_parts h0
  cases hx : f.ext
  · have p4 := p4 hx
    have hf : f.field = numL f.id 11 ++ [if f.rem then 49 else 48] ++ [48] := by rw [Fr.field, hx]; simp [flagV_one]
    rw [hf, hx] at h
    simp only [Bool.false_eq_true, if_false, List.append_nil] at h
    rw [hf]
    simp only [Bool.false_eq_true, if_false, List.append_nil]
    have e : ∀ (a b c d e : List UInt8), a ++ (b ++ c ++ d) ++ e = a ++ b ++ c ++ d ++ e := by intros; simp
    rw [e] at h ⊢
    have a1 := takeS_n (l := [48]) (numL_length f.id 11) (pre_of (pre_of (pre_of h)))
    have a2 := bitS_R (pre_of (pre_of h))
    have a3 := bitS_R (pre_of h)
    have a4 := bitS_R h
    rw [fieldS, bindR_ok a1, bindR_ok a2, bindR_ok a3]
    rw [if_neg (by decide), bindR_ok a4]
    simp only [retR, val_num f.id 11 p4, flag_bit]
  · have hf : f.field = numL (f.id / 262144) 11 ++ [49] ++ [49] ++ numL (f.id % 262144) 18 ++ [if f.rem then 49 else 48] := by rw [Fr.field, hx]; simp [flagV_one]
    rw [hf, hx] at h
    simp only [if_true] at h
    rw [hf]
    simp only [if_true]
    have e : ∀ (a b c d e f g h : List UInt8), a ++ (b ++ c ++ d ++ e ++ f) ++ g ++ h = a ++ b ++ c ++ d ++ e ++ f ++ g ++ h := by intros; simp
    rw [e] at h ⊢
    have a1 := takeS_n (l := [48]) (numL_length (f.id / 262144) 11) (pre_of (pre_of (pre_of (pre_of (pre_of (pre_of (pre_of h)))))))
    have a2 := bitS_R (pre_of (pre_of (pre_of (pre_of (pre_of h)))))
    have a3 := bitS_R (pre_of (pre_of (pre_of (pre_of h))))
    have a4 := takeS_n (numL_length (f.id % 262144) 18) (pre_of (pre_of (pre_of h)))
    have a5 := bitS_R (pre_of (pre_of h))
    have a6 := bitS_R (pre_of h)
    have a7 := bitS_R h
    rw [fieldS, bindR_ok a1, bindR_ok a2, bindR_ok a3]
    rw [if_pos rfl, bindR_ok a4, bindR_ok a5, bindR_ok a6, bindR_ok a7]
    simp only [retR, val_num (f.id / 262144) 11 (by omega), val_num (f.id % 262144) 18 (by omega), flag_bit]
    rw [show f.id / 262144 * 262144 + f.id % 262144 = f.id by omega]

theorem bytesS_R {t : List UInt8} (ds : List UInt8) : ∀ l : List UInt8, stuff (l ++ bytesL ds) <+: t → bytesS t ds.length (R l) = .ok (ds, R (l ++ bytesL ds)) := by
  induction ds using snoc_ind with
  | h0 => intro l h; simp [bytesS, retR, bytesL]
  | h1 ds c ih =>
    intro l h
    rw [bytesL_snoc, ← List.append_assoc] at h
    rw [List.length_append, List.length_singleton]
    have h1 := ih l (pre_of h)
    have h2 := takeS_n (numL_length c.toNat 8) h
    rw [bytesS_next h1 h2, val_num c.toNat 8 c.toNat_lt, bytesL_snoc, List.append_assoc]
    simp
/-- What a frame's bits tell of it. -/
def Fr.told (f : Fr) : Bits.Told := ⟨f.id, f.ext, f.rem, f.len.toNat, f.data.take f.bytes⟩
theorem nOf_bytes (f : Fr) (h0 : f.chk = 0) : nOf f.rem f.len.toNat = f.bytes := by
  obtain ⟨p1, p2, p3, p4⟩ := chk_parts h0
  unfold nOf Fr.bytes
  cases f.rem
  · simp only [Bool.false_eq_true, if_false, Bool.false_or, decide_eq_true_eq]
    rw [if_neg (by omega)]
    split <;> omega
  · simp
theorem bodyS_R {t : List UInt8} (f : Fr) (h0 : f.chk = 0) (h : stuff f.body <+: t) : bodyS t Bits.start = .ok (f.told, R f.body) := by
  obtain ⟨p1, p2, p3, p4⟩ := chk_parts h0
  have hlen : f.len.toNat < 2 ^ 4 := by omega
  have hb : f.body = [48] ++ f.field ++ [48] ++ (if f.ext then [48] else []) ++ numL f.len.toNat 4 ++ bytesL (f.data.take f.bytes) ++ numL (crc f.head) 15 := rfl
  have hh : f.head = [48] ++ f.field ++ [48] ++ (if f.ext then [48] else []) ++ numL f.len.toNat 4 ++ bytesL (f.data.take f.bytes) := rfl
  rw [hb] at h
  have hdl : (f.data.take f.bytes).length = f.bytes := by rw [List.length_take, f.hdata]; exact Nat.min_eq_left f.bytes_le
  have q1 := pre_of h
  have q2 := pre_of q1
  have q3 := pre_of q2
  have a0 : bitS t (R []) = .ok (48, R ([] ++ [48])) := bitS_R (by
    have : stuff ([48] ++ (f.field ++ [48] ++ (if f.ext then [48] else []))) <+: t := by simpa [List.append_assoc] using q3
    exact pre_of this)
  rw [R_nil] at a0
  have a1 := fieldS_R f h0 q3
  have a2 := takeS_n (numL_length f.len.toNat 4) q2
  have a3 := bytesS_R _ _ q1
  rw [hdl] at a3
  have a4 := takeS_n (numL_length (crc f.head) 15) h
  rw [bodyS, bindR_ok a0]
  rw [if_neg (by decide), List.nil_append, bindR_ok a1, bindR_ok a2]
  simp only [val_num _ _ hlen, nOf_bytes f h0]
  rw [bindR_ok a3, sumS, bindR_ok a4]
  rw [val_num _ 15 (crc_lt _)]
  have e : (R ([48] ++ f.field ++ [48] ++ (if f.ext then [48] else []) ++ numL f.len.toNat 4 ++ bytesL (f.data.take f.bytes))).seen = f.head := rfl
  rw [e, if_pos rfl, hb]
  rfl
theorem fixS_at {t : List UInt8} {s : RS} {lv : UInt8} {er : Int} (h : t[s.pos]? = some lv) : fixS t lv er s = .ok ((), { s with pos := s.pos + 1 }) := by simp [fixS, h]
theorem endS_R {t B : List UInt8} {s : RS} (hp : s.pos = B.length) (h : B ++ [49, 48, 49, 49, 49, 49, 49, 49, 49, 49] <+: t) : endS t s = .ok ((), { s with pos := B.length + 10 }) := by
  have g : ∀ i (hi : i < 10), t[s.pos + i]? = some ([49, 48, 49, 49, 49, 49, 49, 49, 49, 49][i]'hi) := by
    intro i hi
    rw [hp]
    exact get_pre h i hi
  obtain ⟨p, lv, rw_, sn⟩ := s
  simp only at hp g
  subst hp
  have f0 : fixS t 49 22 ⟨B.length, lv, rw_, sn⟩ = _ := fixS_at (g 0 (by decide))
  have f1 : fixS t 48 23 ⟨B.length + 1, lv, rw_, sn⟩ = _ := fixS_at (g 1 (by decide))
  have f2 : fixS t 49 22 ⟨B.length + 2, lv, rw_, sn⟩ = _ := fixS_at (g 2 (by decide))
  have f3 : fixS t 49 22 ⟨B.length + 3, lv, rw_, sn⟩ = _ := fixS_at (g 3 (by decide))
  have f4 : fixS t 49 22 ⟨B.length + 4, lv, rw_, sn⟩ = _ := fixS_at (g 4 (by decide))
  have f5 : fixS t 49 22 ⟨B.length + 5, lv, rw_, sn⟩ = _ := fixS_at (g 5 (by decide))
  have f6 : fixS t 49 22 ⟨B.length + 6, lv, rw_, sn⟩ = _ := fixS_at (g 6 (by decide))
  have f7 : fixS t 49 22 ⟨B.length + 7, lv, rw_, sn⟩ = _ := fixS_at (g 7 (by decide))
  have f8 : fixS t 49 22 ⟨B.length + 8, lv, rw_, sn⟩ = _ := fixS_at (g 8 (by decide))
  have f9 : fixS t 49 22 ⟨B.length + 9, lv, rw_, sn⟩ = _ := fixS_at (g 9 (by decide))
  rw [endS, bindR_ok f0, bindR_ok f1]
  exact fixN_next (fixN_next (fixN_next (fixN_next (fixN_next (fixN_next (fixN_next (fixN_next rfl f2) f3) f4) f5) f6) f7) f8) f9
theorem decS_R {t : List UInt8} (f : Fr) (h0 : f.chk = 0) (h : f.bits true <+: t) : decS t = .ok (f.told, { R f.body with pos := (f.bits true).length }) := by
  have hb : f.bits true = stuff f.body ++ [49, 48, 49, 49, 49, 49, 49, 49, 49, 49] := by simp [Fr.bits, flagV]
  rw [hb] at h
  have a1 := bodyS_R f h0 ((List.prefix_append _ _).trans h)
  have a2 := endS_R (s := R f.body) (B := stuff f.body) rfl h
  rw [decS, bindR_ok a1, bindR_ok a2, hb]
  simp [retR]
theorem told_plain (f : Fr) (h0 : f.chk = 0) : toldF f.told = (f.cut f.bytes f.bytes_le) := by
  obtain ⟨p1, p2, p3, p4⟩ := chk_parts h0
  have hb := f.bytes_le
  have hdl : (f.data.take f.bytes).length = f.bytes := by rw [List.length_take, f.hdata]; exact Nat.min_eq_left f.bytes_le
  have hid := f.hid
  rw [toldF_pos (f := f.told) ⟨hid, by show f.len.toNat < _; omega, by show (f.data.take f.bytes).length ≤ 8; omega⟩]
  have hl : ((f.len.toNat : Nat) : Int) = f.len := by omega
  simp only [Fr.told, Fr.cut, hdl, hl]
end Go.Proofs.Ytffajokpfobalaa
