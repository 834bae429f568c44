/- Plain: where one byte comes as another one. -/
import Derived.Test.YtebjofkblfmkmaaBkG1
import Derived.Test.YtebjofkblfmkmaaBkT1
namespace Go.Proofs.Ytebjofkblfmkmaa
open Go.RowKit Go.Proofs.Ty Go.Proofs.Bits
set_option linter.unusedVariables false
set_option maxRecDepth 1000000
set_option linter.unusedSimpArgs false
/-- One byte behind the first is put together with another. -/
def F8.chg (f : F8) (j : Nat) (y : UInt8) : F8 :=
  match j with
  | 0 => ⟨f.b0, f.b1 ^^^ y, f.b2, f.b3, f.b4, f.b5, f.b6, f.b7⟩
  | 1 => ⟨f.b0, f.b1, f.b2 ^^^ y, f.b3, f.b4, f.b5, f.b6, f.b7⟩
  | 2 => ⟨f.b0, f.b1, f.b2, f.b3 ^^^ y, f.b4, f.b5, f.b6, f.b7⟩
  | 3 => ⟨f.b0, f.b1, f.b2, f.b3, f.b4 ^^^ y, f.b5, f.b6, f.b7⟩
  | 4 => ⟨f.b0, f.b1, f.b2, f.b3, f.b4, f.b5 ^^^ y, f.b6, f.b7⟩
  | 5 => ⟨f.b0, f.b1, f.b2, f.b3, f.b4, f.b5, f.b6 ^^^ y, f.b7⟩
  | _ => ⟨f.b0, f.b1, f.b2, f.b3, f.b4, f.b5, f.b6, f.b7 ^^^ y⟩
theorem F8.chg_b0 (f : F8) (j : Nat) (y : UInt8) : (f.chg j y).b0 = f.b0 := by
  unfold F8.chg
  split <;> rfl
theorem F8.chg_l (f : F8) (j : Nat) (y : UInt8) (hj : j < 7) : (f.chg j y).l.drop 1 = (f.l.drop 1).set j ((f.l.drop 1).getD j 0 ^^^ y) := by
  match j, hj with
  | 0, _ => rfl
  | 1, _ => rfl
  | 2, _ => rfl
  | 3, _ => rfl
  | 4, _ => rfl
  | 5, _ => rfl
  | 6, _ => rfl
/-- What comes of the frame number k. -/
def gK (K j : Nat) (y : UInt8) (k : Nat) (f : F8) : F8 := if k = K ∧ f.b0.toNat < 193 then f.chg j y else f
theorem gK_b0 (K j : Nat) (y : UInt8) (k : Nat) (f : F8) : (gK K j y k f).b0 = f.b0 := by
  unfold gK
  split
  · exact f.chg_b0 j y
  · rfl
/-- The bytes that come, filled up. -/
def pdF (bs : List UInt8) (K j : Nat) (y : UInt8) : List UInt8 :=
  if K < segs bs.length ∧ (segF bs (127 * (K / 127)) (K % 127)).b0.toNat < 193 then (pad bs).set (7 * K + j) (sgB bs K j ^^^ y) else pad bs
theorem pdF_len (bs : List UInt8) (K j : Nat) (y : UInt8) : (pdF bs K j y).length = 7 * segs bs.length := by
  unfold pdF
  split
  · rw [List.length_set, pad_len]
  · exact pad_len bs
theorem seg_getD (bs : List UInt8) (c i j : Nat) (hj : j < 7) : ((segF bs c i).l.drop 1).getD j 0 = sgB bs (c + i) j := by
  rw [seg_l]
  match j, hj with
  | 0, _ => rfl
  | 1, _ => rfl
  | 2, _ => rfl
  | 3, _ => rfl
  | 4, _ => rfl
  | 5, _ => rfl
  | 6, _ => rfl
theorem pdF_step (bs : List UInt8) (K j : Nat) (y : UInt8) (hj : j < 7) (n i : Nat) (hi : i < 127) (hc : 127 * n + i < segs bs.length) :
    (pdF bs K j y).take (7 * (127 * n + i)) ++ (gK K j y (127 * n + i) (segF bs (127 * n) i)).l.drop 1 = (pdF bs K j y).take (7 * (127 * n + i + 1)) := by
  have hps := pad_step bs (127 * n) i hc
  have hpl := pad_len bs
  obtain ⟨q, hq⟩ : ∃ q, 127 * n + i = q := ⟨_, rfl⟩
  have hKi : q = K → segF bs (127 * (K / 127)) (K % 127) = segF bs (127 * n) i := fun e => by
    have e1 : K / 127 = n := by omega
    have e2 : K % 127 = i := by omega
    rw [e1, e2]
  unfold pdF
  by_cases hch : K < segs bs.length ∧ (segF bs (127 * (K / 127)) (K % 127)).b0.toNat < 193
  · rw [if_pos hch, List.take_set, List.take_set]
    rw [hq] at hps ⊢
    have hl7 : ((pad bs).take (7 * q)).length = 7 * q := by rw [List.length_take, hpl]; omega
    rw [← hps]
    by_cases hk : q = K
    · have hg : gK K j y q (segF bs (127 * n) i) = (segF bs (127 * n) i).chg j y := by
        unfold gK
        rw [if_pos ⟨hk, by rw [← hKi hk]; exact hch.2⟩]
      rw [hg, F8.chg_l _ _ _ hj, seg_getD _ _ _ _ hj, hq, List.set_append, if_neg (by rw [hl7]; omega), hl7]
      rw [List.set_eq_of_length_le (by rw [hl7]; omega)]
      rw [show 7 * K + j - 7 * q = j by omega, hk]
    · have hg : gK K j y q (segF bs (127 * n) i) = segF bs (127 * n) i := by
        unfold gK
        rw [if_neg (fun h => hk h.1)]
      rw [hg, List.set_append]
      by_cases hlt : 7 * K + j < 7 * q
      · rw [if_pos (by rw [hl7]; exact hlt)]
      · rw [if_neg (by rw [hl7]; exact hlt), hl7, List.set_eq_of_length_le (by rw [hl7]; omega)]
        congr 1
        rw [List.set_eq_of_length_le]
        show 7 ≤ _
        omega
  · rw [if_neg hch]
    have hg : gK K j y (127 * n + i) (segF bs (127 * n) i) = segF bs (127 * n) i := by
      unfold gK
      rw [if_neg]
      rintro ⟨h1, h2⟩
      rw [hq] at h1
      exact hch ⟨by omega, by rw [hKi h1]; exact h2⟩
    rw [hg]
    exact hps
/-- The receiver when i of a block at c were taken. -/
def rT (G : Nat) (pd : List UInt8) (c j : Nat) : Rc :=
  if c + j = G then ⟨2, 127, pd, j, 0⟩ else if j = 127 then ⟨1, 127, pd.take (7 * (c + j)), 0, 0⟩ else ⟨1, 127, pd.take (7 * (c + j)), j, 0⟩
theorem rT_ok (G : Nat) (pd : List UInt8) (c j : Nat) (hp : pd.length = 7 * G) (h65 : 7 * G ≤ 65543) (hG : 1 ≤ G) (hj : j ≤ 127) : (rT G pd c j).Ok := by
  have ht : (pd.take (7 * (c + j))).length ≤ 65543 := by rw [List.length_take]; omega
  unfold rT
  split
  · exact ⟨⟨by simp, by simp, by show pd.length ≤ 70000; omega, hj, by simp⟩, by show pd.length ≤ 65543; omega, by simp, fun _ => by show 7 ≤ pd.length; omega⟩
  · split
    · exact ⟨⟨by simp, by simp, by show (pd.take _).length ≤ 70000; omega, by simp, by simp⟩, ht, fun _ => by simp, by simp⟩
    · exact ⟨⟨by simp, by simp, by show (pd.take _).length ≤ 70000; omega, hj, by simp⟩, ht, fun _ => by show j < 127; omega, by simp⟩
theorem feed_nextT (G : Nat) (pd : List UInt8) (c j : Nat) (g : F8) (hb : g.b0.toNat = j + 1 + if c + j + 1 = G then 128 else 0) (hst : pd.take (7 * (c + j)) ++ g.l.drop 1 = pd.take (7 * (c + j + 1))) (hp : pd.length = 7 * G) (h65 : 7 * G ≤ 65543) (hj : j < 127) (hc : c + j < G) :
    rFeed (rT G pd c j) g = (if c + j + 1 = G ∨ j + 1 = 127 then some (rAns (j + 1) 127) else none, rT G pd c (j + 1)) := by
  have e0 : rT G pd c j = ⟨1, 127, pd.take (7 * (c + j)), j, 0⟩ := by
    unfold rT
    rw [if_neg (by omega), if_neg (by omega)]
  have hln : (pd.take (7 * (c + j))).length = 7 * (c + j) := by rw [List.length_take]; omega
  rw [e0]
  unfold rFeed rTake
  rw [if_pos rfl, if_neg (by rw [hb]; simp only []; split <;> omega), if_neg (by simp only [hln]; omega)]
  by_cases hlast : c + j + 1 = G
  · rw [if_pos hlast] at hb
    rw [if_pos (by omega), if_pos (.inl hlast)]
    simp only []
    rw [hst, hlast, List.take_of_length_le (by omega)]
    congr 1
    unfold rT
    rw [if_pos (by omega)]
  · rw [if_neg hlast] at hb
    rw [if_neg (by omega)]
    simp only []
    by_cases hfull : j + 1 = 127
    · rw [if_pos hfull, if_pos (.inr hfull), hst]
      congr 1
      unfold rT
      rw [if_neg (by omega), if_pos hfull]
      simp [Nat.add_assoc]
    · rw [if_neg hfull, if_neg (by omega), hst]
      congr 1
      unfold rT
      rw [if_neg (by omega), if_neg hfull]
      simp [Nat.add_assoc]
theorem pad_take (bs : List UInt8) : (pad bs).take bs.length = bs := by unfold pad; rw [List.take_left]
/-- The end. -/
theorem feed_endT (bs : List UInt8) (hl : bs.length ≤ 65536) (K j : Nat) (y : UInt8) (hj : j < 7) (cm : Nat) :
    (rFeed ⟨2, 127, pdF bs K j y, cm, 0⟩ (endF bs)).2 = .fin 0 bs ∨ ((rFeed ⟨2, 127, pdF bs K j y, cm, 0⟩ (endF bs)).2 = .fin 84148228 [] ∧ y ≠ 0) := by
  have hsp := segs_sp bs.length
  have hge := segs_ge bs.length
  have hcl := crc16_lt bs
  have e0 : (endF bs).b0.toNat = 193 + 4 * (7 * segs bs.length - bs.length) := by
    show (UInt8.ofNat _).toNat = _
    simp
    omega
  have e1 : (endF bs).b1.toNat = crc16 bs % 256 := by
    show (UInt8.ofNat _).toNat = _
    simp
  have e2 : (endF bs).b2.toNat = crc16 bs / 256 := by
    show (UInt8.ofNat _).toNat = _
    simp
    omega
  have en : (pdF bs K j y).length - (endF bs).b0.toNat / 4 % 8 = bs.length := by rw [pdF_len, e0]; omega
  have e3 : rFeed ⟨2, 127, pdF bs K j y, cm, 0⟩ (endF bs) = if crc16 ((pdF bs K j y).take bs.length) ≠ crc16 bs then rGive 84148228 else (some (frm 161 0 0 0), .fin 0 ((pdF bs K j y).take bs.length)) := by
    unfold rFeed
    rw [if_neg (by simp), if_neg (by rw [e0]; simp only []; omega), if_pos ⟨rfl, by rw [e0]; omega, by rw [e0]; omega⟩]
    unfold rEnd
    simp only []
    rw [en, e1, e2, show crc16 bs % 256 + 256 * (crc16 bs / 256) = crc16 bs by omega]
    by_cases h : crc16 ((pdF bs K j y).take bs.length) = crc16 bs
    · rw [if_neg (by intro hh; rcases hh with hh | hh; omega; exact hh h), if_neg (by simpa using h)]
    · rw [if_pos (.inr h), if_pos h]
  have same : (pdF bs K j y).take bs.length = bs → (rFeed ⟨2, 127, pdF bs K j y, cm, 0⟩ (endF bs)).2 = .fin 0 bs := fun e => by
    rw [e3, e, if_neg (by simp)]
  by_cases hch : K < segs bs.length ∧ (segF bs (127 * (K / 127)) (K % 127)).b0.toNat < 193
  · have ep : (pdF bs K j y).take bs.length = bs.set (7 * K + j) (sgB bs K j ^^^ y) := by
      unfold pdF
      rw [if_pos hch, List.take_set, pad_take]
    by_cases hP : 7 * K + j < bs.length
    · have ev : sgB bs K j = bs[7 * K + j] := by
        unfold sgB
        rw [List.getD_eq_getElem?_getD, List.getElem?_eq_getElem hP]
        rfl
      by_cases hy : y = 0
      · left
        apply same
        rw [ep, ev, hy]
        simp
      · right
        refine ⟨?_, hy⟩
        rw [e3, if_pos]
        · rfl
        · intro hcr
          rw [ep, List.set_eq_take_append_cons_drop, if_pos hP] at hcr
          have hb : bs = bs.take (7 * K + j) ++ bs[7 * K + j] :: bs.drop (7 * K + j + 1) := by
            rw [← List.drop_eq_getElem_cons hP, List.take_append_drop]
          have h2 := hcr.trans (congrArg crc16 hb)
          have := crc16_one _ _ _ _ h2
          rw [ev] at this
          apply hy
          have h3 := congrArg (fun z => bs[7 * K + j] ^^^ z) this
          simpa [← UInt8.xor_assoc] using h3
    · left
      apply same
      rw [ep, List.set_eq_of_length_le (by omega)]
  · left
    apply same
    unfold pdF
    rw [if_neg hch, pad_take]
/-- Where a block stands, and what comes to be sent. -/
def Tp (bs pd : List UInt8) (n : Nat) (s : Sn) (r : Rc) (L : List F8) (k : Nat) : Prop :=
  (127 * n < segs bs.length ∧ s = ⟨1, bs, 127 * n, min 127 (segs bs.length - 127 * n), 0⟩ ∧ r = rT (segs bs.length) pd (127 * n) 0 ∧ L = blkF bs (127 * n) 127 ∧ k = 127 * n) ∨
  (n ≤ segs bs.length ∧ ∃ c sn cm, c ≤ segs bs.length ∧ sn ≤ 127 ∧ cm ≤ 127 ∧ s = ⟨2, bs, c, sn, 0⟩ ∧ r = ⟨2, 127, pd, cm, 0⟩ ∧ L = [endF bs] ∧ k = segs bs.length)
section
variable {bs pd : List UInt8} {n : Nat} {s : Sn} {r : Rc} {L : List F8} {k : Nat}
theorem Tp.le (h : Tp bs pd n s r L k) : n ≤ segs bs.length ∧ k ≤ segs bs.length := by
  rcases h with ⟨h1, _, _, _, h2⟩ | ⟨h1, _, _, _, _, _, _, _, _, _, h2⟩ <;> omega
theorem Tp.sok (h : Tp bs pd n s r L k) (hl : bs.length ≤ 65536) : s.Ok ∧ s.st ≠ 3 := by
  rcases h with ⟨h1, rfl, _⟩ | ⟨_, c, sn, cm, h1, h3, _, rfl, _⟩
  · exact ⟨⟨⟨by simp, hl, by show 127 * n ≤ segs bs.length; omega, by show min 127 (segs bs.length - 127 * n) ≤ 127; omega, by simp⟩, .inl (by show 127 * n + min 127 (segs bs.length - 127 * n) ≤ segs bs.length; omega)⟩, by simp⟩
  · exact ⟨⟨⟨by simp, hl, h1, h3, by simp⟩, .inr (by simp)⟩, by simp⟩
theorem Tp.len (h : Tp bs pd n s r L k) : 1 ≤ L.length ∧ L.length ≤ 127 := by
  rcases h with ⟨h3, _, _, rfl, _⟩ | ⟨_, c, sn, cm, _, _, _, _, _, rfl, _⟩
  · rw [blkF_len]; omega
  · simp
theorem Tp.run {K j : Nat} {y : UInt8} (hj : j < 7) (h : Tp bs (pdF bs K j y) n s r L k) (hl : bs.length ≤ 65536) :
    ∃ J : Nat → Rc → Bool → F8 → Prop, (∀ i r b a, J i r b a → r.Ok) ∧ J 0 r false F8.nul ∧
      (∀ i (hi : i < L.length), ∀ r b a, J i r b a → J (i + 1) (rFeed r (gK K j y (k + i) L[i])).2 (rFeed r (gK K j y (k + i) L[i])).1.isSome ((rFeed r (gK K j y (k + i) L[i])).1.getD F8.nul)) ∧
      ∀ r b a, J L.length r b a → (r.st ≠ 3 ∧ b = true ∧ Tp bs (pdF bs K j y) (n + 1) (sFeed s a).2 r (sFeed s a).1 (k + L.length)) ∨ r = .fin 0 bs ∨ (r = .fin 84148228 [] ∧ y ≠ 0) := by
  have hpl := pdF_len bs K j y
  have hG := segs_pos bs.length
  have h65 : 7 * segs bs.length ≤ 65543 := by have := segs_sp bs.length; have := segs_ge bs.length; omega
  rcases h with ⟨hc, rfl, rfl, rfl, rfl⟩ | ⟨hn, c, sn, cm, hc, hsn, hcm, rfl, rfl, rfl, rfl⟩
  · obtain ⟨m, hm⟩ : ∃ m, min 127 (segs bs.length - 127 * n) = m := ⟨_, rfl⟩
    have hlen : (blkF bs (127 * n) 127).length = m := by rw [blkF_len, hm]
    have hget : ∀ i (hi : i < (blkF bs (127 * n) 127).length), (blkF bs (127 * n) 127)[i] = segF bs (127 * n) i := fun i hi => by simp [blkF]
    refine ⟨fun i r b a => i ≤ m ∧ r = rT (segs bs.length) (pdF bs K j y) (127 * n) i ∧ b = decide (1 ≤ i ∧ (127 * n + i = segs bs.length ∨ i = 127)) ∧ (b = true → a = rAns i 127), ?_, ?_, ?_, ?_⟩
    · rintro i r b a ⟨h4, rfl, _⟩
      exact rT_ok _ _ _ _ hpl h65 hG (by omega)
    · exact ⟨by omega, rfl, by simp, by simp⟩
    · rintro i hi r b a ⟨h4, rfl, _, _⟩
      rw [hget i hi]
      rw [hlen] at hi
      have hb : (gK K j y (127 * n + i) (segF bs (127 * n) i)).b0.toNat = i + 1 + if 127 * n + i + 1 = segs bs.length then 128 else 0 := by rw [gK_b0]; exact seg_b0 bs (127 * n) i (by omega)
      rw [feed_nextT _ _ _ _ _ hb (pdF_step bs K j y hj n i (by omega) (by omega)) hpl h65 (by omega) (by omega)]
      by_cases hjm : 127 * n + i + 1 = segs bs.length ∨ i + 1 = 127
      · rw [if_pos hjm]
        refine ⟨by omega, rfl, ?_, fun _ => rfl⟩
        simp
        omega
      · rw [if_neg hjm]
        refine ⟨by omega, rfl, ?_, fun h => by simp at h⟩
        simp
        omega
    · rintro r b a ⟨h4, rfl, hb, ha⟩
      rw [hlen] at hb ha ⊢
      have hbt : b = true := by rw [hb]; simp; omega
      have haa := ha hbt
      left
      refine ⟨?_, hbt, ?_⟩
      · unfold rT
        split
        · simp
        · split <;> simp
      · rw [haa, sfeed_ans bs (127 * n) _ m 127 (by decide) (by decide) (by omega) (by omega) (by omega)]
        by_cases hmore : 127 * n + m < segs bs.length
        · have hm127 : m = 127 := by omega
          rw [if_pos hmore]
          subst hm127
          left
          have e5 : 127 * n + 127 = 127 * (n + 1) := by omega
          refine ⟨by omega, by rw [e5], ?_, by rw [e5], by omega⟩
          unfold rT
          rw [if_neg (by omega), if_pos rfl, if_neg (by omega), if_neg (by omega)]
          simp [e5]
        · rw [if_neg hmore]
          right
          refine ⟨by omega, 127 * n + m, _, m, by omega, by omega, by omega, rfl, ?_, rfl, by omega⟩
          unfold rT
          rw [if_pos (by omega)]
  · have hget : gK K j y (segs bs.length + 0) (endF bs) = endF bs := by
      unfold gK
      rw [if_neg]
      rintro ⟨_, h2⟩
      have e0 : (endF bs).b0.toNat = 193 + 4 * (7 * segs bs.length - bs.length) := by
        show (UInt8.ofNat _).toNat = _
        have := segs_sp bs.length
        simp
        omega
      omega
    refine ⟨fun i r b a => (i = 0 ∧ r = ⟨2, 127, pdF bs K j y, cm, 0⟩) ∨ (i = 1 ∧ (r = .fin 0 bs ∨ (r = .fin 84148228 [] ∧ y ≠ 0))), ?_, ?_, ?_, ?_⟩
    · rintro i r b a (⟨_, rfl⟩ | ⟨_, rfl | ⟨rfl, _⟩⟩)
      · exact ⟨⟨by simp, by simp, by show (pdF bs K j y).length ≤ 70000; omega, hcm, by simp⟩, by show (pdF bs K j y).length ≤ 65543; omega, by simp, fun _ => by show 7 ≤ (pdF bs K j y).length; omega⟩
      · exact Rc.fin_ok _ _ (by decide) (by omega)
      · exact Rc.fin_ok _ _ (by decide) (by simp)
    · exact .inl ⟨rfl, rfl⟩
    · intro i hi r b a hJ
      have hi0 : i = 0 := by simpa using hi
      subst hi0
      rcases hJ with ⟨_, rfl⟩ | ⟨h1, _⟩
      · right
        refine ⟨rfl, ?_⟩
        rw [List.getElem_singleton, hget]
        exact feed_endT bs hl K j y hj cm
      · omega
    · intro r b a hJ
      rcases hJ with ⟨h1, _⟩ | ⟨_, h2⟩
      · simp at h1
      · exact .inr h2
end
end Go.Proofs.Ytebjofkblfmkmaa
