/- Plain: blocks of whatever sizes. -/
import Derived.Test.YtmccfdjdplnhhaaBkG1
namespace Go.Proofs.Ytmccfdjdplnhhaa
open Go.RowKit Go.Proofs.Ty Go.Proofs.Bits
set_option linter.unusedVariables false
set_option maxRecDepth 1000000
set_option linter.unusedSimpArgs false
/-- The size is written over in an answer to a block. -/
def set2 (a : F8) (t : Nat) : F8 := if a.b0.toNat = 162 then ⟨a.b0, a.b1, .ofNat t, a.b3, a.b4, a.b5, a.b6, a.b7⟩ else a
theorem set2_ans (j t : Nat) : set2 (rAns j 127) t = rAns j t := by
  unfold set2
  rw [if_pos (by rfl)]
  rfl
def Ps (bs : List UInt8) (n : Nat) (s : Sn) (r : Rc) (L : List F8) : Prop :=
  (∃ c p, c < segs bs.length ∧ 1 ≤ p ∧ p ≤ 127 ∧ n ≤ c ∧ s = ⟨1, bs, c, min p (segs bs.length - c), 0⟩ ∧ r = rJ bs 127 c 0 ∧ L = blkF bs c p) ∨
  (n ≤ segs bs.length ∧ ∃ c sn cm, c ≤ segs bs.length ∧ sn ≤ 127 ∧ cm ≤ 127 ∧ s = ⟨2, bs, c, sn, 0⟩ ∧ r = ⟨2, 127, pad bs, cm, 0⟩ ∧ L = [endF bs])
def Ns (bs : List UInt8) (n : Nat) (res : List F8 × Sn) (r : Rc) : Prop :=
  (res.2.st ≠ 3 ∧ Ps bs (n + 1) res.2 r res.1) ∨ (res = ([], .fin 0) ∧ r = .fin 0 bs)
section
variable {bs : List UInt8} {n : Nat} {s : Sn} {r : Rc} {L : List F8}
theorem Ps.le (h : Ps bs n s r L) : n ≤ segs bs.length := by
  rcases h with ⟨c, p, h1, _, _, h2, _⟩ | ⟨h1, _⟩ <;> omega
theorem Ps.sok (h : Ps bs n s r L) (hl : bs.length ≤ 65536) : s.Ok := by
  rcases h with ⟨c, p, h1, h3, h4, _, rfl, _⟩ | ⟨_, c, sn, cm, h1, h3, _, rfl, _⟩
  · exact ⟨⟨by simp, hl, by show c ≤ segs bs.length; omega, by show min p (segs bs.length - c) ≤ 127; omega, by simp⟩, .inl (by show c + min p (segs bs.length - c) ≤ segs bs.length; omega)⟩
  · exact ⟨⟨by simp, hl, h1, h3, by simp⟩, .inr (by simp)⟩
theorem Ps.len (h : Ps bs n s r L) : 1 ≤ L.length ∧ L.length ≤ 127 := by
  rcases h with ⟨c, p, h3, h4, h5, _, _, _, rfl⟩ | ⟨_, c, sn, cm, _, _, _, _, _, rfl⟩
  · rw [blkF_len]; omega
  · simp
theorem Ps.run (h : Ps bs n s r L) (hl : bs.length ≤ 65536) (t : Nat) (t1 : 1 ≤ t) (t2 : t ≤ 127) :
    ∃ J : Nat → Rc → Bool → F8 → Prop, (∀ i r b a, J i r b a → r.Ok) ∧ J 0 r false F8.nul ∧ (∀ i (hi : i < L.length), i < t → ∀ r b a, J i r b a → J (i + 1) (rFeed r L[i]).2 (rFeed r L[i]).1.isSome ((rFeed r L[i]).1.getD F8.nul)) ∧
      ∀ r b a, J (min L.length t) r b a → (b = true ∧ Ns bs n (sFeed s (set2 a t)) r) ∨ (b = false ∧ ∃ a' r', rAsk r = (some a', r') ∧ r'.Ok ∧ Ns bs n (sFeed s (set2 a' t)) r') := by
  have h1 : 1 ≤ 127 := by decide
  have h2 : 127 ≤ 127 := Nat.le_refl _
  rcases h with ⟨c, p, hc, hp1, hp2, hn, rfl, rfl, rfl⟩ | ⟨hn, c, sn, cm, hc, hsn, hcm, rfl, rfl, rfl⟩
  · obtain ⟨m, hm⟩ : ∃ m, min p (segs bs.length - c) = m := ⟨_, rfl⟩
    have hlen : (blkF bs c p).length = m := by rw [blkF_len, hm]
    have hget : ∀ i (hi : i < (blkF bs c p).length), (blkF bs c p)[i] = segF bs c i := fun i hi => by simp [blkF]
    have nx : ∀ j, 1 ≤ j → j ≤ m → Ns bs n (sFeed ⟨1, bs, c, min p (segs bs.length - c), 0⟩ (rAns j t)) (rA bs 127 c j) := fun j hj1 hj2 => by
      rw [sfeed_ans bs c _ j t t2 t1 (by omega) (by omega) (by omega)]
      by_cases hlast : c + j < segs bs.length
      · rw [if_pos hlast]
        refine .inl ⟨by simp, .inl ⟨c + j, t, hlast, t1, t2, by omega, rfl, ?_, rfl⟩⟩
        unfold rA rJ
        rw [if_neg (by omega), if_neg (by omega), if_neg (by omega)]
        rfl
      · rw [if_neg hlast]
        refine .inl ⟨by simp, .inr ⟨by omega, c + j, _, j, by omega, by omega, by omega, rfl, ?_, rfl⟩⟩
        unfold rA
        rw [if_pos (by omega)]
    refine ⟨fun i r b a => i ≤ m ∧ r = rJ bs 127 c i ∧ b = decide (1 ≤ i ∧ (c + i = segs bs.length ∨ i = 127)) ∧ (b = true → a = rAns i 127), ?_, ?_, ?_, ?_⟩
    · rintro i r b a ⟨h4, rfl, _⟩
      exact rJ_ok bs 127 c hl h1 h2 i (by omega)
    · exact ⟨by omega, rfl, by simp, by simp⟩
    · rintro i hi _ r b a ⟨h4, rfl, _, _⟩
      rw [hget i hi]
      rw [hlen] at hi
      rw [feed_next bs 127 c hl h1 h2 i (by omega) (by omega)]
      by_cases hjm : c + i + 1 = segs bs.length ∨ i + 1 = 127
      · rw [if_pos hjm]
        exact ⟨by omega, rfl, by simp; omega, fun _ => rfl⟩
      · rw [if_neg hjm]
        exact ⟨by omega, rfl, by simp; omega, fun e => by simp at e⟩
    · rw [hlen]
      rintro r b a ⟨_, rfl, rfl, ha⟩
      by_cases hjm : c + min m t = segs bs.length ∨ min m t = 127
      · left
        have hb : decide (1 ≤ min m t ∧ (c + min m t = segs bs.length ∨ min m t = 127)) = true := by simp; omega
        refine ⟨hb, ?_⟩
        rw [ha hb, set2_ans, J_A bs 127 c hl h1 h2 _ hjm]
        exact nx _ (by omega) (by omega)
      · right
        refine ⟨by simp; omega, _, _, ask_J bs 127 c hl h1 h2 _ (by omega) (by omega), rA_ok bs 127 c hl h1 h2 _ (by omega), ?_⟩
        rw [set2_ans]
        exact nx _ (by omega) (by omega)
  · have hp := pad_le bs 127 hl h1 h2
    have h7 : 7 ≤ (pad bs).length := by rw [pad_len]; have := segs_pos bs.length; omega
    have hok : (⟨2, 127, pad bs, cm, 0⟩ : Rc).Ok := ⟨⟨by simp, h2, by show (pad bs).length ≤ 70000; omega, hcm, by simp⟩, hp, by simp, fun _ => h7⟩
    refine ⟨fun i r b a => (i = 0 ∧ r = ⟨2, 127, pad bs, cm, 0⟩) ∨ (i = 1 ∧ r = .fin 0 bs ∧ b = true ∧ a = frm 161 0 0 0), ?_, ?_, ?_, ?_⟩
    · rintro i r b a (⟨_, rfl⟩ | ⟨_, rfl, _⟩)
      · exact hok
      · exact Rc.fin_ok 0 bs (by decide) (by omega)
    · exact .inl ⟨rfl, rfl⟩
    · rintro i hi _ r b a (⟨rfl, rfl⟩ | ⟨rfl, _⟩)
      · right
        have e := feed_end bs 127 hl h1 h2 cm
        simp only [List.getElem_cons_zero]
        rw [e]
        exact ⟨by simp, rfl, rfl, rfl⟩
      · simp at hi
    · rintro r b a (⟨h0, _⟩ | ⟨_, rfl, rfl, rfl⟩)
      · simp at h0
        omega
      · left
        refine ⟨rfl, .inr ⟨?_, rfl⟩⟩
        rw [show set2 (frm 161 0 0 0) t = frm 161 0 0 0 by unfold set2; rw [if_neg (by decide)]]
        exact sfeed_end bs c sn
end
theorem Qb.set2 {z : Nat} {f : F8} {w : World} (h : Qb z f w) (x : UInt8) : Qb z ⟨f.b0, f.b1, x, f.b3, f.b4, f.b5, f.b6, f.b7⟩ (w.setCell ⟨z, 2, none⟩ (.int .u8 (x.toNat : Int))) := by
  unfold Qb at *
  simp only [World.setCell, Array.getElem?_modify, h]
  simp [F8.arr, F8.c]
end Go.Proofs.Ytmccfdjdplnhhaa
