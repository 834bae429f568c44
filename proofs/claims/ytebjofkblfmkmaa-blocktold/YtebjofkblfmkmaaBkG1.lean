/- A sender and a receiver in one world; plain: what a block comes to. -/
import Derived.Test.YtebjofkblfmkmaaBkP1
import Derived.Test.YtebjofkblfmkmaaBkN5
import Derived.Test.YtebjofkblfmkmaaBkF2
namespace Go.Proofs.Ytebjofkblfmkmaa
open Go.RowKit Go.Proofs.Ty Go.Proofs.Bits
set_option linter.unusedVariables false
set_option maxRecDepth 1000000
set_option linter.unusedSimpArgs false
structure Gw (w : World) (S R : Nat) (s : Sn) (ao : Option Addr) (cp : Nat) (r : Rc) (u : Value) (x : World) : Prop where
  sd : Sd S s ao cp x
  rv : Rv R r u x
  old : Below w.heap.size w x
  sw : w.heap.size ≤ S
  rw : ∀ b ∈ rB R u, w.heap.size ≤ b
  sb : ∀ b, (Value.slice ao s.bs.length cp).ownBlock = some b → b < S ∧ b ∉ rB R u
section
variable {w x y : World} {S R : Nat} {s : Sn} {ao : Option Addr} {cp : Nat} {r : Rc} {u : Value}
theorem Sd.nR (h : Sd S s ao cp x) (hr : Rv R r u x) : S ∉ rB R u := by
  intro hm
  simp [rB] at hm
  rcases hm with rfl | hm
  · have := h.hd
    rw [hr.hd] at this
    simp at this
  · obtain ⟨_, cur, hc⟩ := own_of hr.own hm
    rw [h.hd] at hc
    simp at hc
theorem own_any (ao : Option Addr) (n m c : Nat) (b : Nat) (h : (Value.slice ao n c).ownBlock = some b) : (Value.slice ao m c).ownBlock = some b := by
  cases ao with
  | none => cases h
  | some a => exact h
theorem Gw.below (h : Gw w S R s ao cp r u x) (hb : Below x.heap.size x y) : Gw w S R s ao cp r u y :=
  ⟨h.sd.below hb, h.rv.below hb, h.old.trans (hb.mono h.old.size), h.sw, h.rw, h.sb⟩
theorem Gw.recv {res : Option F8 × Rc} {e : Ending} (h : Gw w S R s ao cp r u x) (hp : RPost x R u res e y) : ∃ u', Gw w S R s ao cp res.2 u' y ∧ Kp (rB R u) x y := by
  obtain ⟨_, u', hr, hk, ho⟩ := hp
  refine ⟨u', ⟨h.sd.kp hk (h.sd.nR h.rv) (fun b hb => (h.sb b hb).2), hr, hk.below h.old h.old.size h.rw, h.sw, ?_, ?_⟩, hk⟩
  · intro b hb
    simp [rB] at hb
    rcases hb with rfl | hb
    · exact h.rw _ (by simp [rB])
    · rcases ho b hb with h1 | h1
      · exact h.rw b (by simp [rB, h1])
      · exact Nat.le_trans h.old.size h1
  · intro b hb
    obtain ⟨h1, h2⟩ := h.sb b hb
    refine ⟨h1, fun hm => ?_⟩
    simp [rB] at hm h2
    rcases hm with rfl | hm
    · exact h2.1 rfl
    · rcases ho b hm with h3 | h3
      · exact h2.2 h3
      · have := h.sd.lt; omega
theorem Gw.send {res : List F8 × Sn} {e : Ending} (h : Gw w S R s ao cp r u x) (hp : SPost x S ao cp res e y) : ∃ v aq cq, e = .returned v ∧ Lf x.heap.size y v res.1 ∧ Gw w S R res.2 aq cq r u y ∧ Kp [S] x y := by
  obtain ⟨v, aq, cq, he, hl, hs, hk, ho⟩ := hp
  have hn := h.sd.nR h.rv
  refine ⟨v, aq, cq, he, hl, ⟨hs, h.rv.kp hk (fun b hb hm => by simp at hm; subst hm; exact hn hb), hk.below h.old h.old.size (fun b hb => by simp at hb; rw [hb]; exact h.sw), h.sw, h.rw, ?_⟩, hk⟩
  intro b hb
  rcases ho with ⟨rfl, rfl⟩ | ⟨rfl, rfl⟩
  · exact h.sb b (own_any _ _ _ _ _ hb)
  · cases hb
theorem Gw.frame {z : Nat} {g : F8} (h : Gw w S R s ao cp r u x) (hz : Qb z g x) (hw : w.heap.size ≤ z) (hK : Kp [z] x y) (hzb : ∀ b, (Value.slice ao s.bs.length cp).ownBlock = some b → b ≠ z) : Gw w S R s ao cp r u y :=
  ⟨h.sd.kp hK (by simp; rintro rfl; have := h.sd.hd; rw [show x.heap[S]? = _ from hz] at this; simp at this) (fun b hb => by simp; exact hzb b hb), h.rv.kp hK (fun b hb => by simpa using h.rv.nq hz b hb), hK.below h.old h.old.size (fun b hb => by simp at hb; omega), h.sw, h.rw, h.sb⟩
theorem Lf.recv {B : Nat} {lv : Value} {L : List F8} (h : Lf B x lv L) (hr : Rv R r u x) (hK : Kp (rB R u) x y) : Lf B y lv L :=
  ⟨h.1.same hK.size (fun b A fr hb hA => hK.block b (Array.getElem?_eq_some_iff.1 hA).1 (fun hm => by
    simp [rB] at hm
    rcases hm with rfl | hm
    · rw [hr.hd] at hA
      simp at hA
    · obtain ⟨_, cur, hc⟩ := own_of hr.own hm
      rw [hc] at hA
      simp at hA)), h.2⟩
theorem Lf.kept {B z : Nat} {lv : Value} {L : List F8} (h : Lf B x lv L) (hK : Kp [z] x y) (hz : lv.ownBlock ≠ some z) : Lf B y lv L :=
  ⟨h.1.same hK.size (fun b A fr hb hA => hK.block b (Array.getElem?_eq_some_iff.1 hA).1 (fun hm => by
    simp at hm
    subst hm
    exact hz hb)), h.2⟩
theorem Qb.recv {z : Nat} {g : F8} (hq : Qb z g x) (hr : Rv R r u x) (hK : Kp (rB R u) x y) : Qb z g y := (hK.block z hq.lt (fun hm => hr.nq hq z hm rfl)).trans hq
end
/-- Where a block stands, and what comes to be sent. -/
def Ph (bs : List UInt8) (size bk : Nat) (s : Sn) (r : Rc) (L : List F8) : Prop :=
  (∃ c, c < segs bs.length ∧ bk ≤ c + 1 ∧ s = ⟨1, bs, c, min size (segs bs.length - c), 0⟩ ∧ r = rJ bs size c 0 ∧ L = blkF bs c size) ∨
  (bk ≤ segs bs.length + 1 ∧ ∃ c sn cm, c ≤ segs bs.length ∧ sn ≤ 127 ∧ cm ≤ 127 ∧ s = ⟨2, bs, c, sn, 0⟩ ∧ r = ⟨2, size, pad bs, cm, 0⟩ ∧ L = [endF bs])
/-- What an answer comes to. -/
def Nx (bs : List UInt8) (size bk : Nat) (res : List F8 × Sn) (r : Rc) : Prop :=
  (res.2.st ≠ 3 ∧ Ph bs size (bk + 1) res.2 r res.1) ∨ (res = ([], .fin 0) ∧ r = .fin 0 bs ∧ bk ≤ segs bs.length + 1)
section
variable {bs : List UInt8} {size bk : Nat} {s : Sn} {r : Rc} {L : List F8}
theorem Ph.le (h : Ph bs size bk s r L) : bk ≤ segs bs.length + 1 := by
  rcases h with ⟨c, h1, h2, _⟩ | ⟨h1, _⟩ <;> omega
theorem Ph.sok (h : Ph bs size bk s r L) (hl : bs.length ≤ 65536) (h2 : size ≤ 127) : s.Ok := by
  rcases h with ⟨c, h1, _, rfl, _⟩ | ⟨_, c, sn, cm, h1, h3, _, rfl, _⟩
  · exact ⟨⟨by simp, hl, by show c ≤ segs bs.length; omega, by show min size (segs bs.length - c) ≤ 127; omega, by simp⟩, .inl (by show c + min size (segs bs.length - c) ≤ segs bs.length; omega)⟩
  · exact ⟨⟨by simp, hl, h1, h3, by simp⟩, .inr (by simp)⟩
theorem Ph.len (h : Ph bs size bk s r L) (h1 : 1 ≤ size) (h2 : size ≤ 127) : 1 ≤ L.length ∧ L.length ≤ 127 := by
  rcases h with ⟨c, h3, _, _, _, rfl⟩ | ⟨_, c, sn, cm, _, _, _, _, _, rfl⟩
  · rw [blkF_len]; omega
  · simp
/-- Frame by frame: what is known of the receiver, of whether it answered, and of its answer. -/
theorem Ph.run (h : Ph bs size bk s r L) (hl : bs.length ≤ 65536) (h1 : 1 ≤ size) (h2 : size ≤ 127) :
    ∃ J : Nat → Rc → Bool → F8 → Prop, (∀ i r b a, J i r b a → r.Ok) ∧ J 0 r false F8.nul ∧ (∀ i (hi : i < L.length) r b a, J i r b a → J (i + 1) (rFeed r L[i]).2 (rFeed r L[i]).1.isSome ((rFeed r L[i]).1.getD F8.nul)) ∧
      (∀ i, 0 < i → i < L.length → ∀ r b a, J i r b a → J (i + 1) r b a) ∧
      ∀ r b a, J L.length r b a → (b = true ∧ Nx bs size bk (sFeed s a) r) ∨ (b = false ∧ ∃ a' r', rAsk r = (some a', r') ∧ r'.Ok ∧ Nx bs size bk (sFeed s a') r') := by
  rcases h with ⟨c, hc, hbk, rfl, rfl, rfl⟩ | ⟨hbk, c, sn, cm, hc, hsn, hcm, rfl, rfl, rfl⟩
  · obtain ⟨m, hm⟩ : ∃ m, min size (segs bs.length - c) = m := ⟨_, rfl⟩
    have hlen : (blkF bs c size).length = m := by rw [blkF_len, hm]
    have hget : ∀ i (hi : i < (blkF bs c size).length), (blkF bs c size)[i] = segF bs c i := fun i hi => by simp [blkF]
    have nx : ∀ j, 1 ≤ j → j ≤ m → Nx bs size bk (sFeed ⟨1, bs, c, min size (segs bs.length - c), 0⟩ (rAns j size)) (rA bs size c j) := fun j hj1 hj2 => by
      rw [sfeed_ans bs c _ j size h2 h1 (by omega) (by omega) (by omega)]
      by_cases hlast : c + j < segs bs.length
      · rw [if_pos hlast]
        refine .inl ⟨by simp, .inl ⟨c + j, hlast, by omega, rfl, ?_, rfl⟩⟩
        unfold rA rJ
        rw [if_neg (by omega), if_neg (by omega), if_neg (by omega)]
        rfl
      · rw [if_neg hlast]
        refine .inl ⟨by simp, .inr ⟨by omega, c + j, _, j, by omega, by omega, by omega, rfl, ?_, rfl⟩⟩
        unfold rA
        rw [if_pos (by omega)]
    refine ⟨fun i r b a => ∃ j, j ≤ i ∧ i ≤ m ∧ (1 ≤ i → 1 ≤ j) ∧ r = rJ bs size c j ∧ b = decide (j = m) ∧ (j = m → a = rAns m size), ?_, ?_, ?_, ?_, ?_⟩
    · rintro i r b a ⟨j, h3, h4, _, rfl, _⟩
      exact rJ_ok bs size c hl h1 h2 j (by omega)
    · exact ⟨0, Nat.le_refl _, by omega, by omega, rfl, by simp; omega, by omega⟩
    · rintro i hi r b a ⟨j, h3, h4, h5, rfl, _, _⟩
      rw [hget i hi]
      rw [hlen] at hi
      by_cases hij : j = i
      · subst hij
        rw [feed_next bs size c hl h1 h2 j (by omega) (by omega)]
        by_cases hjm : j + 1 = m
        · rw [if_pos (by omega)]
          exact ⟨j + 1, Nat.le_refl _, by omega, by omega, rfl, by simp [hjm], fun _ => by rw [hjm]; rfl⟩
        · rw [if_neg (by omega)]
          exact ⟨j + 1, Nat.le_refl _, by omega, by omega, rfl, by simp [hjm], fun e => absurd e hjm⟩
      · rw [feed_over bs size c hl h1 h2 i j (by omega) (by omega) (by omega)]
        exact ⟨j, by omega, by omega, fun _ => h5 (by omega), rfl, by simp; omega, fun e => by omega⟩
    · rintro i h0 hi r b a ⟨j, h3, h4, h5, rfl, hb, ha⟩
      rw [hlen] at hi
      exact ⟨j, by omega, by omega, fun _ => h5 (by omega), rfl, hb, ha⟩
    · rw [hlen]
      rintro r b a ⟨j, h3, _, h5, rfl, rfl, ha⟩
      by_cases hjm : j = m
      · left
        refine ⟨by simp [hjm], ?_⟩
        rw [ha hjm, hjm, J_A bs size c hl h1 h2 m (by omega)]
        exact nx m (by omega) (Nat.le_refl _)
      · right
        refine ⟨by simp [hjm], _, _, ask_J bs size c hl h1 h2 j (by omega) (by omega), rA_ok bs size c hl h1 h2 j (by omega), nx j (h5 (by omega)) (by omega)⟩
  · have hp := pad_le bs size hl h1 h2
    have h7 : 7 ≤ (pad bs).length := by rw [pad_len]; have := segs_pos bs.length; omega
    have hok : (⟨2, size, pad bs, cm, 0⟩ : Rc).Ok := ⟨⟨by simp, h2, by show (pad bs).length ≤ 70000; omega, hcm, by simp⟩, hp, by simp, fun _ => h7⟩
    refine ⟨fun i r b a => (i = 0 ∧ r = ⟨2, size, pad bs, cm, 0⟩) ∨ (i = 1 ∧ r = .fin 0 bs ∧ b = true ∧ a = frm 161 0 0 0), ?_, ?_, ?_, ?_, ?_⟩
    · rintro i r b a (⟨_, rfl⟩ | ⟨_, rfl, _⟩)
      · exact hok
      · exact Rc.fin_ok 0 bs (by decide) (by omega)
    · exact .inl ⟨rfl, rfl⟩
    · rintro i hi r b a (⟨rfl, rfl⟩ | ⟨rfl, _⟩)
      · right
        have e := feed_end bs size hl h1 h2 cm
        simp only [List.getElem_cons_zero]
        rw [e]
        exact ⟨by simp, rfl, rfl, rfl⟩
      · simp at hi
    · rintro i h0 hi r b a _
      simp at hi
      omega
    · rintro r b a (⟨h0, _⟩ | ⟨_, rfl, rfl, rfl⟩)
      · simp at h0
      · left
        refine ⟨rfl, .inr ⟨sfeed_end bs c sn, rfl, hbk⟩⟩
end
end Go.Proofs.Ytebjofkblfmkmaa
