/- The program's sender and the document's in one world. -/
import Derived.Test.YtebjofkblfmkmaaBkH3
import Derived.Test.YtebjofkblfmkmaaBkF2
import Derived.Test.YtebjofkblfmkmaaBkG1
namespace Go.Proofs.Ytebjofkblfmkmaa
open Go.RowKit Go.Proofs.Ty Go.Proofs.Bits
set_option linter.unusedVariables false
set_option maxRecDepth 1000000
set_option linter.unusedSimpArgs false
theorem Sd.kq {S : Nat} {s : Sn} {ao : Option Addr} {cp : Nat} {w x : World} {D : Nat} {A : Array Value} {T : TypeId} {fr : Nat × Nat} (h : Sd S s ao cp w) (hD : w.heap[D]? = some (.cells A T fr)) (hA : NoU8 A) (hne : S ≠ D) (hK : Kp [D] w x) : Sd S s ao cp x :=
  ⟨(hK.block S h.lt (by simpa using hne)).trans h.hd, h.bt.kp1 hD hA hK, h.cap, h.ok⟩
theorem Dd.kq {D : Nat} {bs : List UInt8} {ao : Option Addr} {cp at0 many wt cd : Nat} {w x : World} {S : Nat} {A : Array Value} {T : TypeId} {fr : Nat × Nat} (h : Dd D bs ao cp at0 many wt cd w) (hS : w.heap[S]? = some (.cells A T fr)) (hA : NoU8 A) (hne : D ≠ S) (hK : Kp [S] w x) : Dd D bs ao cp at0 many wt cd x :=
  ⟨(hK.block D h.lt (by simpa using hne)).trans h.hd, h.bt.kp1 hS hA hK, h.bl⟩
theorem sFeed_len (s : Sn) (a : F8) : (sFeed s a).1.length ≤ 127 := by
  unfold sFeed
  repeat' split
  · simp
  · simp
  · unfold sAns
    repeat' split
    · simp [sGive]
    · simp [sGive]
    · simp [sGive]
    · rename_i h _
      show (blkF _ _ _).length ≤ 127
      rw [blkF_len]
      simp at h
      omega
    · simp
  · simp [sGive]
  · simp
theorem sFeed_st (s : Sn) (a : F8) (h : s.st ≠ 0) : (sFeed s a).2.st ≠ 0 := by
  unfold sFeed
  repeat' split
  · exact h
  · simp [Sn.fin]
  · unfold sAns
    repeat' split
    all_goals simp [sGive, Sn.fin]
  · simp [sGive, Sn.fin]
  · simp [Sn.fin]
theorem sFeed_st0 (s : Sn) (a : F8) (h : s.st = 0) : (sFeed s a).2 = s := by
  unfold sFeed
  rw [if_pos (.inl h)]
/-- The program's sender is at s, the document's at t. -/
structure Bh (w0 : World) (S D : Nat) (bs : List UInt8) (s t : Sn) (x : World) : Prop where
  p : ∃ ao cp, Sd S s ao cp x
  d : ∃ ad cq at0 many, Dd D bs ad cq at0 many t.st t.cd x ∧ (t.st ≠ 3 → t.bs = bs ∧ t.cm = at0 ∧ t.sn = many ∧ t.cd = 0)
  old : Below w0.heap.size w0 x
  sw : w0.heap.size ≤ S
  dw : w0.heap.size ≤ D
section
variable {w0 : World} {S D : Nat} {bs : List UInt8} {s t : Sn} {x : World}
theorem Bh.ne (h : Bh w0 S D bs s t x) : S ≠ D := by
  obtain ⟨_, _, hp⟩ := h.p
  obtain ⟨_, _, _, _, hd, _⟩ := h.d
  rintro rfl
  have := hp.hd
  rw [hd.hd] at this
  simp at this
theorem Bh.dlt (h : Bh w0 S D bs s t x) : D < x.heap.size := by
  obtain ⟨_, _, _, _, hd, _⟩ := h.d
  exact hd.lt
theorem Bh.drawn (h : Bh w0 S D bs s t x) (n : Nat) : Bh w0 S D bs s t (x.drewN n) := by
  obtain ⟨ao, cp, hp⟩ := h.p
  obtain ⟨ad, cq, at0, many, hd, hr⟩ := h.d
  exact ⟨⟨ao, cp, hp.drawn n⟩, ⟨ad, cq, at0, many, hd.drawn n, hr⟩, bdr h.old n, h.sw, h.dw⟩
theorem Bh.prog {s2 : Sn} {y : World} (h : Bh w0 S D bs s t x) (hp2 : ∃ ao cp, Sd S s2 ao cp y) (hk : Kp [S] x y) : Bh w0 S D bs s2 t y := by
  obtain ⟨ao, cp, hp⟩ := h.p
  obtain ⟨ad, cq, at0, many, hd, hr⟩ := h.d
  exact ⟨hp2, ⟨ad, cq, at0, many, hd.kq hp.hd (snA_no _ _ _) h.ne.symm hk, hr⟩, hk.below h.old h.old.size (fun b hb => by simp at hb; rw [hb]; exact h.sw), h.sw, h.dw⟩
theorem Bh.doc {t2 : Sn} {y : World} (h : Bh w0 S D bs s t x) (hd2 : ∃ ad cq at0 many, Dd D bs ad cq at0 many t2.st t2.cd y ∧ (t2.st ≠ 3 → t2.bs = bs ∧ t2.cm = at0 ∧ t2.sn = many ∧ t2.cd = 0)) (hk : Kp [D] x y) : Bh w0 S D bs s t2 y := by
  obtain ⟨ao, cp, hp⟩ := h.p
  obtain ⟨ad, cq, at0, many, hd, hr⟩ := h.d
  exact ⟨⟨ao, cp, hp.kq hd.hd (dsA_no _ _ _ _ _ _ _) h.ne hk⟩, hd2, hk.below h.old h.old.size (fun b hb => by simp at hb; rw [hb]; exact h.dw), h.sw, h.dw⟩
theorem Bh.feed1 (h : Bh w0 S D bs s s x) (hok : s.Ok) (a : F8) : Calls Try.prog 8 #[.pointer (some ⟨S, 0, none⟩), .agg a.arr] x fun e x' => ∃ v, e = .returned v ∧ Lf x.heap.size x' v (sFeed s a).1 ∧ Bh w0 S D bs (sFeed s a).2 s x' := by
  obtain ⟨ao, cp, hp⟩ := h.p
  refine (sFeed_any hp hok a).mono fun e x' hh => ?_
  obtain ⟨v, aq, cq, he, hl, hs, hk, _⟩ := hh
  exact ⟨v, he, hl, h.prog ⟨aq, cq, hs⟩ hk⟩
theorem Bh.feed2 (h : Bh w0 S D bs t s x) (hok : s.Ok) (a : F8) (L : List F8) (s2 : Sn) (hL : sFeed s a = (L, s2)) (B : Nat) (v1 : Value) (h1 : Lf B x v1 L) (hB : D < B) : Calls Try.prog 12 #[.pointer (some ⟨D, 0, none⟩), .agg a.arr] x fun e x' => ∃ v, e = .returned v ∧ Lf x.heap.size x' v L ∧ Lf B x' v1 L ∧ Bh w0 S D bs t s2 x' := by
  obtain ⟨ad, cq, at0, many, hd, hr⟩ := h.d
  refine (dFeed_any hd hr hok a).mono fun e x' hh => ?_
  rw [hL] at hh
  obtain ⟨v, at1, many1, he, hl, hdd, hr1, hk⟩ := hh
  exact ⟨v, he, hl, h1.kept hk (fun e => by have := h1.2 D e; omega), h.doc ⟨ad, cq, at1, many1, hdd, hr1⟩ hk⟩
/-- How both begin. -/
theorem begins12 (bs : List UInt8) (hbl : bs.length ≤ 65536) (z : Int) : ∃ (fz : Nat) (L : List F8) (s1 : Sn), L.length ≤ 127 ∧ fz ≤ 1 ∧ s1.Ok ∧ (fz = 0 → s1.st ≠ 0) ∧ (fz = 1 → s1 = Sn.new bs) ∧
    (∀ w0 S D x, Bh w0 S D bs (Sn.new bs) (Sn.new bs) x → Calls Try.prog 9 #[.pointer (some ⟨S, 0, none⟩), .int .i64 z] x fun e x' => ∃ v, e = .returned (.tuple #[v, .int .i64 (fz : Int)]) ∧ Lf x.heap.size x' v L ∧ Bh w0 S D bs s1 (Sn.new bs) x') ∧
    (∀ w0 S D x B v1, Bh w0 S D bs s1 (Sn.new bs) x → Lf B x v1 L → D < B → Calls Try.prog 10 #[.pointer (some ⟨D, 0, none⟩), .int .i64 z] x fun e x' => ∃ v, e = .returned (.tuple #[v, .int .i64 (fz : Int)]) ∧ Lf x.heap.size x' v L ∧ Lf B x' v1 L ∧ Bh w0 S D bs s1 s1 x') := by
  by_cases hz : 1 ≤ z ∧ z ≤ 127
  · obtain ⟨size, rfl⟩ : ∃ n : Nat, z = (n : Int) := ⟨z.toNat, by omega⟩
    have h1 : 1 ≤ size := by omega
    have h2 : size ≤ 127 := by omega
    have hsp := segs_pos bs.length
    refine ⟨0, blkF bs 0 size, (Sn.new bs).beg size, by rw [blkF_len]; omega, by omega, ?_, (fun _ => by simp [Sn.beg]), (fun h => by cases h), ?_, ?_⟩
    · refine ⟨⟨by simp [Sn.beg], hbl, by simp [Sn.beg, Sn.new], ?_, by simp [Sn.beg, Sn.new]⟩, .inl ?_⟩
      · show min size (segs bs.length - 0) ≤ 127
        omega
      · show 0 + min size (segs bs.length - 0) ≤ segs bs.length
        omega
    · intro w0 S D x h
      obtain ⟨ao, cp, hp⟩ := h.p
      refine (sBegin_any (t := Sn.new bs) hp size h1 h2).mono fun e x' hh => ?_
      obtain ⟨v, he, hl, hs, hk⟩ := hh
      exact ⟨v, he, hl, h.prog ⟨ao, cp, hs⟩ hk⟩
    · intro w0 S D x B v1 h hl1 hB
      obtain ⟨ad, cq, at0, many, hd, hr⟩ := h.d
      obtain ⟨_, e2, e3, _⟩ := hr (by simp [Sn.new])
      simp only [Sn.new] at e2 e3
      subst e2 e3
      refine (dBegin_any hd size h1 h2).mono fun e x' hh => ?_
      obtain ⟨v, he, hl, hdd, hk⟩ := hh
      exact ⟨v, he, hl, hl1.kept hk (fun e => by have := hl1.2 D e; omega), h.doc ⟨ad, cq, 0, _, hdd, fun _ => ⟨rfl, rfl, rfl, rfl⟩⟩ hk⟩
  · refine ⟨1, [], Sn.new bs, by simp, by omega, Sn.new_ok bs hbl, (fun h => by cases h), (fun _ => rfl), ?_, ?_⟩
    · intro w0 S D x h
      obtain ⟨ao, cp, hp⟩ := h.p
      refine (sBegin_bad hp rfl z hz).mono fun e x' hh => ?_
      obtain ⟨he, rfl⟩ := hh
      exact ⟨_, he, Lf.nil _ _, h⟩
    · intro w0 S D x B v1 h hl1 hB
      obtain ⟨ad, cq, at0, many, hd, hr⟩ := h.d
      refine (dBegin_bad hd z hz).mono fun e x' hh => ?_
      obtain ⟨he, rfl⟩ := hh
      exact ⟨_, he, Lf.nil _ _, hl1, h⟩
end
end Go.Proofs.Ytebjofkblfmkmaa
