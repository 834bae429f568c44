/- The program's receiver and the document's in one world. -/
import Derived.Test.YtebjofkblfmkmaaBkK3
namespace Go.Proofs.Ytebjofkblfmkmaa
open Go.RowKit Go.Proofs.Ty Go.Proofs.Bits
set_option linter.unusedVariables false
set_option maxRecDepth 1000000
set_option linter.unusedSimpArgs false
/-- The program's receiver is at r, the document's at t. -/
structure Bt (w0 : World) (R D : Nat) (r t : Rc) (u v : Value) (x : World) : Prop where
  p : Rv R r u x
  d : Dw D t v x
  ne : ∀ b, v.ownBlock = some b → b ∉ rB R u
  old : Below w0.heap.size w0 x
  rw : ∀ b ∈ rB R u, w0.heap.size ≤ b
  dw : w0.heap.size ≤ D
section
variable {w0 : World} {R D : Nat} {r t r2 : Rc} {u v : Value} {x y : World}
theorem Bt.nD (h : Bt w0 R D r t u v x) : D ∉ rB R u := by
  obtain ⟨sz, does, cm, l, cd, hq, _⟩ := h.d
  intro hm
  simp [rB] at hm
  rcases hm with rfl | hm
  · have := h.p.hd
    rw [hq.hd] at this
    simp at this
  · obtain ⟨_, cur, hc⟩ := own_of h.p.own hm
    rw [hq.hd] at hc
    simp at hc
theorem Bt.drawn (h : Bt w0 R D r t u v x) (n : Nat) : Bt w0 R D r t u v (x.drewN n) := by
  obtain ⟨sz, does, cm, l, cd, hq, hl⟩ := h.d
  exact ⟨h.p.drawn n, ⟨sz, does, cm, l, cd, hq.drawn n, hl⟩, h.ne, bdr h.old n, h.rw, h.dw⟩
theorem Bt.below (h : Bt w0 R D r t u v x) (hb : Below x.heap.size x y) : Bt w0 R D r t u v y := by
  obtain ⟨sz, does, cm, l, cd, hq, hl⟩ := h.d
  exact ⟨h.p.below hb, ⟨sz, does, cm, l, cd, hq.below hb, hl⟩, h.ne, h.old.trans (hb.mono h.old.size), h.rw, h.dw⟩
theorem Bt.vlt (h : Bt w0 R D r t u v x) {b : Nat} (hb : v.ownBlock = some b) : b < x.heap.size := by
  obtain ⟨sz, does, cm, l, cd, hq, hl⟩ := h.d
  exact hq.blt hb
theorem Bt.prog {res : Option F8 × Rc} {e : Ending} (h : Bt w0 R D r t u v x) (hp : RPost x R u res e y) : e = .returned (.tuple #[.agg (res.1.getD F8.nul).arr, .bool res.1.isSome]) ∧ ∃ u', Bt w0 R D res.2 t u' v y ∧ Kp (rB R u) x y := by
  obtain ⟨he, u', hr, hk, ho⟩ := hp
  obtain ⟨sz, does, cm, l, cd, hq, hl⟩ := h.d
  refine ⟨he, u', ⟨hr, ⟨sz, does, cm, l, cd, hq.kp hk h.nD (fun b hb => h.ne b hb), hl⟩, fun b hb hm => ?_, hk.below h.old h.old.size (fun b hb => h.rw b hb), fun b hb => ?_, h.dw⟩, hk⟩
  · simp [rB] at hm
    rcases hm with rfl | hm
    · exact h.ne b hb (by simp [rB])
    · rcases ho b hm with h1 | h1
      · exact h.ne b hb (by simp [rB, h1])
      · have := h.vlt hb
        omega
  · simp [rB] at hb
    rcases hb with rfl | hb
    · exact h.rw b (by simp [rB])
    · rcases ho b hb with h1 | h1
      · exact h.rw b (by simp [rB, h1])
      · exact Nat.le_trans h.old.size h1
theorem Bt.doc {res : Option F8 × Rc} {e : Ending} (h : Bt w0 R D r t u v x) (hp : DwPost x D v res e y) : e = .returned (.tuple #[.agg (res.1.getD F8.nul).arr, .bool res.1.isSome]) ∧ ∃ v', Bt w0 R D r res.2 u v' y ∧ Kp [D] x y := by
  obtain ⟨he, v', hd, hk, ho⟩ := hp
  have hn : ∀ b ∈ rB R u, b ∉ [D] := fun b hb hm => by
    simp at hm
    subst hm
    exact h.nD hb
  refine ⟨he, v', ⟨h.p.kp hk hn, hd, fun b hb hm => ?_, hk.below h.old h.old.size (fun b hb => by simp at hb; rw [hb]; exact h.dw), h.rw, h.dw⟩, hk⟩
  rcases ho b hb with h1 | h1
  · exact h.ne b h1 hm
  · simp [rB] at hm
    rcases hm with rfl | hm
    · have := h.p.lt
      omega
    · have := (h.p.olt hm).1
      omega
/-- A frame of the law's own is written. -/
theorem Bt.frame {z : Nat} {g : F8} (h : Bt w0 R D r t u v x) (hz : Qb z g x) (hw : w0.heap.size ≤ z) (hK : Kp [z] x y) : Bt w0 R D r t u v y := by
  obtain ⟨sz, does, cm, l, cd, hq, hl⟩ := h.d
  exact ⟨h.p.kp hK (fun b hb => by simpa using h.p.nq hz b hb), ⟨sz, does, cm, l, cd, hq.kp hK (by simpa using (hq.nq hz).symm) (fun b hb => by simpa using hq.neq hz hb), hl⟩, h.ne, hK.below h.old h.old.size (fun b hb => by simp at hb; omega), h.rw, h.dw⟩
/-- A frame stays whatever the receivers do. -/
theorem Bt.keepP {z : Nat} {g : F8} (h : Bt w0 R D r t u v x) (hz : Qb z g x) (hk : Kp (rB R u) x y) : Qb z g y := hz.kq hk (fun hm => h.p.nq hz z hm rfl)
theorem Bt.keepD {z : Nat} {g : F8} (h : Bt w0 R D r t u v x) (hz : Qb z g x) (hk : Kp [D] x y) : Qb z g y := by
  obtain ⟨sz, does, cm, l, cd, hq, hl⟩ := h.d
  exact hz.kq hk (by simpa using hq.nq hz)
theorem Bt.feed1 (h : Bt w0 R D r r u v x) (hok : r.Ok) (f : F8) (a : Option F8) (hf : rFeed r f = (a, r2)) : Calls Try.prog 15 #[.pointer (some ⟨R, 0, none⟩), .agg f.arr] x fun e y => e = .returned (.tuple #[.agg (a.getD F8.nul).arr, .bool a.isSome]) ∧ ∃ u', Bt w0 R D r2 r u' v y ∧ Kp (rB R u) x y :=
  (rFeed_any h.p hok f).mono fun e y hp => by rw [hf] at hp; exact h.prog hp
theorem Bt.feed2 (h : Bt w0 R D r2 r u v x) (hok : r.Ok) (f : F8) (a : Option F8) (hf : rFeed r f = (a, r2)) : Calls Try.prog 16 #[.pointer (some ⟨D, 0, none⟩), .agg f.arr] x fun e y => e = .returned (.tuple #[.agg (a.getD F8.nul).arr, .bool a.isSome]) ∧ ∃ v', Bt w0 R D r2 r2 u v' y ∧ Kp [D] x y :=
  (dFeedR_any h.d hok f).mono fun e y hp => by rw [hf] at hp; exact h.doc hp
theorem Bt.ask1 (h : Bt w0 R D r r u v x) (hok : r.Ok) (a : Option F8) (hf : rAsk r = (a, r2)) : Calls Try.prog 17 #[.pointer (some ⟨R, 0, none⟩)] x fun e y => e = .returned (.tuple #[.agg (a.getD F8.nul).arr, .bool a.isSome]) ∧ ∃ u', Bt w0 R D r2 r u' v y ∧ Kp (rB R u) x y :=
  (rAsk_any h.p).mono fun e y hp => by rw [hf] at hp; exact h.prog hp
theorem Bt.ask2 (h : Bt w0 R D r2 r u v x) (hok : r.Ok) (a : Option F8) (hf : rAsk r = (a, r2)) : Calls Try.prog 18 #[.pointer (some ⟨D, 0, none⟩)] x fun e y => e = .returned (.tuple #[.agg (a.getD F8.nul).arr, .bool a.isSome]) ∧ ∃ v', Bt w0 R D r2 r2 u v' y ∧ Kp [D] x y :=
  (dAsk_any h.d hok).mono fun e y hp => by rw [hf] at hp; exact h.doc hp
end
end Go.Proofs.Ytebjofkblfmkmaa
