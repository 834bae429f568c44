/- Both tellers in one world, in the same state. -/
import Derived.Test.YtlkocebgkmdeoaaEdE
namespace Go.Proofs.Ytlkocebgkmdeoaa
open Go.RowKit
set_option linter.unusedVariables false
set_option maxRecDepth 1000000
set_option linter.unusedSimpArgs false
/-- The document's blocks are D's, the program's all others from p on. -/
structure Jt (p g d k : Nat) (w x : World) (D : Nat → Prop) (s : Te) : Prop where
  pt : Pt g (fun z => p ≤ z ∧ ¬ D z) s x
  dt : Dt d D s x
  dD : ∀ z, D z → p ≤ z ∧ z < x.heap.size
  below : Below p w x
  len : s.now.length ≤ k
  fit : s.Fit
  hp : p ≤ x.heap.size
/-- The program's teller did what the document's has not done yet. -/
structure Jh (p g d : Nat) (w x : World) (D : Nat → Prop) (s t : Te) : Prop where
  pt : Pt g (fun z => p ≤ z ∧ ¬ D z) t x
  dt : Dt d D s x
  dD : ∀ z, D z → p ≤ z ∧ z < x.heap.size
  below : Below p w x
  hp : p ≤ x.heap.size
theorem Dt.has {d : Nat} {D : Nat → Prop} {s : Te} {w : World} (h : Dt d D s w) : D d ∧ d < w.heap.size := by
  obtain ⟨_, _, _, h⟩ := h
  exact ⟨h.pd, h.blk.lt⟩
section
variable {p g d k : Nat} {w x y : World} {D : Nat → Prop} {s t : Te}
theorem Jt.room (h : Jt p g d k w x D s) : ∀ z, x.heap.size ≤ z → p ≤ z ∧ ¬ D z := fun z hz => ⟨Nat.le_trans h.hp hz, fun e => by have := (h.dD z e).2; omega⟩
theorem Jt.first (h : Jt p g d k w x D s) (h1 : Pt g (fun z => p ≤ z ∧ ¬ D z) t y) (h2 : Kq (fun z => p ≤ z ∧ ¬ D z) x y) : Jh p g d w y D s t := by
  have hs := h2.size
  refine ⟨h1, ?_, fun z e => ⟨(h.dD z e).1, Nat.lt_of_lt_of_le (h.dD z e).2 hs⟩, h2.below h.below h.hp (fun _ hz => hz.1), Nat.le_trans h.hp hs⟩
  obtain ⟨vn, vo, vf, hd⟩ := h.dt
  exact ⟨vn, vo, vf, hd.kq h2 (fun z hz e => e.2 hz)⟩
theorem Jh.second (h : Jh p g d w x D s t) (h1 : Dt d (fun z => D z ∨ x.heap.size ≤ z) t y) (h2 : Kq (fun z => z = d ∨ x.heap.size ≤ z) x y) (hl : t.now.length ≤ k) (hf : t.Fit) : Jt p g d k w y (fun z => (D z ∨ x.heap.size ≤ z) ∧ z < y.heap.size) t := by
  have hs := h2.size
  have hd := h.dt.has
  have hpd := (h.dD d hd.1).1
  have q1 : Pt g (fun z => p ≤ z ∧ ¬ D z ∧ z < x.heap.size) t x := h.pt.wide (fun z hz e => ⟨e.1, e.2, hz⟩)
  have q2 := q1.kq h2 (fun z e _ hz => by
    rcases hz with rfl | hz
    · exact e.2.1 hd.1
    · have := e.2.2; omega)
  refine ⟨q2.wide (fun z _ e => ⟨e.1, fun f => by
    rcases f.1 with f | f
    · exact e.2.1 f
    · have := e.2.2; omega⟩), ?_, fun z e => ⟨?_, e.2⟩, ?_, hl, hf, Nat.le_trans h.hp hs⟩
  · obtain ⟨vn, vo, vf, h3⟩ := h1
    exact ⟨vn, vo, vf, h3.cutD⟩
  · rcases e.1 with f | f
    · exact (h.dD z f).1
    · exact Nat.le_trans h.hp f
  · refine h2.below h.below h.hp (fun z hz => ?_)
    rcases hz with rfl | hz
    · exact hpd
    · exact Nat.le_trans h.hp hz
theorem Jt.same (h : Jt p g d k w x D s) (b : Below x.heap.size x y) : Jt p g d k w y D s := by
  refine ⟨h.pt.below b, ?_, fun z e => ⟨(h.dD z e).1, Nat.lt_of_lt_of_le (h.dD z e).2 b.size⟩, h.below.trans (b.mono h.hp), h.len, h.fit, Nat.le_trans h.hp b.size⟩
  obtain ⟨vn, vo, vf, hd⟩ := h.dt
  exact ⟨vn, vo, vf, hd.below b⟩
theorem Jh.same (h : Jh p g d w x D s t) (b : Below x.heap.size x y) : Jh p g d w y D s t := by
  refine ⟨h.pt.below b, ?_, fun z e => ⟨(h.dD z e).1, Nat.lt_of_lt_of_le (h.dD z e).2 b.size⟩, h.below.trans (b.mono h.hp), Nat.le_trans h.hp b.size⟩
  obtain ⟨vn, vo, vf, hd⟩ := h.dt
  exact ⟨vn, vo, vf, hd.below b⟩
theorem Jt.more (h : Jt p g d k w x D s) : Jt p g d (k + 1) w x D s := ⟨h.pt, h.dt, h.dD, h.below, Nat.le_succ_of_le h.len, h.fit, h.hp⟩
theorem Dt.forget (h : Dt d D s w) : Dt d D s.forget (w.setCell ⟨d, 4, none⟩ (.slice none 0 0)) ∧ Kq (fun k => k = d) w (w.setCell ⟨d, 4, none⟩ (.slice none 0 0)) := by
  obtain ⟨vn, vo, vf, h⟩ := h
  have K3 := Kq.one w d 4 (.slice none 0 0)
  refine ⟨⟨vn, _, vf, h.blk.set 4 _, h.rn.kq K3 (fun k e => (h.bn k e).2), ?_, h.rf.kq K3 (fun k e => (h.bf k e).2), h.pd, h.bn, fun k e => by simp [Value.ownBlock] at e, h.bf, h.cn, fun ao n c e => ?_, h.cf, fun k e => Nat.lt_of_lt_of_le (h.ln k e) K3.size, fun k e => by simp [Value.ownBlock] at e, fun k e => Nat.lt_of_lt_of_le (h.lf k e) K3.size⟩, K3⟩
  · exact ⟨none, 0, rfl, fun _ => ⟨rfl, rfl⟩, fun k hk => by simp [Te.forget] at hk⟩
  · injection e with e1 e2 e3; omega
/-- A new one. -/
theorem Dt.new (w : World) (h i : Nat) (D : Nat → Prop) (hD : D w.heap.size) : Dt w.heap.size D ⟨h, i, [], [], [], 0⟩ (w.alloc (.cells #[.int .i64 h, .int .u64 i, .int .u64 0, .slice none 0 0, .slice none 0 0, .slice none 0 0] 33)) := by
  have hw : ∀ (α : Type) (c : Nat) (dec : α → List Value) (x : World), Wide c dec x (.slice none 0 0) ([] : List α) := fun α c dec x => ⟨none, 0, rfl, fun _ => ⟨rfl, rfl⟩, fun k hk => by simp at hk⟩
  have ho : ∀ k, (Value.slice none 0 0).ownBlock = some k → False := fun k e => by simp [Value.ownBlock] at e
  have hc : ∀ (ao : Option Addr) (n c : Nat), Value.slice none 0 0 = .slice ao n c → n ≤ c := fun ao n c e => by injection e with e1 e2 e3; omega
  exact ⟨_, _, _, heap_alloc_new w _, hw _ _ _ _, hw _ _ _ _, hw _ _ _ _, hD, fun k e => (ho k e).elim, fun k e => (ho k e).elim, fun k e => (ho k e).elim, hc, hc, hc, fun k e => (ho k e).elim, fun k e => (ho k e).elim, fun k e => (ho k e).elim⟩
theorem Jh.raise {X : Tr} (h : Jh p g d w x D s (s.raise X)) (hl : s.now.length ≤ k) (hk : (k + 1) * 8 ≤ 140737488355328) (hf : s.Fit) (hh : s.hist ≤ 254) : Calls Try.prog 10 #[.pointer (some ⟨d, 0, none⟩), .agg X.arr] x fun e w' => e = .returned (.bool (s.can X)) ∧ ∃ D', Jt p g d (k + 1) w w' D' (s.raise X) := by
  obtain ⟨vn, vo, vf, hd⟩ := h.dt
  refine (draise_any hd (by omega) hf hh X).mono ?_
  rintro e w' ⟨h1, h2, h3⟩
  exact ⟨h1, _, h.second h2 (h3.mono (fun z e => .inl e)) (by have := Te.raise_len s X; omega) (hf.raise X)⟩
theorem Jh.clear {c : Nat} (h : Jh p g d w x D s (s.clear c)) (hl : s.now.length ≤ k) (hk : (k + 1) * 8 ≤ 140737488355328) (hf : s.Fit) : Calls Try.prog 12 #[.pointer (some ⟨d, 0, none⟩), .int .u16 c] x fun e w' => e = .returned (.bool (s.there c)) ∧ ∃ D', Jt p g d (k + 1) w w' D' (s.clear c) := by
  obtain ⟨vn, vo, vf, hd⟩ := h.dt
  refine (dclear_any hd (by omega) c).mono ?_
  rintro e w' ⟨h1, h2, h3⟩
  exact ⟨h1, _, h.second h2 (h3.mono (fun z e => .inl e)) (by have := Te.clear_len s c; omega) (hf.clear c)⟩
theorem Jh.tick (h : Jh p g d w x D s s.tick) (hl : s.now.length ≤ k) (hf : s.Fit) (hq : s.quiet ≤ 4294967296) : Calls Try.prog 14 #[.pointer (some ⟨d, 0, none⟩)] x fun e w' => e = .returned (.bool s.tick.may) ∧ ∃ D', Jt p g d (k + 1) w w' D' s.tick := by
  obtain ⟨vn, vo, vf, hd⟩ := h.dt
  refine (dtick_any hd hq).mono ?_
  rintro e w' ⟨h1, ⟨v1, v2, v3, h2⟩, h3⟩
  exact ⟨h1, _, h.second ⟨_, _, _, h2.wide (fun z e => .inl e)⟩ (h3.mono (fun z e => .inl e)) (by show s.now.length ≤ _; omega) hf⟩
theorem Jh.frame (h : Jh p g d w x D s s.frame) (hl : s.now.length ≤ k) (hf : s.Fit) : Calls Try.prog 16 #[.pointer (some ⟨d, 0, none⟩)] x fun e w' => e = .returned (.tuple #[.agg s.fa, .bool s.may]) ∧ Kq (fun z => z = d ∨ x.heap.size ≤ z) x w' ∧ ∃ D', Jt p g d (k + 1) w w' D' s.frame := by
  refine (dFrame_any h.dt (fun z e => (h.dD z e).2)).mono ?_
  rintro e w' ⟨h1, ⟨v1, v2, v3, h2⟩, h3⟩
  have hn : s.frame.now = s.now := by unfold Te.frame; split <;> rfl
  exact ⟨h1, h3, _, h.second ⟨_, _, _, h2.wide (fun z e => .inl e)⟩ h3 (by rw [hn]; omega) hf.frame⟩
theorem Jh.forget (h : Jh p g d w x D s s.forget) (hl : s.now.length ≤ k) : ∃ D', Jt p g d (k + 1) w (x.setCell ⟨d, 4, none⟩ (.slice none 0 0)) D' s.forget := by
  have h1 := h.dt.forget
  obtain ⟨v1, v2, v3, h2⟩ := h1.1
  exact ⟨_, h.second ⟨_, _, _, h2.wide (fun z e => .inl e)⟩ (h1.2.mono (fun z e => .inl e)) (by show s.now.length ≤ _; omega) (by unfold Te.Fit Te.forget; simp)⟩
end
end Go.Proofs.Ytlkocebgkmdeoaa
