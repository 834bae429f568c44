/- Takers: NewTaker, Start, Take, Sync; the small living call. -/
import Derived.Test.YtkflffdoipeocaaOaE
import Derived.Test.YtkflffdoipeocaaRwX
namespace Go.Proofs.Ytkflffdoipeocaa
open Go.RowKit
set_option linter.unusedVariables false
set_option maxRecDepth 1000000

/-- A taker: whether objects count at once, whether it goes, what waits. -/
structure Tks where
  once : Bool
  on : Bool
  wt : Option (List UInt8)
/-- A taker in block g; what waits lies in a block that P allows, other than g. -/
def Ta (g : Nat) (P : Nat → Prop) (s : Tks) (w : World) : Prop := ∃ v l, (s.wt = some l ∨ s.wt = none ∧ v = .slice none 0 0 ∧ l = []) ∧ Bc 65 g #[.bool s.once, .bool s.on, .bool s.wt.isSome, v] w ∧ w.ownsRow 0 5 1 v l.length (Lib.byteCells l) ∧ (∀ k, v.ownBlock = some k → k ≠ g ∧ P k)
section
variable {g B : Nat} {P : Nat → Prop} {s : Tks} {w w' : World}
theorem Ta.lt (h : Ta g P s w) : g < w.heap.size := by
  obtain ⟨v, l, _, hb, _⟩ := h
  exact Bc.lt hb
theorem own_two {p q : Nat} {v : Value} {l : List UInt8} (h : w.ownsRow B 5 1 v l.length (Lib.byteCells l)) (t : Two p q w w') (h1 : ∀ k, v.ownBlock = some k → k ≠ p) (h2 : ∀ k, v.ownBlock = some k → k ≠ q) : w'.ownsRow B 5 1 v l.length (Lib.byteCells l) := by
  refine ⟨h.1, ?_⟩
  rcases h.2 with hn | ⟨g, cap, cur, hv, hb, hg, rest⟩
  · exact .inl hn
  · subst hv
    exact .inr ⟨g, cap, cur, rfl, hb, (t.block g (Array.getElem?_eq_some_iff.1 hg).1 (h1 g rfl) (h2 g rfl)).trans hg, rest⟩
theorem own_below {v : Value} {l : List UInt8} (h : w.ownsRow B 5 1 v l.length (Lib.byteCells l)) (t : Below w.heap.size w w') : w'.ownsRow B 5 1 v l.length (Lib.byteCells l) := by
  refine ⟨h.1, ?_⟩
  rcases h.2 with hn | ⟨g, cap, cur, hv, hb, hg, rest⟩
  · exact .inl hn
  · subst hv
    exact .inr ⟨g, cap, cur, rfl, hb, (t.block g (Array.getElem?_eq_some_iff.1 hg).1).trans hg, rest⟩
theorem Ta.below (h : Ta g P s w) (t : Below w.heap.size w w') : Ta g P s w' := by
  obtain ⟨v, l, h1, h2, h3, h4⟩ := h
  exact ⟨v, l, h1, Bc.below h2 t, own_below h3 t, h4⟩
theorem newT_bad (w : World) (t : Int) (h : isO t = false) : Calls Try.prog 19 #[.int .i64 t] w fun e w' => e = .returned (.tuple #[.pointer none, .int .i64 1]) ∧ w' = w := by
  have HM := may_any w t
  rw [h] at HM
  go_enter Try.func19, Try.ntmps19
  go_wp2_with (go_at_call 24; refine HM.mono ?_; rintro e w' ⟨rfl, rfl⟩)
  go_ret2
  exact ⟨rfl, rfl⟩
theorem newT_ok (w : World) (t : Int) (h : isO t = true) : Calls Try.prog 19 #[.int .i64 t] w fun e w' => e = .returned (.tuple #[.pointer (some ⟨w.heap.size, 0, none⟩), .int .i64 0]) ∧ Ta w.heap.size P ⟨freeO t, false, none⟩ w' ∧ Below w.heap.size w w' := by
  have HM := may_any w t
  rw [h] at HM
  have HF := once_any w t
  have HN : Hid (Ta w.heap.size P ⟨freeO t, false, none⟩ (w.alloc (.cells #[.bool (freeO t), .bool false, .bool false, .slice none 0 0] 65)) ∧ Below w.heap.size w (w.alloc (.cells #[.bool (freeO t), .bool false, .bool false, .slice none 0 0] 65))) :=
    ⟨⟨.slice none 0 0, [], .inr ⟨rfl, rfl, rfl⟩, heap_alloc_new w _, World.ownsRow_nil _ _ _ _, fun k h => by simp [Value.ownBlock] at h⟩, (Below.refl _ _).alloc (Nat.le_refl _) _⟩
  generalize freeO t = f at *
  go_enter Try.func19, Try.ntmps19
  go_wp2_with (first | (go_at_call 24; refine HM.mono ?_; rintro e w' ⟨rfl, rfl⟩) | (go_at_call 28; refine HF.mono ?_; rintro e w' ⟨rfl, rfl⟩))
  go_ret2
  exact ⟨rfl, HN.out.1, HN.out.2⟩
theorem tstart_any (h : Ta g P s w) (b : Bool) : Calls Try.prog 23 #[.pointer (some ⟨g, 0, none⟩), .bool b] w fun e w' => e = .returned (.tuple #[]) ∧ Ta g P (if b = s.on then s else ⟨s.once, b, none⟩) w' ∧ Two g g w w' := by
  obtain ⟨v, l, h1, h2, h3, h4⟩ := h
  have c0 := Bc.cell h2 0
  have c1 := Bc.cell h2 1
  have c2 := Bc.cell h2 2
  have c3 := Bc.cell h2 3
  replace c0 : w.cell? ⟨g, 0, none⟩ = some (.bool s.once) := c0
  replace c1 : w.cell? ⟨g, 1, none⟩ = some (.bool s.on) := c1
  replace c2 : w.cell? ⟨g, 2, none⟩ = some (.bool s.wt.isSome) := c2
  replace c3 : w.cell? ⟨g, 3, none⟩ = some v := c3
  have f1 := Bc.frozen h2 1
  have f2 := Bc.frozen h2 2
  have f3 := Bc.frozen h2 3
  by_cases hb : b = s.on
  · rw [if_pos hb]
    have HH : Hid (Ta g P s w) := ⟨v, l, h1, h2, h3, h4⟩
    rw [← hb] at c1
    clear h1 h2 h3 h4 hb
    cases b
    all_goals
      go_enter Try.func23, Try.ntmps23
      go_wp2
      go_end0
      exact ⟨rfl, HH.out, Two.refl _ _ _⟩
  · rw [if_neg hb]
    have HH : Hid (Ta g P ⟨s.once, b, none⟩ (((w.setCell ⟨g, 1, none⟩ (.bool b)).setCell ⟨g, 2, none⟩ (.bool false)).setCell ⟨g, 3, none⟩ (.slice none 0 0))) :=
      ⟨.slice none 0 0, [], .inr ⟨rfl, rfl, rfl⟩, ((Bc.set h2 1 (.bool b)).set 2 (.bool false)).set 3 (.slice none 0 0), World.ownsRow_nil _ _ _ _, fun k h => by simp [Value.ownBlock] at h⟩
    clear h1 h2 h3 h4
    generalize s.on = c at *
    cases b <;> cases c <;> first | (exact absurd rfl hb) | skip
    all_goals
      clear hb
      go_enter Try.func23, Try.ntmps23
      go_wp2
      go_end0
      exact ⟨rfl, HH.out, (((Two.refl _ _ _).at0 _ _).at0 _ _).at0 _ _⟩
theorem tsync_any (h : Ta g P s w) : Calls Try.prog 22 #[.pointer (some ⟨g, 0, none⟩)] w fun e w' => ∃ v l, e = .returned (.tuple #[v, .bool s.wt.isSome]) ∧ (s.wt = some l ∨ s.wt = none ∧ v = .slice none 0 0 ∧ l = []) ∧ w'.ownsRow 0 5 1 v l.length (Lib.byteCells l) ∧ (∀ k, v.ownBlock = some k → k ≠ g ∧ P k) ∧ Ta g P ⟨s.once, s.on, none⟩ w' ∧ Two g g w w' := by
  obtain ⟨v, l, h1, h2, h3, h4⟩ := h
  have c0 := Bc.cell h2 0
  have c1 := Bc.cell h2 1
  have c2 := Bc.cell h2 2
  have c3 := Bc.cell h2 3
  replace c0 : w.cell? ⟨g, 0, none⟩ = some (.bool s.once) := c0
  replace c1 : w.cell? ⟨g, 1, none⟩ = some (.bool s.on) := c1
  replace c2 : w.cell? ⟨g, 2, none⟩ = some (.bool s.wt.isSome) := c2
  replace c3 : w.cell? ⟨g, 3, none⟩ = some v := c3
  have f2 := Bc.frozen h2 2
  have f3 := Bc.frozen h2 3
  have HT : Hid (∀ n, Two g g w (((w.drewN n).setCell ⟨g, 2, none⟩ (.bool false)).setCell ⟨g, 3, none⟩ (.slice none 0 0))) := fun n => ((Two.draw _ g _).at0 _ _).at0 _ _
  have HH : Hid (∀ n, Ta g P ⟨s.once, s.on, none⟩ (((w.drewN n).setCell ⟨g, 2, none⟩ (.bool false)).setCell ⟨g, 3, none⟩ (.slice none 0 0))) := fun n =>
    ⟨.slice none 0 0, [], .inr ⟨rfl, rfl, rfl⟩, ((Bc.drawn h2 n).set 2 (.bool false)).set 3 (.slice none 0 0), World.ownsRow_nil _ _ _ _, fun k h => by simp [Value.ownBlock] at h⟩
  have HO : Hid (∀ n, (((w.drewN n).setCell ⟨g, 2, none⟩ (.bool false)).setCell ⟨g, 3, none⟩ (.slice none 0 0)).ownsRow 0 5 1 v l.length (Lib.byteCells l)) := fun n => own_two h3 (HT.out n) (fun k e => (h4 k e).1) (fun k e => (h4 k e).1)
  have H1 : Hid (s.wt = some l ∨ s.wt = none ∧ v = .slice none 0 0 ∧ l = []) := h1
  have H4 : Hid (∀ k, v.ownBlock = some k → k ≠ g ∧ P k) := h4
  have hsv : ∃ ao m cap, v = .slice ao m cap := by
    rcases h3.2 with ⟨rfl, _⟩ | ⟨q, cap, cur, rfl, _⟩
    · exact ⟨_, _, _, rfl⟩
    · exact ⟨_, _, _, rfl⟩
  obtain ⟨ao, m, cap, rfl⟩ := hsv
  clear h1 h2 h3 h4
  generalize s.wt.isSome = b at *
  go_enter Try.func22, Try.ntmps22
  go_wp2_with fail
  go_quiet (fail)
  go_wp2
  go_ret2
  exact ⟨_, l, rfl, H1.out, HO.out _, H4.out, HH.out _, HT.out _⟩
theorem Two.of_below {p q : Nat} (t : Below w.heap.size w w') : Two p q w w' := ⟨t.os, t.tape, t.output, t.size, fun k hk _ _ => t.block k hk⟩
theorem Ta.two {p q : Nat} (h : Ta g P s w) (t : Two p q w w') (h1 : g ≠ p) (h2 : g ≠ q) (h3 : ∀ k, P k → k ≠ p) (h4 : ∀ k, P k → k ≠ q) : Ta g P s w' := by
  obtain ⟨v, l, x1, x2, x3, x4⟩ := h
  exact ⟨v, l, x1, Bc.two x2 t h1 h2, own_two x3 t (fun k e => h3 k (x4 k e).2) (fun k e => h4 k (x4 k e).2), x4⟩
theorem Ta.wide {R : Nat → Prop} (h : Ta g P s w) (hR : ∀ k, k < w.heap.size → P k → R k) : Ta g R s w := by
  obtain ⟨v, l, x1, x2, x3, x4⟩ := h
  refine ⟨v, l, x1, x2, x3, fun k e => ⟨(x4 k e).1, hR k ?_ (x4 k e).2⟩⟩
  rcases x3.2 with ⟨rfl, _⟩ | ⟨q, cap, cur, rfl, _, hg, _⟩
  · simp [Value.ownBlock] at e
  · simp [Value.ownBlock] at e
    subst e
    exact (Array.getElem?_eq_some_iff.1 hg).1
theorem own_low {C : Nat} {v : Value} {n : Nat} {xs : List Value} {T : TypeId} {c : Nat} (h : w.ownsRow B T c v n xs) (hC : C ≤ B) : w.ownsRow C T c v n xs := by
  refine ⟨h.1, ?_⟩
  rcases h.2 with hn | ⟨g, cap, cur, hv, hb, rest⟩
  · exact .inl hn
  · exact .inr ⟨g, cap, cur, hv, Nat.le_trans hC hb, rest⟩
/-- What Take leaves. -/
def TkP (g : Nat) (P : Nat → Prop) (s : Tks) (l : List UInt8) (w : World) (e : Ending) (w' : World) : Prop := ∃ x m, e = .returned (.tuple #[x, .bool (s.on && s.once)]) ∧ w'.ownsRow w.heap.size 5 1 x (List.length m) (Lib.byteCells m) ∧ (m = if s.on && s.once then l else []) ∧ Ta g P (if s.on && !s.once then ⟨s.once, s.on, some l⟩ else s) w' ∧ Two g g w w'
theorem ttake_any (h : Ta g P s w) (hP : ∀ k, w.heap.size ≤ k → P k) (v : Value) (l : List UInt8) (hl : l.length ≤ 140737488355328) (hB : Bytes w v l) : Calls Try.prog 21 #[.pointer (some ⟨g, 0, none⟩), v] w (TkP g P s l w) := by
  have hlt := h.lt
  have HH : Hid (Ta g P s w) := h
  obtain ⟨v0, l0, h1, h2, h3, h4⟩ := h
  have c0 := Bc.cell h2 0
  have c1 := Bc.cell h2 1
  replace c0 : w.cell? ⟨g, 0, none⟩ = some (.bool s.once) := c0
  replace c1 : w.cell? ⟨g, 1, none⟩ = some (.bool s.on) := c1
  have HC := Clone_any v l w hl hB
  have hsv : ∃ ao m cap, v = .slice ao m cap := by
    obtain ⟨ao, cap, rfl, _⟩ := hB
    exact ⟨_, _, _, rfl⟩
  obtain ⟨ao, m, cap, rfl⟩ := hsv
  cases hon : s.on
  · rw [hon] at c1
    have HE : Hid (TkP g P s l w (.returned (.tuple #[.slice none 0 0, .bool false])) w) := ⟨.slice none 0 0, [], by rw [hon]; rfl, World.ownsRow_nil _ _ _ _, by simp [hon], by simpa [hon] using HH.out, Two.refl _ _ _⟩
    clear h1 h2 h3 h4 hon hB
    go_enter Try.func21, Try.ntmps21
    go_wp2
    go_ret2
    exact HE.out
  · rw [hon] at c1
    have HX : Hid (∀ x w1, w1.ownsRow w.heap.size 5 1 x l.length (Lib.byteCells l) → Below w.heap.size w w1 → Bc 65 g #[.bool s.once, .bool true, .bool s.wt.isSome, v0] w1 ∧ (s.once = true → TkP g P s l w (.returned (.tuple #[x, .bool true])) w1) ∧ (s.once = false → TkP g P s l w (.returned (.tuple #[.slice none 0 0, .bool false])) ((w1.setCell ⟨g, 2, none⟩ (.bool true)).setCell ⟨g, 3, none⟩ x))) := by
      intro x w1 r1 b1
      have B1 := Bc.below h2 b1
      rw [hon] at B1
      refine ⟨B1, fun ho => ⟨x, l, by rw [hon, ho]; rfl, r1, by simp [hon, ho], by simpa [hon, ho] using HH.out.below b1, Two.of_below b1⟩, fun ho => ⟨.slice none 0 0, [], by rw [hon, ho]; rfl, World.ownsRow_nil _ _ _ _, by simp [ho], ?_, ((Two.of_below b1).at0 _ _).at0 _ _⟩⟩
      have hx : ∀ k, x.ownBlock = some k → w.heap.size ≤ k := fun k e => own_lt r1 k e
      have T1 : Two g g w1 ((w1.setCell ⟨g, 2, none⟩ (.bool true)).setCell ⟨g, 3, none⟩ x) := ((Two.refl _ _ _).at0 _ _).at0 _ _
      simp only [hon, ho, Bool.not_false, Bool.and_self, if_true]
      rw [ho] at B1
      exact ⟨x, l, .inl rfl, (B1.set 2 (.bool true)).set 3 x, own_two (own_low r1 (Nat.zero_le _)) T1 (fun k e => by have := hx k e; omega) (fun k e => by have := hx k e; omega), fun k e => ⟨by have := hx k e; omega, hP k (hx k e)⟩⟩
    clear h1 h2 h3 h4 hB HH
    cases ho : s.once
    · rw [ho] at c0
      go_enter Try.func21, Try.ntmps21
      go_wp2_with fail
      refine HC.mono ?_
      rintro e w1 ⟨x, rfl, r1, b1⟩
      obtain ⟨B1, _, E1⟩ := HX.out x w1 r1 b1
      have E2 : Hid (TkP g P s l w (.returned (.tuple #[.slice none 0 0, .bool false])) ((w1.setCell ⟨g, 2, none⟩ (.bool true)).setCell ⟨g, 3, none⟩ x)) := E1 ho
      have x0 := Bc.cell B1 0
      replace x0 : w1.cell? ⟨g, 0, none⟩ = some (.bool s.once) := x0
      rw [ho] at x0
      have x2 := Bc.cell B1 2
      replace x2 : w1.cell? ⟨g, 2, none⟩ = some (.bool s.wt.isSome) := x2
      have x3 := Bc.cell B1 3
      replace x3 : w1.cell? ⟨g, 3, none⟩ = some v0 := x3
      have f2 := Bc.frozen B1 2
      have f3 := Bc.frozen B1 3
      obtain ⟨ax, mx, cx, rfl⟩ : ∃ ao m cap, x = .slice ao m cap := by
        rcases r1.2 with ⟨rfl, _⟩ | ⟨q, cap, cur, rfl, _⟩
        · exact ⟨_, _, _, rfl⟩
        · exact ⟨_, _, _, rfl⟩
      clear B1 E1 HC r1 b1 c0 c1 HX
      go_wp2_with fail
      go_ret2
      exact E2.out
    · rw [ho] at c0
      go_enter Try.func21, Try.ntmps21
      go_wp2_with fail
      refine HC.mono ?_
      rintro e w1 ⟨x, rfl, r1, b1⟩
      obtain ⟨B1, E1, _⟩ := HX.out x w1 r1 b1
      have E2 : Hid (TkP g P s l w (.returned (.tuple #[x, .bool true])) w1) := E1 ho
      have x0 := Bc.cell B1 0
      replace x0 : w1.cell? ⟨g, 0, none⟩ = some (.bool s.once) := x0
      rw [ho] at x0
      obtain ⟨ax, mx, cx, rfl⟩ : ∃ ao m cap, x = .slice ao m cap := by
        rcases r1.2 with ⟨rfl, _⟩ | ⟨q, cap, cur, rfl, _⟩
        · exact ⟨_, _, _, rfl⟩
        · exact ⟨_, _, _, rfl⟩
      clear B1 E1 HC r1 b1 c0 c1 HX
      go_wp2_with fail
      go_ret2
      exact E2.out
end
end Go.Proofs.Ytkflffdoipeocaa
