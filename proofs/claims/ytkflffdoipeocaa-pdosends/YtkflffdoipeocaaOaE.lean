/- Whatever happens to a sender of the program's and one of the document's, once. -/
import Derived.Test.YtkflffdoipeocaaOaD
namespace Go.Proofs.Ytkflffdoipeocaa
open Go.RowKit
set_option linter.unusedVariables false
set_option maxRecDepth 1000000
/-- An act as it is handed in. -/
def actV (kd : Int) (b : Bool) (n : Nat) : Value := .agg #[.int .i64 kd, .bool b, .int .u8 n]
/-- What 'does' leaves. -/
def DoesP (g q : Nat) (s t : Os) (kd : Int) (b : Bool) (w : World) (e : Ending) (w' : World) : Prop := e = .returned (.tuple #[.bool (s.actO kd), .bool (t.actO kd)]) ∧ Oa g (s.act kd b) w' ∧ Od q (t.act kd b) w' ∧ Two g q w w'
set_option maxHeartbeats 1000000 in
theorem does_any {g q : Nat} {s t : Os} {w : World} (ks : s.ok) (kt : t.ok) (cs : s.few 4611686018427387903) (ct : t.few 4611686018427387903) (hS : Oa g s w) (hD : Od q t w) (hgq : g ≠ q) (kd : Int) (b : Bool) (n : Nat) (hn : n < 256) :
    Calls Try.prog 12 #[.pointer (some ⟨g, 0, none⟩), .pointer (some ⟨q, 0, none⟩), actV kd b n] w (DoesP g q s t kd b w) := by
  obtain ⟨w0, hw0⟩ : ∃ x, w.alloc (.cells #[.int .i64 kd, .bool b, .int .u8 n] 36) = x := ⟨_, rfl⟩
  obtain ⟨p, hp⟩ : ∃ x, w.heap.size = x := ⟨_, rfl⟩
  have lg := Bc.lt hS
  have lq := Bc.lt hD
  rw [hp] at lg lq
  have HA : Hid (Bc 36 p #[.int .i64 kd, .bool b, .int .u8 n] w0) := by
    show Bc _ _ _ _
    rw [← hw0, ← hp]
    exact heap_alloc_new w _
  have hS0 : Oa g s w0 := by rw [← hw0]; exact Bc.alloc hS _
  have hD0 : Od q t w0 := by rw [← hw0]; exact Bc.alloc hD _
  have T0 : Two g q w w0 := by rw [← hw0]; exact (Two.refl _ _ _).alloc _
  have HC : Hid (∀ x, Two g q w0 x → x.cell? ⟨p, 0, none⟩ = some (.int .i64 kd) ∧ x.cell? ⟨p, 1, none⟩ = some (.bool b) ∧ x.cell? ⟨p, 2, none⟩ = some (.int .u8 n)) := fun x hx => by
    have := Bc.two HA.out hx (by omega) (by omega)
    exact ⟨Bc.cell this 0, Bc.cell this 1, Bc.cell this 2⟩
  obtain ⟨c0, c1, c2⟩ := HC.out w0 (Two.refl _ _ _)
  unfold actV
  clear hS hD
  by_cases h0 : kd = 0
  · subst h0
    have h1 := event_any hS0
    have E1 : s.actO 0 = s.evO ∧ t.actO 0 = t.evO ∧ s.act 0 b = s.ev ∧ t.act 0 b = t.ev := ⟨rfl, rfl, rfl, rfl⟩
    have HE : Hid (s.actO 0 = s.evO ∧ t.actO 0 = t.evO ∧ s.act 0 b = s.ev ∧ t.act 0 b = t.ev) := E1
    clear E1
    go_enter Try.func12, Try.ntmps12
    go_upto_region 1 with fail
    try rw [hw0]
    try rw [hp]
    go_wp2_with fail
    refine h1.mono ?_
    rintro e w1 ⟨rfl, S1, T1⟩
    have h2 := devent_any (Bc.two hD0 T1 (Ne.symm hgq) (Ne.symm hgq))
    go_wp2_with fail
    refine h2.mono ?_
    rintro e w2 ⟨rfl, D2, T2⟩
    have S2 := Bc.two S1 T2 hgq hgq
    clear h1 h2
    go_wp2_with fail
    go_ret2
    obtain ⟨e1, e2, e3, e4⟩ := HE.out
    unfold DoesP
    rw [e1, e2, e3, e4]
    exact ⟨rfl, S2, D2, (T0.trans (T1.left q)).trans (T2.right g)⟩
  · have d0 : (kd == 0) = false := by simp [h0]
    by_cases h1 : kd = 1
    · subst h1
      have h1 := fun c => sync_any ks hS0 c
      have HE : Hid (s.actO 1 = s.syO ∧ t.actO 1 = t.syO ∧ s.act 1 b = s.sy ∧ t.act 1 b = t.sy) := ⟨rfl, rfl, rfl, rfl⟩
      clear h0 d0
      go_enter Try.func12, Try.ntmps12
      go_upto_region 1 with fail
      try rw [hw0]
      try rw [hp]
      go_wp2_with fail
      refine (h1 _).mono ?_
      rintro e w1 ⟨rfl, S1, T1⟩
      have h2 := dsync_any kt (Bc.two hD0 T1 (Ne.symm hgq) (Ne.symm hgq)) (by have := ct.2; omega)
      go_wp2_with fail
      refine h2.mono ?_
      rintro e w2 ⟨rfl, D2, T2⟩
      have S2 := Bc.two S1 T2 hgq hgq
      clear h1 h2
      go_wp2_with fail
      go_ret2
      obtain ⟨e1, e2, e3, e4⟩ := HE.out
      unfold DoesP
      rw [e1, e2, e3, e4]
      exact ⟨rfl, S2, D2, (T0.trans (T1.left q)).trans (T2.right g)⟩
    · have d1 : (kd == 1) = false := by simp [h1]
      by_cases h2 : kd = 2
      · subst h2
        have h1 := tick_any ks hS0 (by have := cs.1; omega)
        have HE : Hid (s.actO 2 = s.tkO ∧ t.actO 2 = t.tkO ∧ s.act 2 b = s.tk ∧ t.act 2 b = t.tk) := ⟨rfl, rfl, rfl, rfl⟩
        clear h0 d0 d1
        go_enter Try.func12, Try.ntmps12
        go_upto_region 1 with fail
        try rw [hw0]
        try rw [hp]
        go_wp2_with fail
        refine h1.mono ?_
        rintro e w1 ⟨rfl, S1, T1⟩
        have h2 := dtick_any kt (Bc.two hD0 T1 (Ne.symm hgq) (Ne.symm hgq)) (by have := ct.1; omega)
        go_wp2_with fail
        refine h2.mono ?_
        rintro e w2 ⟨rfl, D2, T2⟩
        have S2 := Bc.two S1 T2 hgq hgq
        clear h1 h2
        go_wp2_with fail
        go_ret2
        obtain ⟨e1, e2, e3, e4⟩ := HE.out
        unfold DoesP
        rw [e1, e2, e3, e4]
        exact ⟨rfl, S2, D2, (T0.trans (T1.left q)).trans (T2.right g)⟩
      · have d2 : (kd == 2) = false := by simp [h2]
        by_cases h3 : kd = 3
        · subst h3
          have h1 := start_any hS0 b
          have HE : Hid (s.actO 3 = false ∧ t.actO 3 = false ∧ s.act 3 b = s.st b ∧ t.act 3 b = t.st b) := ⟨rfl, rfl, rfl, rfl⟩
          clear h0 h2 d0 d1 d2
          go_enter Try.func12, Try.ntmps12
          go_upto_region 1 with fail
          try rw [hw0]
          try rw [hp]
          go_wp2_with fail
          refine h1.mono ?_
          rintro e w1 ⟨rfl, S1, T1⟩
          have h2 := dstart_any (Bc.two hD0 T1 (Ne.symm hgq) (Ne.symm hgq)) b
          obtain ⟨x0, x1, x2⟩ := HC.out w1 (T1.left q)
          clear c0 c1 c2
          go_wp2_with fail
          refine h2.mono ?_
          rintro e w2 ⟨rfl, D2, T2⟩
          have S2 := Bc.two S1 T2 hgq hgq
          clear h1 h2
          go_wp2_with fail
          go_ret2
          obtain ⟨e1, e2, e3, e4⟩ := HE.out
          unfold DoesP
          rw [e1, e2, e3, e4]
          exact ⟨rfl, S2, D2, (T0.trans (T1.left q)).trans (T2.right g)⟩
        · have d3 : (kd == 3) = false := by simp [h3]
          have HE : Hid (s.actO kd = false ∧ t.actO kd = false ∧ s.act kd b = s ∧ t.act kd b = t) := by
            show _ ∧ _
            simp [Os.actO, Os.act, h0, h1, h2, h3]
          clear h0 h1 h2 h3
          go_enter Try.func12, Try.ntmps12
          go_upto_region 1 with fail
          try rw [hw0]
          try rw [hp]
          go_wp2_with fail
          go_ret2
          obtain ⟨e1, e2, e3, e4⟩ := HE.out
          unfold DoesP
          rw [e1, e2, e3, e4]
          exact ⟨rfl, hS0, hD0, T0⟩
end Go.Proofs.Ytkflffdoipeocaa
