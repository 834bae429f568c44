/- The document's calls answer as the program's. -/
import Derived.Test.YtjkkclojidhgdaaX7
namespace Go.Proofs.Ytjkkclojidhgdaa
open Go.RowKit Go.Maps Go.WideMaps
set_option linter.unusedVariables false
set_option maxRecDepth 1000000
set_option linter.unusedSimpArgs false
theorem dts_len (now : Nat) (es : List Tm) : (dts now es).length = es.length := List.length_map ..
theorem dts_get {now : Nat} {es : List Tm} {k : Nat} (h : k < (dts now es).length) : (dts now es)[k] = dtOf now (es[k]'(by rw [dts_len] at h; exact h)) := List.getElem_map (dtOf now)
theorem find_fnd {now : Nat} {es : List Tm} {no : Int} {k : Nat} (f : Fnd (dts now es) no k) : ∃ h : k < es.length, findT es no = some es[k] ∧ (es[k].no : Int) = no := by
  have hk : k < es.length := by have := f.lt; rw [dts_len] at this; exact this
  have h0 := f.at'
  rw [dts_get] at h0
  have h1 : (es[k].no : Int) = no := h0
  refine ⟨hk, ?_, h1⟩
  unfold findT
  rw [List.find?_eq_some_iff_getElem]
  refine ⟨by simpa using h1, k, hk, rfl, fun j hj => ?_⟩
  have h2 := f.ahead j (by rw [dts_len]; omega) hj
  rw [dts_get] at h2
  have h3 : ¬ ((es[j].no : Int) = no) := h2
  simpa using h3
theorem find_none {now : Nat} {es : List Tm} {no : Int} (f : ∀ j (hj : j < (dts now es).length), ((dts now es)[j].no : Int) ≠ no) : findT es no = none := by
  unfold findT
  rw [List.find?_eq_none]
  intro t ht
  obtain ⟨j, hj, rfl⟩ := List.getElem_of_mem ht
  have h2 := f j (by rw [dts_len]; exact hj)
  rw [dts_get] at h2
  have h3 : ¬ ((es[j].no : Int) = no) := h2
  simpa using h3
theorem without_at : ∀ {es : List Tm}, Rise es → ∀ {k : Nat} (hk : k < es.length), without es[k].no es = es.take k ++ es.drop (k + 1)
  | [], _, k, hk => by simp at hk
  | y :: r, hr, 0, hk => by
    obtain ⟨h1, h2⟩ := List.pairwise_cons.1 hr
    show without y.no (y :: r) = r
    unfold without
    rw [List.filter_cons_of_neg (by simp)]
    exact without_low h1
  | y :: r, hr, k + 1, hk => by
    obtain ⟨h1, h2⟩ := List.pairwise_cons.1 hr
    have hk' : k < r.length := by simpa using hk
    show without r[k].no (y :: r) = y :: (r.take k ++ r.drop (k + 1))
    have hlt := h1 r[k] (List.getElem_mem hk')
    unfold without
    rw [List.filter_cons_of_pos (by simp; omega)]
    congr 1
    exact without_at h2 hk'
section
variable {E now given : Nat} {es : List Tm} {v : Value} {w : World}
theorem XLeft_at (h : Xw E (dts now es) now given v w) (no : Int) : Calls Try.prog 22 #[.pointer (some ⟨E, 0, none⟩), .int .i64 no] w fun e w' => w' = w ∧ e = .returned (.tuple #[.int .u64 (leftF now es no).1, .bool (leftF now es no).2]) := by
  refine (XLeft_any h no).mono ?_
  rintro e w' ⟨rfl, ⟨k, hk, rfl, f⟩ | ⟨rfl, f⟩⟩
  · obtain ⟨h1, h2, h3⟩ := find_fnd f
    refine ⟨rfl, ?_⟩
    have e1 : leftF now es no = (es[k].due - now, true) := by unfold leftF; rw [h2]
    rw [e1, dts_get]
    rfl
  · refine ⟨rfl, ?_⟩
    have e1 : leftF now es no = (0, false) := by unfold leftF; rw [find_none f]
    rw [e1]
    rfl
theorem XCancel_at (h : Xw E (dts now es) now given v w) (hr : Rise es) (no : Int) : Calls Try.prog 21 #[.pointer (some ⟨E, 0, none⟩), .int .i64 no] w fun e w' => ∃ v', e = .returned (.bool (canF es no).2) ∧ Xw E (dts now (canF es no).1) now given v' w' ∧ w.grownBy w' (some E) := by
  refine (XCancel_any h no).mono ?_
  rintro e w' (⟨k, rfl, f, v', h1, h2⟩ | ⟨rfl, f, rfl⟩)
  · obtain ⟨g1, g2, g3⟩ := find_fnd f
    have e1 : canF es no = (without es[k].no es, true) := by unfold canF; rw [g2]
    rw [e1]
    refine ⟨v', rfl, ?_, h2⟩
    show Xw E (dts now (without es[k].no es)) now given v' w'
    rw [without_at hr g1]
    unfold dts at h1 ⊢
    rw [List.map_append, List.map_take, List.map_drop]
    exact h1
  · have e1 : canF es no = (es, false) := by unfold canF; rw [find_none f]
    rw [e1]
    exact ⟨v, rfl, h, grown_refl _ _⟩
theorem next_same (hne : es ≠ []) (hd : ∀ t ∈ es, t.due ≤ now + 4294967296) : lstN (dts now es) = nextF now es := by
  obtain ⟨a1, a2, a3⟩ := fold_le now es 4294967296
  have hne2 : dts now es ≠ [] := fun e => hne (by unfold dts at e; exact List.map_eq_nil_iff.1 e)
  obtain ⟨t0, ht0, e0⟩ := lst_in hne2
  obtain ⟨x0, hx0, rfl⟩ := List.mem_map.1 ht0
  have h1 : nextF now es ≤ x0.due - now := a2 x0 hx0
  have h2 : (dtOf now x0).left = x0.due - now := rfl
  have h3 : nextF now es = 4294967296 ∨ ∃ t ∈ es, nextF now es = t.due - now := a3
  rcases h3 with h3 | ⟨t, ht, h3⟩
  · have := hd x0 hx0
    omega
  · have h4 : lstN (dts now es) ≤ (dtOf now t).left := lst_le (List.mem_map.2 ⟨t, ht, rfl⟩)
    have h5 : (dtOf now t).left = t.due - now := rfl
    omega
end
theorem XTick_at {x : Wl} {E now given : Nat} {es : List Tm} {v : Value} {w : World} (a : Rise x.ts ∧ Good now x.ts ∧ x.ts.map er = es) (h : Xw E (dts now es) now given v w) (A m : Nat) (hA : min A 1048576 = m) (hnow : now < 576460752303423488) :
    Calls Try.prog 23 #[.pointer (some ⟨E, 0, none⟩), .int .u64 A] w fun e w' => ∃ tv v', e = .returned tv ∧ Xw E (dts (now + m) (passF (now + m) es)) (now + m) given v' w' ∧ w'.ownsRow w.heap.size 3 1 tv ((tkW m now es).take 65536).length (((tkW m now es).take 65536).map (Value.int .i64)) ∧ w.grownBy w' (some E) := by
  obtain ⟨a1, a2, rfl⟩ := a
  rw [dts_er] at h
  refine (XTick_any h a1 a2 A m hA hnow).mono ?_
  rintro e w' ⟨tv, rfl, v', h1, h2, h3⟩
  refine ⟨tv, v', rfl, ?_, ?_, h3⟩
  · rw [← er_pass, dts_er]; exact h1
  · rw [← er_tkW]; exact h2
end Go.Proofs.Ytjkkclojidhgdaa
