/- pass of a wheel. -/
import Derived.Test.YtjkkclojidhgdaaW21
namespace Go.Proofs.Ytjkkclojidhgdaa
open Go.RowKit Go.Maps Go.WideMaps
set_option linter.unusedVariables false
set_option maxRecDepth 1000000
set_option linter.unusedSimpArgs false
/-- A timer, when all ticks up to E have gone by at one go. -/
def pfT (E : Nat) (t : Tm) : Option Tm := if t.due ≤ E then (if t.per = 0 then none else some { t with due := nextDue t E }) else some t
def passF (E : Nat) (ts : List Tm) : List Tm := ts.filterMap (pfT E)
/-- The same, where some are still to come. -/
def psF (E : Nat) (left : Lit → Bool) (t : Tm) : Option Tm := if left (.int .i64 t.no) then some t else pfT E t
def psT (E : Nat) (left : Lit → Bool) (ts : List Tm) : List Tm := ts.filterMap (psF E left)
theorem fm_congr {A B : Type} {f g : A → Option B} {l : List A} (h : ∀ x ∈ l, f x = g x) : l.filterMap f = l.filterMap g := by
  induction l with
  | nil => rfl
  | cons y r ih => rw [List.filterMap_cons, List.filterMap_cons, h y (List.mem_cons_self ..), ih (fun x hx => h x (List.mem_cons_of_mem _ hx))]
theorem pf_some {E : Nat} {t x : Tm} (h : pfT E t = some x) : x.no = t.no ∧ x.bk = t.bk ∧ x.per = t.per ∧ x.what = t.what ∧ (x = t ∧ E < t.due ∨ t.due ≤ E ∧ t.per ≠ 0 ∧ x.due = nextDue t E) := by
  unfold pfT at h
  split at h
  · split at h
    · cases h
    · cases h
      exact ⟨rfl, rfl, rfl, rfl, .inr ⟨by assumption, by assumption, rfl⟩⟩
  · cases h
    exact ⟨rfl, rfl, rfl, rfl, .inl ⟨rfl, by omega⟩⟩
theorem ps_some {E : Nat} {left : Lit → Bool} {t x : Tm} (h : psF E left t = some x) : x.no = t.no ∧ x.bk = t.bk ∧ x.per = t.per ∧ x.what = t.what ∧ (left (.int .i64 t.no) = true → x = t) ∧ (x = t ∨ t.due ≤ E ∧ t.per ≠ 0 ∧ x.due = nextDue t E) := by
  unfold psF at h
  split at h
  · cases h
    exact ⟨rfl, rfl, rfl, rfl, fun _ => rfl, .inl rfl⟩
  · rename_i hl
    obtain ⟨h1, h2, h3, h4, h5⟩ := pf_some h
    refine ⟨h1, h2, h3, h4, fun h => absurd h hl, ?_⟩
    rcases h5 with ⟨e, _⟩ | h5
    · exact .inl e
    · exact .inr h5
theorem ps_mem {E : Nat} {left : Lit → Bool} {ts : List Tm} {x : Tm} (h : x ∈ psT E left ts) : ∃ t ∈ ts, psF E left t = some x := by
  obtain ⟨t, ht, e⟩ := List.mem_filterMap.1 h
  exact ⟨t, ht, e⟩
theorem rise_no {ts : List Tm} (hr : Rise ts) {a b : Tm} (ha : a ∈ ts) (hb : b ∈ ts) (h : a.no = b.no) : a = b := by
  induction ts with
  | nil => cases ha
  | cons y r ih =>
    obtain ⟨h1, h2⟩ := List.pairwise_cons.1 hr
    rcases List.mem_cons.1 ha with ea | ha1
    · rcases List.mem_cons.1 hb with eb | hb1
      · rw [ea, eb]
      · have := h1 b hb1; subst ea; omega
    · rcases List.mem_cons.1 hb with eb | hb1
      · have := h1 a ha1; subst eb; omega
      · exact ih h2 ha1 hb1
theorem ps_len (E : Nat) (left : Lit → Bool) (ts : List Tm) : (psT E left ts).length ≤ ts.length := List.length_filterMap_le _ _
theorem ps_bkd {E : Nat} {left : Lit → Bool} {ts : List Tm} (hb : Bkd ts) : Bkd (psT E left ts) := by
  intro a ha b hb' e
  obtain ⟨x, hx, ex⟩ := ps_mem ha
  obtain ⟨y, hy, ey⟩ := ps_mem hb'
  obtain ⟨a1, a2, _⟩ := ps_some ex
  obtain ⟨b1, b2, _⟩ := ps_some ey
  rw [a1, b1]
  exact hb x hx y hy (by rw [← a2, ← b2]; exact e)
theorem ps_in {E : Nat} {left : Lit → Bool} {ts : List Tm} {t : Tm} (ht : t ∈ ts) (hl : left (.int .i64 t.no) = true) : t ∈ psT E left ts :=
  List.mem_filterMap.2 ⟨t, ht, by unfold psF; rw [if_pos hl]⟩
theorem ps_left {E : Nat} {left : Lit → Bool} {ts : List Tm} {x : Tm} (h : x ∈ psT E left ts) (hl : left (.int .i64 x.no) = true) : x ∈ ts := by
  obtain ⟨t, ht, e⟩ := ps_mem h
  obtain ⟨h1, _, _, _, h5, _⟩ := ps_some e
  rw [h1] at hl
  rw [h5 hl]
  exact ht
theorem ps_start {E : Nat} {left : Lit → Bool} {ts : List Tm} (h : ∀ t ∈ ts, left (.int .i64 t.no) = true) : psT E left ts = ts := by
  unfold psT
  rw [fm_congr (g := some) (fun t ht => by unfold psF; rw [if_pos (h t ht)])]
  exact List.filterMap_some
theorem ps_end {E : Nat} {left : Lit → Bool} {ts : List Tm} (h : ∀ kl, left kl = false) : psT E left ts = passF E ts := by
  unfold psT passF
  exact fm_congr (fun t ht => by unfold psF; rw [if_neg (by rw [h]; decide)])
theorem key_same (a b : Nat) : Lit.sameKey (.int .i64 (a : Int)) (.int .i64 (b : Int)) = (a == b) := by
  rw [same_int, Bool.eq_iff_iff]
  simp only [beq_iff_eq, decide_eq_true_eq]
  omega
theorem ps_past {E : Nat} {left : Lit → Bool} {ts : List Tm} (hr : Rise ts) {t : Tm} (ht : t ∈ ts) (hd : E < t.due) : psT E (fun z => left z && !z.sameKey (.int .i64 t.no)) ts = psT E left ts := by
  unfold psT
  refine fm_congr (fun x hx => ?_)
  unfold psF
  simp only [key_same]
  by_cases e : x.no = t.no
  · have := rise_no hr hx ht e
    subst this
    have e2 : pfT E x = some x := by unfold pfT; rw [if_neg (by omega)]
    rw [e2]
    simp
  · simp [e]
theorem ps_step {E : Nat} {left : Lit → Bool} {ts : List Tm} (hr : Rise ts) {t : Tm} (ht : t ∈ ts) (hl : left (.int .i64 t.no) = true) (hd : t.due ≤ E) : psT E (fun z => left z && !z.sameKey (.int .i64 t.no)) ts = run1 E (psT E left ts) t := by
  unfold run1
  by_cases hp : t.per = 0
  · rw [if_pos hp]
    unfold psT without
    rw [List.filter_filterMap]
    refine fm_congr (fun x hx => ?_)
    by_cases e : x.no = t.no
    · have := rise_no hr hx ht e
      subst this
      have e2 : pfT E x = none := by unfold pfT; rw [if_pos hd, if_pos hp]
      unfold psF
      simp only [key_same]
      rw [e2, if_pos hl]
      simp [Option.filter]
    · have e3 : psF E (fun z => left z && !z.sameKey (.int .i64 t.no)) x = psF E left x := by
        unfold psF
        simp only [key_same]
        simp [e]
      rw [e3]
      cases hq : psF E left x with
      | none => rfl
      | some y =>
        have := (ps_some hq).1
        simp [Option.filter, this, e]
  · rw [if_neg hp]
    unfold psT replT
    rw [List.map_filterMap]
    refine fm_congr (fun x hx => ?_)
    by_cases e : x.no = t.no
    · have := rise_no hr hx ht e
      subst this
      have e2 : pfT E x = some { x with due := nextDue x E } := by unfold pfT; rw [if_pos hd, if_neg hp]
      unfold psF
      simp only [key_same]
      rw [e2, if_pos hl]
      simp
    · have e3 : psF E (fun z => left z && !z.sameKey (.int .i64 t.no)) x = psF E left x := by
        unfold psF
        simp only [key_same]
        simp [e]
      rw [e3]
      cases hq : psF E left x with
      | none => rfl
      | some y =>
        have := (ps_some hq).1
        simp [this, e]
theorem nextDue_gt (t : Tm) (E : Nat) (hd : t.due ≤ E) (hp : t.per ≠ 0) : E < nextDue t E ∧ nextDue t E ≤ E + t.per := by
  unfold nextDue
  have h1 := Nat.div_add_mod (E - t.due) t.per
  have h2 := Nat.mod_lt (E - t.due) (Nat.pos_of_ne_zero hp)
  rw [Nat.mul_comm] at h1
  omega
theorem pass_good {now E : Nat} {ts : List Tm} (h : Good now ts) (hE : now ≤ E) : Good E (passF E ts) := by
  have e : passF E ts = psT E (fun _ => false) ts := (ps_end (fun _ => rfl)).symm
  refine ⟨by rw [e]; exact ps_bkd h.bkd, by rw [e]; exact Nat.le_trans (ps_len _ _ _) h.len, fun x hx => ?_⟩
  obtain ⟨t, ht, ex⟩ := List.mem_filterMap.1 hx
  obtain ⟨a1, a2, a3⟩ := h.all t ht
  obtain ⟨b1, b2, b3, b4, b5⟩ := pf_some ex
  rcases b5 with ⟨rfl, b6⟩ | ⟨b6, b7, b8⟩
  · exact ⟨a1, b6, by omega⟩
  · have := nextDue_gt t E b6 b7
    rw [b3, b8]
    exact ⟨a1, this.1, by omega⟩
end Go.Proofs.Ytjkkclojidhgdaa
