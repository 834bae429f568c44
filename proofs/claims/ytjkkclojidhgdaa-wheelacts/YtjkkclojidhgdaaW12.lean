/- Plain facts on what runs out at a tick; behind, in one. -/
import Derived.Test.YtjkkclojidhgdaaW11
namespace Go.Proofs.Ytjkkclojidhgdaa
open Go.RowKit Go.Maps Go.WideMaps
set_option linter.unusedVariables false
set_option maxRecDepth 1000000
set_option linter.unusedSimpArgs false
/-- The timers that run out at a tick. -/
def outs (now : Nat) (ts : List Tm) : List Tm := ts.filter (fun t => t.due == now)
theorem outs_slot (n now : Nat) (ts : List Tm) : (inSlot n (now % n) ts).filter (fun t => t.due == now) = outs now ts := by
  unfold inSlot outs
  rw [List.filter_filter]
  apply List.filter_congr
  intro t _
  rw [Bool.eq_iff_iff]
  simp
  intro h
  rw [h]
/-- The timers behind one that has run out. -/
def run1 (now : Nat) (ts : List Tm) (t : Tm) : List Tm := if t.per = 0 then without t.no ts else replT ts { t with due := nextDue t now }
theorem run1_mem {now : Nat} {ts : List Tm} {t x : Tm} (hx : x ∈ ts) (hn : x.no ≠ t.no) : x ∈ run1 now ts t := by
  unfold run1
  split
  · exact List.mem_filter.2 ⟨hx, by simpa using hn⟩
  · exact List.mem_map.2 ⟨x, hx, by simp [hn]⟩
theorem mem_run1 {now : Nat} {ts : List Tm} {t x : Tm} (h : x ∈ run1 now ts t) : (x ∈ ts ∧ x.no ≠ t.no) ∨ (t.per ≠ 0 ∧ x = { t with due := nextDue t now }) := by
  unfold run1 at h
  split at h
  · exact .inl (mem_without h)
  · rename_i hp
    rcases mem_repl h with h | h
    · exact .inr ⟨hp, h⟩
    · exact .inl h
theorem run1_len (now : Nat) (ts : List Tm) (t : Tm) : (run1 now ts t).length ≤ ts.length := by
  unfold run1
  split
  · exact List.length_filter_le _ _
  · simp [replT]
theorem run1_bkd {now : Nat} {ts : List Tm} {t : Tm} (hb : Bkd ts) (ht : t ∈ ts) : Bkd (run1 now ts t) := by
  intro a ha b hbb e
  rcases mem_run1 ha with ⟨a1, a2⟩ | ⟨_, rfl⟩ <;> rcases mem_run1 hbb with ⟨b1, b2⟩ | ⟨_, rfl⟩
  · exact hb a a1 b b1 e
  · exact hb a a1 t ht e
  · exact hb t ht b b1 e
  · rfl
theorem sort_nums {l : List Tm} (hr : Rise l) {zs : List Int} (hp : zs.Perm (l.map (fun t => (t.no : Int)))) : zs.mergeSort (fun x y => decide (x ≤ y)) = l.map (fun t => (t.no : Int)) := by
  have h1 : (zs.mergeSort (fun x y => decide (x ≤ y))).Pairwise (fun x y => x ≤ y) := by
    have := List.pairwise_mergeSort (le := fun x y : Int => decide (x ≤ y)) (fun a b c h1 h2 => by simp at *; omega) (fun a b => by simp; omega) zs
    exact this.imp (fun h => by simpa using h)
  have h2 : (l.map (fun t => (t.no : Int))).Pairwise (fun x y => x ≤ y) := by
    rw [List.pairwise_map]
    exact hr.imp (fun h => by omega)
  exact List.Perm.eq_of_pairwise (fun a b _ _ h1 h2 => by omega) h1 h2 ((List.mergeSort_perm _ _).trans hp)
/-- The numbers gathered so far. -/
structure Gat (now : Nat) (l : List Tm) (left : Lit → Bool) (zs : List Int) : Prop where
  nodup : zs.Nodup
  mem : ∀ z, z ∈ zs ↔ ∃ t ∈ l, t.due = now ∧ (t.no : Int) = z ∧ left (.int .i64 t.no) = false
theorem Gat.start {now : Nat} {l : List Tm} {left : Lit → Bool} (h : ∀ t ∈ l, left (.int .i64 t.no) = true) : Gat now l left [] :=
  ⟨List.nodup_nil, fun z => ⟨fun h => by simp at h, fun ⟨t, ht, _, _, hf⟩ => by rw [h t ht] at hf; cases hf⟩⟩
theorem Gat.into {now : Nat} {l : List Tm} {left : Lit → Bool} {zs : List Int} (h : Gat now l left zs) (hr : Rise l) {t : Tm} (ht : t ∈ l) (hl : left (.int .i64 t.no) = true) (hd : t.due = now) : Gat now l (fun z => left z && !z.sameKey (.int .i64 t.no)) (zs ++ [(t.no : Int)]) := by
  refine ⟨?_, fun z => ?_⟩
  · rw [List.nodup_append]
    refine ⟨h.nodup, by simp, fun a ha b hb e => ?_⟩
    simp at hb
    rw [e, hb] at ha
    obtain ⟨x, hx, _, h2, h3⟩ := (h.mem _).1 ha
    rw [h2, hl] at h3
    cases h3
  · rw [List.mem_append, List.mem_singleton, h.mem]
    simp only [same_int, Bool.and_eq_false_iff, Bool.not_eq_false', beq_iff_eq]
    constructor
    · rintro (⟨x, hx, h1, h2, h3⟩ | rfl)
      · exact ⟨x, hx, h1, h2, .inl h3⟩
      · exact ⟨t, ht, hd, rfl, .inr rfl⟩
    · rintro ⟨x, hx, h1, h2, h3 | h3⟩
      · exact .inl ⟨x, hx, h1, h2, h3⟩
      · exact .inr (by rw [← h2, h3])
theorem Gat.past {now : Nat} {l : List Tm} {left : Lit → Bool} {zs : List Int} (h : Gat now l left zs) (hr : Rise l) {t : Tm} (ht : t ∈ l) (hd : t.due ≠ now) : Gat now l (fun z => left z && !z.sameKey (.int .i64 t.no)) zs := by
  refine ⟨h.nodup, fun z => ?_⟩
  rw [h.mem]
  simp only [same_int, Bool.and_eq_false_iff, Bool.not_eq_false', beq_iff_eq]
  constructor
  · rintro ⟨x, hx, h1, h2, h3⟩
    exact ⟨x, hx, h1, h2, .inl h3⟩
  · rintro ⟨x, hx, h1, h2, h3 | h3⟩
    · exact ⟨x, hx, h1, h2, h3⟩
    · exact (hd (by rw [← rise_uniq hr hx ht (by omega)]; exact h1)).elim
theorem Gat.done {now : Nat} {l : List Tm} {left : Lit → Bool} {zs : List Int} (h : Gat now l left zs) (hr : Rise l) (hl : ∀ kl, left kl = false) : zs.Perm ((l.filter (fun t => t.due == now)).map (fun t => (t.no : Int))) := by
  rw [List.perm_ext_iff_of_nodup h.nodup]
  · intro z
    rw [h.mem, List.mem_map]
    constructor
    · rintro ⟨t, ht, h1, h2, _⟩
      exact ⟨t, List.mem_filter.2 ⟨ht, by simp [h1]⟩, h2⟩
    · rintro ⟨t, ht, h2⟩
      obtain ⟨h3, h4⟩ := List.mem_filter.1 ht
      exact ⟨t, h3, by simpa using h4, h2, hl _⟩
  · unfold List.Nodup
    rw [List.pairwise_map]
    exact (rise_filter hr _).imp (fun h e => by omega)
section
variable {g now given n : Nat} {ts ls : List Tm} {bt S : Nat} {sm : Nat → Option Nat} {w : World}
theorem behind_any (h : Wh g now given n ts ts bt S sm w) (t : Tm) (ht : t ∈ ts) (hb : Bkd ts) (hp1 : t.per ≤ 4294967296) (hdn : t.due ≤ now) (hl : ts.length ≤ 1024) :
    Calls Try.prog 37 #[.pointer (some ⟨g, 0, none⟩), .int .i64 t.no, ptrV t.bk] w fun e w' => e = .returned (.tuple #[]) ∧ ∃ sm', Wh g now given n (run1 now ts t) (run1 now ts t) bt S sm' w' ∧ Kw (OwT g bt S n sm ts) w w' ∧ More n sm sm' w := by
  have hw1 := h.w1
  unfold run1
  by_cases hp : t.per = 0
  · rw [if_pos hp]
    refine (behind_once h t ht hp (by omega)).mono ?_
    rintro e w' ⟨rfl, h1, k1⟩
    exact ⟨rfl, sm, h1, k1.mono (fun k hk => .inl hk), fun i b hi hb => .inl hb⟩
  · rw [if_neg hp]
    exact behind_again h t ht hb (by omega) hp1 hdn hl
end
end Go.Proofs.Ytjkkclojidhgdaa
