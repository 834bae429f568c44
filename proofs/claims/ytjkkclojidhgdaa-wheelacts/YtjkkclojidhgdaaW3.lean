/- Left of a wheel; what changes where a slot's map turns. -/
import Derived.Test.YtjkkclojidhgdaaW2
namespace Go.Proofs.Ytjkkclojidhgdaa
open Go.RowKit Go.Maps Go.WideMaps
set_option linter.unusedVariables false
set_option maxRecDepth 1000000
set_option linter.unusedSimpArgs false

theorem below_drawn {B : Nat} {w w' : World} (h : Below B w w') (m : Nat) : Below B w (w'.drewN m) := ⟨h.os, h.tape, h.output, h.size, h.block⟩
section
variable {g now given n : Nat} {ts ls : List Tm} {bt S : Nat} {sm : Nat → Option Nat} {w : World}
/-- What Left tells. -/
def leftF (now : Nat) (ts : List Tm) (k : Int) : Nat × Bool := match findT ts k with | none => (0, false) | some t => (t.due - now, true)
set_option maxHeartbeats 1000000 in
theorem Left_any (h : Wh g now given n ts ls bt S sm w) (k : Int) (hk : -9223372036854775808 ≤ k ∧ k < 9223372036854775808) (hd : ∀ t ∈ ts, now ≤ t.due ∧ t.due < 18446744073709551616) :
    Calls Try.prog 15 #[.pointer (some ⟨g, 0, none⟩), .int .i64 k] w fun e w' => e = .returned (.tuple #[.int .u64 (leftF now ts k).1, .bool (leftF now ts k).2]) ∧ Below w.heap.size w w' := by
  obtain ⟨c0, c1, c2, c3⟩ := h.c
  have hlk := h.tim.look h.up k hk und_mapt
  have hrt := h.rts
  unfold leftF
  cases hf : findT ts k with
  | none =>
    rw [hf] at hlk
    simp only [Option.isSome_none] at hlk
    clear h hd hrt
    go_enter Try.func15, Try.ntmps15
    go_wp2
    go_ret2
    exact ⟨rfl, Below.refl _ _⟩
  | some t =>
    rw [hf] at hlk
    simp only [Option.isSome_some, ptrV] at hlk
    have ht := List.mem_of_find?_eq_some hf
    obtain ⟨d0, d1, d2⟩ := (hrt t ht).c
    obtain ⟨hd1, hd2⟩ := hd t ht
    have hsub : (t.due : Int) - (now : Int) = ((t.due - now : Nat) : Int) := by omega
    clear h hd hrt
    go_enter Try.func15, Try.ntmps15
    go_wp2_with fail
    go_quiet (fail)
    go_wp2
    go_ret2
    exact ⟨rfl, below_drawn (Below.refl _ _) _⟩
/-- Only a map's block changes. -/
theorem turned_block {w w' : World} {b : Nat} (h : w.mapTurned w' b) : w'.os = w.os ∧ w'.tape = w.tape ∧ w'.output = w.output ∧ w'.heap.size = w.heap.size ∧ ∀ k, k ≠ b → w'.heap[k]? = w.heap[k]? := by
  have hg := h.grown
  obtain ⟨es, cl, es', cl', hb, rfl⟩ := h
  refine ⟨hg.os, hg.tape, hg.output, by simp [ChangeMaps.setBlock], fun k hk => ?_⟩
  simp [ChangeMaps.setBlock, Array.getElem?_setIfInBounds, Ne.symm hk]
theorem PM.obj {w : World} {b : Nat} {ts : List Tm} (h : PM w b ts) : ∃ es cl, w.heap[b]? = some (.map es cl) := by
  obtain ⟨es, cl, h1, _⟩ := h
  exact ⟨es, cl, h1⟩
theorem PM.same {w w' : World} {b : Nat} {ts : List Tm} (h : PM w b ts) (hb : w'.heap[b]? = w.heap[b]?) : PM w' b ts := by
  obtain ⟨es, cl, h1, h2⟩ := h
  exact ⟨es, cl, hb.trans h1, h2⟩
theorem PM.ne {w : World} {b k : Nat} {ts : List Tm} (h : PM w b ts) {A : Array Value} {T : TypeId} {fr : Nat × Nat} (hk : w.heap[k]? = some (.cells A T fr)) : k ≠ b := by
  intro e
  obtain ⟨es, cl, h1⟩ := h.obj
  rw [e, h1] at hk
  cases hk
/-- A slot's map turns. -/
theorem Wh.slot (h : Wh g now given n ts ls bt S sm w) {w' : World} {i b : Nat} (hi : i < n) (hb : sm i = some b) (ht : w.mapTurned w' b) {ls' : List Tm} (hp : PM w' b (inSlot n i ls')) (ho : ∀ j, j ≠ i → inSlot n j ls' = inSlot n j ls) (hr : ∀ t ∈ ls', Ru t w) (hu : Rise ls') :
    Wh g now given n ts ls' bt S sm w' := by
  obtain ⟨_, _, _, hs, hk⟩ := turned_block ht
  have hP := (h.maps i b hi hb).1
  obtain ⟨cs, r1, r2, r3⟩ := h.row
  refine ⟨(hk g (hP.ne h.head)).trans h.head, h.tim.same (hk bt (fun e => (h.maps i b hi hb).2 e.symm)), ⟨cs, (hk S (hP.ne r1)).trans r1, r2, r3⟩, fun j hj hn => ?_, fun j c hj hc => ?_, h.inj, fun t htm => (hk t.bk (hP.ne (h.rts t htm))).trans (h.rts t htm), fun t htm => (hk t.bk (hP.ne (hr t htm))).trans (hr t htm), h.up, hu, h.n0, h.n1, h.g1, h.w1, h.nos⟩
  · have : j ≠ i := fun e => by rw [e, hb] at hn; cases hn
    rw [ho j this]; exact h.none' j hj hn
  · by_cases hji : j = i
    · subst hji
      rw [hb] at hc
      cases hc
      exact ⟨hp, (h.maps j b hj hb).2⟩
    · have hcb : c ≠ b := fun e => hji (h.inj j i b hj hi (by rw [hc, e]) hb)
      obtain ⟨m1, m2⟩ := h.maps j c hj hc
      rw [ho j hji]
      exact ⟨m1.same (hk c hcb), m2⟩
/-- The timers' map turns. -/
theorem Wh.timers (h : Wh g now given n ts ls bt S sm w) {w' : World} (ht : w.mapTurned w' bt) {ts' : List Tm} (hp : PM w' bt ts') (hr : ∀ t ∈ ts', Ru t w) (hu : Rise ts') (hn : ∀ t ∈ ts', t.no ≤ given) :
    Wh g now given n ts' ls bt S sm w' := by
  obtain ⟨_, _, _, hs, hk⟩ := turned_block ht
  have hP := h.tim
  obtain ⟨cs, r1, r2, r3⟩ := h.row
  exact ⟨(hk g (hP.ne h.head)).trans h.head, hp, ⟨cs, (hk S (hP.ne r1)).trans r1, r2, r3⟩, h.none', fun j c hj hc => ⟨(h.maps j c hj hc).1.same (hk c (h.maps j c hj hc).2), (h.maps j c hj hc).2⟩, h.inj, fun t htm => (hk t.bk (hP.ne (hr t htm))).trans (hr t htm), fun t htm => (hk t.bk (hP.ne (h.rls t htm))).trans (h.rls t htm), hu, h.upl, h.n0, h.n1, h.g1, h.w1, hn⟩
theorem Wh.below (h : Wh g now given n ts ls bt S sm w) {w' : World} (hb : Below w.heap.size w w') : Wh g now given n ts ls bt S sm w' := by
  obtain ⟨cs, r1, r2, r3⟩ := h.row
  have key : ∀ k A T fr, w.heap[k]? = some (Obj.cells A T fr) → w'.heap[k]? = some (Obj.cells A T fr) := fun k A T fr hk => (hb.block k (Array.getElem?_eq_some_iff.1 hk).1).trans hk
  exact ⟨key _ _ _ _ h.head, h.tim.same (hb.block bt h.tim.lt), ⟨cs, key _ _ _ _ r1, r2, r3⟩, h.none', fun j c hj hc => ⟨(h.maps j c hj hc).1.same (hb.block c (h.maps j c hj hc).1.lt), (h.maps j c hj hc).2⟩, h.inj, fun t ht => key _ _ _ _ (h.rts t ht), fun t ht => key _ _ _ _ (h.rls t ht), h.up, h.upl, h.n0, h.n1, h.g1, h.w1, h.nos⟩
theorem rise_uniq {ts : List Tm} (h : Rise ts) {a b : Tm} (ha : a ∈ ts) (hb : b ∈ ts) (he : a.no = b.no) : a = b := by
  obtain ⟨i, hi, rfl⟩ := List.getElem_of_mem ha
  obtain ⟨j, hj, rfl⟩ := List.getElem_of_mem hb
  rcases Nat.lt_trichotomy i j with h1 | h1 | h1
  · have := List.pairwise_iff_getElem.1 h i j hi hj h1; omega
  · subst h1; rfl
  · have := List.pairwise_iff_getElem.1 h j i hj hi h1; omega
theorem rise_filter {ts : List Tm} (h : Rise ts) (p : Tm → Bool) : Rise (ts.filter p) := List.Pairwise.sublist (List.filter_sublist) h
/-- A timer taken out of the slots. -/
def without (k : Nat) (ls : List Tm) : List Tm := ls.filter (fun t => t.no != k)
theorem slot_without (n i k : Nat) (ls : List Tm) : inSlot n i (without k ls) = without k (inSlot n i ls) := by
  unfold inSlot without
  rw [List.filter_filter, List.filter_filter]
  congr 1
  funext t
  exact Bool.and_comm _ _
theorem slot_other {n i : Nat} {ls : List Tm} (hu : Rise ls) {t : Tm} (ht : t ∈ ls) (hi : i ≠ t.due % n) : inSlot n i (without t.no ls) = inSlot n i ls := by
  rw [slot_without]
  unfold without
  rw [List.filter_eq_self]
  intro x hx
  have hx1 := (List.mem_filter.1 hx).1
  have hx2 := (List.mem_filter.1 hx).2
  simp at hx2 ⊢
  intro e
  have := rise_uniq hu hx1 ht e
  rw [this] at hx2
  exact hi hx2.symm
end
end Go.Proofs.Ytjkkclojidhgdaa
