/- lay of a wheel. -/
import Derived.Test.YtjkkclojidhgdaaW4
namespace Go.Proofs.Ytjkkclojidhgdaa
open Go.RowKit Go.Maps Go.WideMaps
set_option linter.unusedVariables false
set_option maxRecDepth 1000000
set_option linter.unusedSimpArgs false

theorem putT_cons (y : Tm) (r : List Tm) (t : Tm) : putT (y :: r) t = if t.no < y.no then t :: y :: r else y :: putT r t := by rw [putT]
theorem mem_putT {t x : Tm} : ∀ {ls : List Tm}, x ∈ putT ls t ↔ x = t ∨ x ∈ ls
  | [] => by simp [putT]
  | y :: r => by
    unfold putT
    split
    · simp
    · rw [List.mem_cons, mem_putT (ls := r), List.mem_cons]
      constructor
      · rintro (h | h | h)
        · exact .inr (.inl h)
        · exact .inl h
        · exact .inr (.inr h)
      · rintro (h | h | h)
        · exact .inr (.inl h)
        · exact .inl h
        · exact .inr (.inr h)
theorem rise_put {t : Tm} : ∀ {ls : List Tm}, Rise ls → (∀ x ∈ ls, x.no ≠ t.no) → Rise (putT ls t)
  | [], _, _ => by simp [putT, Rise]
  | y :: r, h, hn => by
    unfold Rise at *
    rw [List.pairwise_cons] at h
    unfold putT
    split
    · rename_i hl
      rw [List.pairwise_cons]
      refine ⟨fun x hx => ?_, by rw [List.pairwise_cons]; exact h⟩
      rcases List.mem_cons.1 hx with rfl | hx
      · exact hl
      · exact Nat.lt_trans hl (h.1 x hx)
    · rename_i hl
      rw [List.pairwise_cons]
      refine ⟨fun x hx => ?_, rise_put h.2 (fun x hx => hn x (by simp [hx]))⟩
      rcases mem_putT.1 hx with rfl | hx
      · have := hn y (by simp); omega
      · exact h.1 x hx
theorem putT_first {t : Tm} : ∀ l : List Tm, (∀ x ∈ l, t.no < x.no) → putT l t = t :: l
  | [], _ => rfl
  | a :: b, hx => by rw [putT_cons, if_pos (hx a (by simp))]
theorem filter_put (p : Tm → Bool) (t : Tm) : ∀ {ls : List Tm}, Rise ls → (putT ls t).filter p = if p t then putT (ls.filter p) t else ls.filter p
  | [], _ => by
    by_cases hp : p t = true
    · simp [putT, hp]
    · simp [putT, hp]
  | y :: r, h => by
    unfold Rise at h
    rw [List.pairwise_cons] at h
    have ih := filter_put p t (ls := r) h.2
    rw [putT_cons]
    by_cases hl : t.no < y.no
    · rw [if_pos hl]
      by_cases hp : p t = true
      · rw [List.filter_cons_of_pos hp, if_pos hp, putT_first]
        intro x hx
        have := (List.mem_filter.1 hx).1
        rcases List.mem_cons.1 this with rfl | h3
        · exact hl
        · exact Nat.lt_trans hl (h.1 x h3)
      · rw [List.filter_cons_of_neg hp, if_neg hp]
    · rw [if_neg hl]
      by_cases hy : p y = true
      · rw [List.filter_cons_of_pos hy, List.filter_cons_of_pos hy, ih]
        by_cases hp : p t = true
        · rw [if_pos hp, if_pos hp, putT_cons, if_neg hl]
        · rw [if_neg hp, if_neg hp]
      · rw [List.filter_cons_of_neg hy, List.filter_cons_of_neg hy, ih]
theorem slot_put {n : Nat} {ls : List Tm} (hu : Rise ls) (t : Tm) (i : Nat) : inSlot n i (putT ls t) = if t.due % n = i then putT (inSlot n i ls) t else inSlot n i ls := by
  unfold inSlot
  rw [filter_put _ _ hu]
  by_cases h : t.due % n = i
  · simp [h]
  · simp [h]
theorem filter_id {ls : List Tm} {k : Nat} (h : ∀ x ∈ ls, x.no ≠ k) : ls.filter (fun t => t.no != k) = ls := by
  rw [List.filter_eq_self]; intro x hx; simpa using h x hx
section
variable {g now given n : Nat} {ts ls : List Tm} {bt S : Nat} {sm : Nat → Option Nat} {w : World}
/-- A timer laid into a slot that has a map. -/
theorem Wh.laid (h : Wh g now given n ts ls bt S sm w) (t : Tm) {i b : Nat} (hi : t.due % n = i) (hb : sm i = some b) (hR : Ru t w) (hn : ∀ x ∈ ls, x.no ≠ t.no) (hno : t.no < 4611686018427387904) (hl : ls.length < 1073741824) :
    ∃ w', (Instr.mapUpdate 73 (.map (some b)) (.int .i64 t.no) (ptrV t.bk)).run Try.prog w = .ok () w' ∧ Wh g now given n ts (putT ls t) bt S sm w' ∧ Kw (fun k => ∃ i, i < n ∧ sm i = some k) w w' := by
  have hin : i < n := by rw [← hi]; exact Nat.mod_lt _ h.n0
  have hlen : (inSlot n i ls).length < 1073741824 := Nat.lt_of_le_of_lt (List.length_filter_le _ _) hl
  obtain ⟨w', h1, h2, h3⟩ := (h.maps i b hin hb).1.put t hno hlen und_slot
  rw [filter_id (ls := inSlot n i ls) (fun x hx => hn x (List.mem_filter.1 hx).1)] at h2
  refine ⟨w', h1, h.slot hin hb h3 (ls' := putT ls t) (by rw [slot_put h.upl, if_pos hi]; exact h2) (fun j hj => by rw [slot_put h.upl, if_neg (by rw [hi]; exact fun e => hj e.symm)]) (fun x hx => ?_) (rise_put h.upl hn), Kw.turned h3 ⟨i, hin, hb⟩⟩
  rcases mem_putT.1 hx with rfl | hx
  · exact hR
  · exact h.rls x hx
/-- A slot gets a map. -/
theorem Wh.fresh (h : Wh g now given n ts ls bt S sm w) {i : Nat} (hi : i < n) (hs : sm i = none) :
    Wh g now given n ts ls bt S (fun j => if j = i then some w.heap.size else sm j) ((w.alloc (.map #[] 0)).setCell ⟨S, i, none⟩ (.map (some w.heap.size))) ∧ Kw (fun k => k = S) w ((w.alloc (.map #[] 0)).setCell ⟨S, i, none⟩ (.map (some w.heap.size))) := by
  have ba : Below w.heap.size w (w.alloc (.map #[] 0)) := (Below.refl _ _).alloc (Nat.le_refl _) _
  have h1 := h.below ba
  have hP := PM.new w
  obtain ⟨cs, r1, r2, r3⟩ := h1.row
  have hk : ∀ k, k ≠ S → ((w.alloc (.map #[] 0)).setCell ⟨S, i, none⟩ (.map (some w.heap.size))).heap[k]? = (w.alloc (.map #[] 0)).heap[k]? := fun k hk => Below.heap_setCell _ ⟨S, i, none⟩ _ k hk
  have hS : ((w.alloc (.map #[] 0)).setCell ⟨S, i, none⟩ (.map (some w.heap.size))).heap[S]? = some (.cells (cs.setIfInBounds i (.map (some w.heap.size))) 73 (0, 0)) := by
    simp [World.setCell, Array.getElem?_modify, r1]
  have neT : ∀ k A T fr, T ≠ 73 → (w.alloc (.map #[] 0)).heap[k]? = some (Obj.cells A T fr) → k ≠ S := fun k A T fr ht hk e => by
    rw [e, r1] at hk; simp at hk; exact ht hk.2.1.symm
  have neM : ∀ b ts', PM (w.alloc (.map #[] 0)) b ts' → b ≠ S := fun b ts' hp => (hp.ne r1).symm
  refine ⟨⟨(hk g (neT _ _ _ _ (by decide) h1.head)).trans h1.head, h1.tim.same (hk bt (neM _ _ h1.tim)), ⟨_, hS, by rw [Array.size_setIfInBounds]; exact r2, fun j hj => ?_⟩, fun j hj hn => ?_, fun j c hj hc => ?_, fun j j' c hj hj' e1 e2 => ?_, fun t ht => (hk _ (neT _ _ _ _ (by decide) (h1.rts t ht))).trans (h1.rts t ht), fun t ht => (hk _ (neT _ _ _ _ (by decide) (h1.rls t ht))).trans (h1.rls t ht), h.up, h.upl, h.n0, h.n1, h.g1, h.w1, h.nos⟩, ?_⟩
  · rw [Array.getElem?_setIfInBounds]
    by_cases e : i = j
    · subst e; simp [r2, hi]
    · rw [if_neg e, r3 j hj, if_neg (fun e' => e e'.symm)]
  · by_cases e : j = i
    · rw [if_pos e] at hn; cases hn
    · rw [if_neg e] at hn; exact h.none' j hj hn
  · by_cases e : j = i
    · rw [if_pos e] at hc
      cases hc
      have he : inSlot n j ls = [] := by rw [e]; exact h.none' i hi hs
      rw [he]
      exact ⟨hP.same (hk _ (neM _ _ hP)), by have := h.tim.lt; omega⟩
    · rw [if_neg e] at hc
      exact ⟨(h1.maps j c hj hc).1.same (hk c (neM _ _ (h1.maps j c hj hc).1)), (h1.maps j c hj hc).2⟩
  · have lt : ∀ j c, j < n → sm j = some c → c < w.heap.size := fun j c hj hc => (h.maps j c hj hc).1.lt
    by_cases e : j = i
    · by_cases e' : j' = i
      · rw [e, e']
      · rw [if_pos e] at e1; rw [if_neg e'] at e2
        cases e1
        have := lt j' _ hj' e2; omega
    · by_cases e' : j' = i
      · rw [if_neg e] at e1; rw [if_pos e'] at e2
        cases e2
        have := lt j _ hj e1; omega
      · rw [if_neg e] at e1; rw [if_neg e'] at e2
        exact h.inj j j' c hj hj' e1 e2
  · exact ⟨rfl, rfl, rfl, Nat.le_trans ba.size (by simp [World.setCell]), fun k hk' ho => (hk k ho).trans (ba.block k hk')⟩
theorem eq_nilmap (m : Option Nat) (x : World) : (binOp BinOp.eql 73 (.map m) (.map none)).run Try.prog x = .ok (.bool m.isNone) x := by
  cases m <;> rfl
/-- What laying may add to a wheel's maps. -/
def More (n : Nat) (sm sm' : Nat → Option Nat) (w : World) : Prop := ∀ i b, i < n → sm' i = some b → sm i = some b ∨ w.heap.size ≤ b
set_option maxHeartbeats 2000000 in
theorem lay_any (h : Wh g now given n ts ls bt S sm w) (t : Tm) (hR : Ru t w) (hn : ∀ x ∈ ls, x.no ≠ t.no) (hno : t.no < 4611686018427387904) (hdu : t.due < 18446744073709551616) (hl : ls.length < 1073741824) :
    Calls Try.prog 35 #[.pointer (some ⟨g, 0, none⟩), .int .i64 t.no, ptrV t.bk] w fun e w' => e = .returned (.tuple #[]) ∧ ∃ sm', Wh g now given n ts (putT ls t) bt S sm' w' ∧ Kw (fun k => k = S ∨ ∃ i, i < n ∧ sm i = some k) w w' ∧ More n sm sm' w := by
  obtain ⟨i, hi⟩ : ∃ i, t.due % n = i := ⟨_, rfl⟩
  have hin : i < n := by rw [← hi]; exact Nat.mod_lt _ h.n0
  have hPl := place_any h t.due hdu
  rw [hi] at hPl
  obtain ⟨c0, c1, c2, c3⟩ := h.c
  obtain ⟨d0, d1, d2⟩ := hR.c
  obtain ⟨cs, r1, r2, r3⟩ := h.row
  have cS : w.cell? ⟨S, i, none⟩ = some (.map (sm i)) := by rw [Lib.cell_of_heap r1, r3 i hin]
  have fS : w.frozen? ⟨S, i, none⟩ = false := Lib.frozen_of_heap r1 _
  have hn1 := h.n1
  have hib : i < 4096 := by omega
  have heq := eq_nilmap (sm i)
  cases hs : sm i with
  | some b =>
    obtain ⟨w2, u2, h2, k2⟩ := h.laid t hi hs hR hn hno hl
    have HX : Hid (∃ sm', Wh g now given n ts (putT ls t) bt S sm' w2 ∧ Kw (fun k => k = S ∨ ∃ i, i < n ∧ sm i = some k) w w2 ∧ More n sm sm' w) := ⟨sm, h2, k2.mono (fun k hk => .inr hk), fun i b _ e => .inl e⟩
    rw [hs] at cS heq
    unfold ptrV at *
    clear h h2 k2 r1 r2 r3 hn hR
    go_enter Try.func35, Try.ntmps35
    go_wp2_with fail
    refine hPl.mono ?_
    rintro e w9 ⟨rfl, rfl⟩
    clear hPl
    go_wp2
    go_end0
    exact ⟨rfl, HX.out⟩
  | none =>
    obtain ⟨f1, f2⟩ := h.fresh hin hs
    obtain ⟨wb, hwb⟩ : ∃ x, (w.alloc (.map #[] 0)).setCell ⟨S, i, none⟩ (.map (some w.heap.size)) = x := ⟨_, rfl⟩
    rw [hwb] at f1 f2
    have hRb : Ru t wb := (f2.keep t.bk (Array.getElem?_eq_some_iff.1 hR).1 (fun e => by
      have hR' := hR
      unfold Ru at hR'
      rw [e, r1] at hR'; simp at hR')).trans hR
    obtain ⟨w2, u2, h2, k2⟩ := f1.laid t hi (b := w.heap.size) (by simp) hRb hn hno hl
    have HX : Hid (∃ sm', Wh g now given n ts (putT ls t) bt S sm' w2 ∧ Kw (fun k => k = S ∨ ∃ i, i < n ∧ sm i = some k) w w2 ∧ More n sm sm' w) := by
      refine ⟨_, h2, ⟨k2.os.trans f2.os, k2.tape.trans f2.tape, k2.output.trans f2.output, Nat.le_trans f2.size k2.size, fun k hk ho => ?_⟩, fun j b hj e => ?_⟩
      · refine (k2.keep k (Nat.lt_of_lt_of_le hk f2.size) ?_).trans (f2.keep k hk (fun e => ho (.inl e)))
        rintro ⟨j, hj, e⟩
        by_cases hji : j = i
        · rw [if_pos hji] at e; cases e; omega
        · rw [if_neg hji] at e; exact ho (.inr ⟨j, hj, e⟩)
      · simp only at e
        by_cases hji : j = i
        · rw [if_pos hji] at e; cases e; exact .inr (Nat.le_refl _)
        · rw [if_neg hji] at e; exact .inl e
    obtain ⟨e0, e1, e2, e3⟩ := f1.c
    obtain ⟨cs', r1', r2', r3'⟩ := f1.row
    have eS : wb.cell? ⟨S, i, none⟩ = some (.map (some w.heap.size)) := by rw [Lib.cell_of_heap r1', r3' i hin]; simp
    have ca3 : (w.alloc (.map #[] 0)).cell? ⟨S, i, none⟩ = some (.map (sm i)) := (((Below.refl w.heap.size w).alloc (Nat.le_refl _) _).cell (p := ⟨S, i, none⟩) (Array.getElem?_eq_some_iff.1 r1).1).trans cS
    have fa3 : (w.alloc (.map #[] 0)).frozen? ⟨S, i, none⟩ = false := (World.frozen?_of_block (a := ⟨S, i, none⟩) (((Below.refl w.heap.size w).alloc (Nat.le_refl _) (.map #[] 0)).block S (Array.getElem?_eq_some_iff.1 r1).1)).trans fS
    rw [hs] at cS heq ca3
    have hmk : ∀ x : World, (Instr.makeMap 73 none).run Try.prog x = .ok (.map (some x.heap.size)) (x.alloc (.map #[] 0)) := fun x => by simp [Instr.makeMap, run_underlying Try.underlying73, Result.andThen]
    unfold ptrV at *
    clear h h2 k2 r1 r2 r3 hn hR f1 f2 r1' r2' r3' hRb
    obtain ⟨q, hq⟩ : ∃ q, w.heap.size = q := ⟨_, rfl⟩
    rw [hq] at *
    go_enter Try.func35, Try.ntmps35
    go_wp2_with fail
    refine hPl.mono ?_
    rintro e w9 ⟨rfl, rfl⟩
    clear hPl
    go_wp2
    go_end0
    exact ⟨rfl, HX.out⟩
end
end Go.Proofs.Ytjkkclojidhgdaa
