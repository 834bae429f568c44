/- The heap's order, as plain facts. Send of a bad frame, and of one too many. New of the driver, without filters. Next of the driver; Passes without filters. Take of the driver, without filters, while there is room. The small living call of layer 5. Contract of the document's own Plain. -/
import Derived.Test.YtfddoindcmdooaaUo2
import Derived.Test.YtfddoindcmdooaaPla
namespace Go.Proofs.Ytfddoindcmdooaa
open Go.RowKit Go.Proofs.Bits
set_option linter.unusedVariables false
set_option maxRecDepth 1000000
set_option linter.unusedSimpArgs false

/-- a does not come behind b. -/
def leM (a b : Ml) : Prop := lessM b a = false
theorem leM_iff (a b : Ml) : leM a b ↔ a.fld < b.fld ∨ (a.fld = b.fld ∧ a.tk ≤ b.tk) := by
  unfold leM lessM
  by_cases h : b.fld = a.fld
  · rw [if_pos h, decide_eq_false_iff_not]
    constructor
    · intro h1; exact .inr ⟨h.symm, by omega⟩
    · rintro (h1 | ⟨_, h1⟩)
      · rw [h] at h1; exact (Std.lt_irrefl h1).elim
      · omega
  · rw [if_neg h, decide_eq_false_iff_not]
    constructor
    · intro h1; exact .inl (Std.lt_of_le_of_ne (Std.not_lt.1 h1) (fun e => h e.symm))
    · rintro (h1 | ⟨h1, _⟩)
      · exact fun h2 => Std.lt_irrefl (Std.lt_trans h1 h2)
      · exact (h h1.symm).elim
theorem lessM_iff (a b : Ml) : lessM a b = true ↔ a.fld < b.fld ∨ (a.fld = b.fld ∧ a.tk < b.tk) := by
  unfold lessM
  by_cases h : a.fld = b.fld
  · rw [if_pos h, decide_eq_true_iff]
    constructor
    · intro h1; exact .inr ⟨h, h1⟩
    · rintro (h1 | ⟨_, h1⟩)
      · rw [h] at h1; exact (Std.lt_irrefl h1).elim
      · exact h1
  · rw [if_neg h, decide_eq_true_iff]
    constructor
    · exact .inl
    · rintro (h1 | ⟨h1, _⟩)
      · exact h1
      · exact (h h1).elim
theorem leM_refl (a : Ml) : leM a a := (leM_iff a a).2 (.inr ⟨rfl, by omega⟩)
theorem leM_trans {a b c : Ml} (h1 : leM a b) (h2 : leM b c) : leM a c := by
  rw [leM_iff] at *
  rcases h1 with h1 | ⟨h1, h1'⟩ <;> rcases h2 with h2 | ⟨h2, h2'⟩
  · exact .inl (Std.lt_trans h1 h2)
  · rw [← h2]; exact .inl h1
  · rw [h1]; exact .inl h2
  · exact .inr ⟨h1.trans h2, by omega⟩
theorem leM_of_less {a b : Ml} (h : lessM a b = true) : leM a b := by
  rw [leM_iff]; rw [lessM_iff] at h
  rcases h with h | ⟨h, h'⟩
  · exact .inl h
  · exact .inr ⟨h, by omega⟩
theorem leM_fld {a b : Ml} (h : leM a b) : a.fld ≤ b.fld := by
  rw [leM_iff] at h
  rcases h with h | ⟨h, _⟩
  · exact Std.le_of_lt h
  · rw [h]; exact Std.le_refl _
/-- The mail at a place. -/
def gM (ms : List Ml) (k : Nat) : Ml := ms[k]?.getD Ml.nul
theorem gM_eq {ms : List Ml} {k : Nat} (h : k < ms.length) : gM ms k = ms[k] := by unfold gM; rw [List.getElem?_eq_getElem h]; rfl
theorem gM_swap (ms : List Ml) (i j : Nat) (hi : i < ms.length) (hj : j < ms.length) (k : Nat) : gM (swapM ms i j hi hj) k = if k = j then gM ms i else if k = i then gM ms j else gM ms k := by
  unfold gM
  rw [swapM_get?]
  by_cases h1 : k = j
  · rw [if_pos h1, if_pos h1, List.getElem?_eq_getElem hi]
  · rw [if_neg h1, if_neg h1]
    by_cases h2 : k = i
    · rw [if_pos h2, if_pos h2, List.getElem?_eq_getElem hj]
    · rw [if_neg h2, if_neg h2]
def Hp (g : Nat → Ml) (n : Nat) : Prop := ∀ j, 0 < j → j < n → leM (g ((j - 1) / 2)) (g j)
/-- A heap but for the place k. -/
def HpX (g : Nat → Ml) (n k : Nat) : Prop := (∀ j, 0 < j → j < n → j ≠ k → (j - 1) / 2 ≠ k → leM (g ((j - 1) / 2)) (g j)) ∧ (∀ j, 0 < j → j < n → (j - 1) / 2 = k → 0 < k → leM (g ((k - 1) / 2)) (g j))
theorem Hp.least {g : Nat → Ml} {n : Nat} (h : Hp g n) : ∀ j, j < n → leM (g 0) (g j) := by
  intro j
  induction j using Nat.strongRecOn with
  | ind j ih =>
    intro hj
    by_cases h0 : j = 0
    · subst h0; exact leM_refl _
    · exact leM_trans (ih ((j - 1) / 2) (by omega) (by omega)) (h j (by omega) hj)
theorem up_heap (ms : List Ml) (k : Nat) (hk : k < ms.length) (h : HpX (gM ms) ms.length k) (ho : ∀ j, 0 < j → j < ms.length → (j - 1) / 2 = k → leM (gM ms k) (gM ms j)) : Hp (gM (upF ms k)) ms.length := by
  induction ms, k using upF.induct with
  | case1 ms k hc hl ih =>
    rw [upF_go hc.1 hc.2 hl]
    have hl2 : leM (gM ms k) (gM ms ((k - 1) / 2)) := by rw [gM_eq hc.2, gM_eq (by omega)]; exact leM_of_less hl
    have e := fun j => gM_swap ms ((k - 1) / 2) k (by omega) hc.2 j
    rw [swapM_length] at ih
    refine ih (by omega) ⟨fun j h0 hj h1 h2 => ?_, fun j h0 hj h1 h2 => ?_⟩ (fun j h0 hj h1 => ?_)
    · rw [e, e]
      rw [if_neg (show j ≠ k by omega), if_neg h1]
      by_cases h3 : (j - 1) / 2 = k
      · rw [if_pos h3]; exact h.2 j h0 hj h3 hc.1
      · rw [if_neg h3, if_neg h2]; exact h.1 j h0 hj (by omega) h3
    · rw [e, e]
      rw [if_neg (show ¬ ((k - 1) / 2 - 1) / 2 = k by omega), if_neg (show ¬ ((k - 1) / 2 - 1) / 2 = (k - 1) / 2 by omega)]
      have hp := h.1 ((k - 1) / 2) h2 (by omega) (by omega) (by omega)
      by_cases h3 : j = k
      · rw [if_pos h3]; exact hp
      · rw [if_neg h3, if_neg (by omega)]
        have := h.1 j h0 hj h3 (by omega)
        rw [h1] at this
        exact leM_trans hp this
    · rw [e, e]
      rw [if_neg (show ¬ (k - 1) / 2 = k by omega), if_pos rfl]
      by_cases h3 : j = k
      · rw [if_pos h3]; exact hl2
      · rw [if_neg h3, if_neg (by omega)]
        have := h.1 j h0 hj h3 (by omega)
        rw [h1] at this
        exact leM_trans hl2 this
  | case2 ms k hc hl =>
    rw [upF_stop hc.1 hc.2 (by simpa using hl)]
    intro j h0 hj
    by_cases h1 : j = k
    · subst h1
      rw [gM_eq hc.2, gM_eq (by omega)]
      unfold leM; simpa using hl
    · by_cases h2 : (j - 1) / 2 = k
      · rw [h2]; exact ho j h0 hj h2
      · exact h.1 j h0 hj h1 h2
  | case3 ms k hc =>
    rw [upF, dif_neg hc]
    intro j h0 hj
    by_cases h2 : (j - 1) / 2 = k
    · rw [h2]; exact ho j h0 hj h2
    · exact h.1 j h0 hj (by omega) h2
theorem kid_min (ms : List Ml) (k n : Nat) (h : 2 * k + 1 < n) (hn : n ≤ ms.length) : ∀ j, 0 < j → j < n → (j - 1) / 2 = k → leM (gM ms (kidM ms k n h hn)) (gM ms j) := by
  intro j h0 hj hp
  have hj2 : j = 2 * k + 1 ∨ j = 2 * k + 2 := by omega
  unfold kidM
  by_cases h2 : 2 * k + 2 < n
  · rw [dif_pos h2]
    by_cases hl : lessM (ms[2 * k + 2]'(by omega)) (ms[2 * k + 1]'(by omega)) = true
    · rw [if_pos hl]
      rcases hj2 with rfl | rfl
      · rw [gM_eq (by omega), gM_eq (by omega)]; exact leM_of_less hl
      · exact leM_refl _
    · rw [if_neg hl]
      rcases hj2 with rfl | rfl
      · exact leM_refl _
      · rw [gM_eq (by omega), gM_eq (by omega)]; unfold leM; simpa using hl
  · rw [dif_neg h2]
    rcases hj2 with rfl | rfl
    · exact leM_refl _
    · omega
theorem kid_par (ms : List Ml) (k n : Nat) (h : 2 * k + 1 < n) (hn : n ≤ ms.length) : (kidM ms k n h hn - 1) / 2 = k := by
  unfold kidM; split
  · split <;> omega
  · omega
theorem down_heap (ms : List Ml) (k n : Nat) (hn : n ≤ ms.length) (h : HpX (gM ms) n k) (hi : 0 < k → k < n → leM (gM ms ((k - 1) / 2)) (gM ms k)) : Hp (gM (downP ms k n).1) n := by
  induction ms, k using downP.induct (n := n) with
  | case1 ms k hc hl ih =>
    have hkl := kidM_lt ms k n hc.1 hc.2
    have hkp := kid_par ms k n hc.1 hc.2
    have hkm := kid_min ms k n hc.1 hc.2
    rw [downP_go hc.1 hc.2 rfl (Nat.lt_of_lt_of_le hkl.2 hc.2) hl]
    have hl2 : leM (gM ms (kidM ms k n hc.1 hc.2)) (gM ms k) := by rw [gM_eq (by omega), gM_eq (by omega)]; exact leM_of_less hl
    have e := fun j => gM_swap ms k (kidM ms k n hc.1 hc.2) (by omega) (by omega) j
    refine ih (by rw [swapM_length]; exact hn) ⟨fun j h0 hj h1 h2 => ?_, fun j h0 hj h1 h2 => ?_⟩ (fun h1 h2 => ?_)
    · rw [e, e, if_neg h1, if_neg h2]
      by_cases h3 : j = k
      · rw [if_pos h3, if_neg (by omega)]
        have := h.2 (kidM ms k n hc.1 hc.2) (by omega) hkl.2 hkp (by omega); rw [h3]; exact this
      · rw [if_neg h3]
        by_cases h4 : (j - 1) / 2 = k
        · rw [if_pos h4]; exact hkm j h0 hj h4
        · rw [if_neg h4]; exact h.1 j h0 hj h3 h4
    · rw [e, e, hkp, if_neg (by omega), if_pos rfl, if_neg (by omega), if_neg (by omega)]
      have := h.1 j h0 hj (by omega) (by omega)
      rw [h1] at this; exact this
    · rw [e, e, hkp, if_neg (by omega), if_pos rfl, if_pos rfl]; exact hl2
  | case2 ms k hc hl =>
    have hkl := kidM_lt ms k n hc.1 hc.2
    have hkm := kid_min ms k n hc.1 hc.2
    rw [downP_stop hc.1 hc.2 rfl (Nat.lt_of_lt_of_le hkl.2 hc.2) (by simpa using hl)]
    have hl2 : leM (gM ms k) (gM ms (kidM ms k n hc.1 hc.2)) := by rw [gM_eq (by omega), gM_eq (by omega)]; unfold leM; simpa using hl
    intro j h0 hj
    by_cases h1 : j = k
    · subst h1; exact hi h0 hj
    · by_cases h2 : (j - 1) / 2 = k
      · rw [h2]; exact leM_trans hl2 (hkm j h0 hj h2)
      · exact h.1 j h0 hj h1 h2
  | case3 ms k hc =>
    rw [downP, dif_neg hc]
    intro j h0 hj
    by_cases h1 : j = k
    · subst h1; exact hi h0 hj
    · exact h.1 j h0 hj h1 (by omega)
theorem downP_same (ms : List Ml) (k n : Nat) : k ≤ (downP ms k n).2 ∧ ((downP ms k n).2 ≤ k → (downP ms k n).1 = ms) := by
  induction ms, k using downP.induct (n := n) with
  | case1 ms k hc hl ih =>
    have hkl := kidM_lt ms k n hc.1 hc.2
    rw [downP_go hc.1 hc.2 rfl (Nat.lt_of_lt_of_le hkl.2 hc.2) hl]
    exact ⟨by omega, fun h => by omega⟩
  | case2 ms k hc hl =>
    have hkl := kidM_lt ms k n hc.1 hc.2
    rw [downP_stop hc.1 hc.2 rfl (Nat.lt_of_lt_of_le hkl.2 hc.2) (by simpa using hl)]
    exact ⟨Nat.le_refl _, fun _ => rfl⟩
  | case3 ms k hc => rw [downP, dif_neg hc]; exact ⟨Nat.le_refl _, fun _ => rfl⟩
theorem swapM_perm (ms : List Ml) (i j : Nat) (hi : i < ms.length) (hj : j < ms.length) : (swapM ms i j hi hj).Perm ms := List.set_set_perm hi hj
theorem upF_perm (ms : List Ml) (k : Nat) : (upF ms k).Perm ms := by
  induction ms, k using upF.induct with
  | case1 ms k hc hl ih => rw [upF_go hc.1 hc.2 hl]; exact ih.trans (swapM_perm _ _ _ _ _)
  | case2 ms k hc hl => rw [upF_stop hc.1 hc.2 (by simpa using hl)]
  | case3 ms k hc => rw [upF, dif_neg hc]
theorem downP_perm (ms : List Ml) (k n : Nat) : (downP ms k n).1.Perm ms := by
  induction ms, k using downP.induct (n := n) with
  | case1 ms k hc hl ih => rw [downP_go hc.1 hc.2 rfl (Nat.lt_of_lt_of_le (kidM_lt ms k n hc.1 hc.2).2 hc.2) hl]; exact ih.trans (swapM_perm _ _ _ _ _)
  | case2 ms k hc hl => rw [downP_stop hc.1 hc.2 rfl (Nat.lt_of_lt_of_le (kidM_lt ms k n hc.1 hc.2).2 hc.2) (by simpa using hl)]
  | case3 ms k hc => rw [downP, dif_neg hc]
theorem push_heap (ms : List Ml) (m : Ml) (h : Hp (gM ms) ms.length) : Hp (gM (upF (ms ++ [m]) ms.length)) (ms.length + 1) := by
  have hg : ∀ k, k < ms.length → gM (ms ++ [m]) k = gM ms k := fun k hk => by unfold gM; rw [List.getElem?_append_left hk]
  have := up_heap (ms ++ [m]) ms.length (by simp) ⟨fun j h0 hj h1 h2 => ?_, fun j h0 hj h1 _ => ?_⟩ (fun j h0 hj h1 => ?_)
  · rw [List.length_append] at this; exact this
  · rw [List.length_append] at hj; simp at hj; rw [hg _ (by omega), hg _ (by omega)]; exact h j h0 (by omega)
  · rw [List.length_append] at hj; simp at hj; omega
  · rw [List.length_append] at hj; simp at hj; omega
theorem popF_perm (ms : List Ml) (h : 0 < ms.length) : (popF ms h ++ [ms[0]]).Perm ms := by
  rw [← popF_all]; exact (downP_perm _ _ _).trans (swapM_perm _ _ _ _ _)
theorem pop_heap (ms : List Ml) (h0 : 0 < ms.length) (h : Hp (gM ms) ms.length) : Hp (gM (popF ms h0)) (popF ms h0).length := by
  have h1 := down_heap (swapM ms 0 (ms.length - 1) h0 (by omega)) 0 (ms.length - 1) (by rw [swapM_length]; omega) ⟨fun j a b c d => ?_, fun j _ _ _ h => by omega⟩ (fun h => by omega)
  · rw [popF_all] at h1
    rw [popF_len]
    have hg : ∀ k, k < (popF ms h0).length → gM (popF ms h0 ++ [ms[0]]) k = gM (popF ms h0) k := fun k hk => by unfold gM; rw [List.getElem?_append_left hk]
    intro j a b
    have := h1 j a b
    rw [hg _ (by rw [popF_len]; omega), hg _ (by rw [popF_len]; omega)] at this
    exact this
  · rw [gM_swap, gM_swap, if_neg (by omega), if_neg d, if_neg (by omega), if_neg c]
    exact h j a (by omega)
theorem pop_least (ms : List Ml) (h0 : 0 < ms.length) (h : Hp (gM ms) ms.length) : ∀ m ∈ ms, leM ms[0] m := by
  intro m hm
  obtain ⟨k, hk, rfl⟩ := List.mem_iff_getElem.1 hm
  have := h.least k hk
  rwa [gM_eq h0, gM_eq hk] at this
end Go.Proofs.Ytfddoindcmdooaa
namespace Go.Proofs.Ytfddoindcmdooaa
open Go.RowKit Go.Proofs.Bits
set_option linter.unusedVariables false
set_option maxRecDepth 1000000
set_option linter.unusedSimpArgs false

set_option maxHeartbeats 1000000 in
theorem Send_bad {w : World} {D : Nat} (f : Fr) (hf : f.chk ≠ 0) :
    Calls Try.prog 13 #[.pointer (some ⟨D, 0, none⟩), f.val] w fun e w' => e = .returned (.tuple #[.int .i64 0, .int .i64 f.chk]) ∧ Below w.heap.size w w' := by
  obtain ⟨wa, hwa⟩ : ∃ wa, w.alloc (.cells f.arr 45) = wa := ⟨_, rfl⟩
  have ba : Below w.heap.size w wa := by rw [← hwa]; exact (Below.refl _ _).alloc (Nat.le_refl _) _
  have fa : Fa w.heap.size f wa := by rw [← hwa]; exact Fa.new w f
  have hFi := fField_any f wa
  have hne : (f.chk != 0) = true := by simpa using hf
  obtain ⟨q, hq⟩ : ∃ q, w.heap.size = q := ⟨_, rfl⟩
  have sa := ba.size
  rw [hq] at fa
  unfold Fr.val at *
  generalize f.chk = z at *
  go_enter Try.func13, Try.ntmps13
  go_upto_region 1 with fail
  go_wp2_with (refine fa.ld rfl _ rfl rfl ?_)
  refine hFi.mono ?_
  rintro e w2 ⟨rfl, b2⟩
  have B2 : Below w.heap.size w w2 := ba.trans (b2.mono sa)
  clear hFi fa
  go_wp2
  go_ret2
  exact ⟨rfl, B2⟩
set_option maxHeartbeats 1000000 in
theorem Send_full {w : World} {D n cap : Nat} {ao : Option Addr} {vc vf : Value} {bx tk rm lo : Int} (f : Fr) (hA : Dr D (dA bx (.slice ao n cap) tk rm vc lo vf) w) (hf : f.chk = 0) (hn : (n : Int) = bx) :
    Calls Try.prog 13 #[.pointer (some ⟨D, 0, none⟩), f.val] w fun e w' => e = .returned (.tuple #[.int .i64 0, .int .i64 31]) ∧ Below w.heap.size w w' := by
  obtain ⟨wa, hwa⟩ : ∃ wa, w.alloc (.cells f.arr 45) = wa := ⟨_, rfl⟩
  have ba : Below w.heap.size w wa := by rw [← hwa]; exact (Below.refl _ _).alloc (Nat.le_refl _) _
  have fa : Fa w.heap.size f wa := by rw [← hwa]; exact Fa.new w f
  have hFi := fField_any f wa
  rw [hf] at hFi
  obtain ⟨q, hq⟩ : ∃ q, w.heap.size = q := ⟨_, rfl⟩
  have lD : D < q := by rw [← hq]; exact (Array.getElem?_eq_some_iff.1 hA).1
  have sa := ba.size
  rw [hq] at fa
  have hne : ((n : Int) == bx) = true := by simpa using hn
  clear hn
  unfold Fr.val at *
  go_enter Try.func13, Try.ntmps13
  go_upto_region 1 with fail
  go_wp2_with (refine fa.ld rfl _ rfl rfl ?_)
  refine hFi.mono ?_
  rintro e w2 ⟨rfl, b2⟩
  have B2 : Below w.heap.size w w2 := ba.trans (b2.mono sa)
  have A2 : Dr D (dA bx (.slice ao n cap) tk rm vc lo vf) w2 := (B2.block D (by omega)).trans hA
  have c0 := A2.cell (k := 0) (v := .int .i64 bx) rfl
  have c1 := A2.cell (k := 1) (v := .slice ao n cap) rfl
  clear hFi fa A2
  go_wp2_with fail
  go_quiet (fail)
  go_wp2
  go_ret2
  exact ⟨rfl, below_drawn B2 _⟩
end Go.Proofs.Ytfddoindcmdooaa
namespace Go.Proofs.Ytfddoindcmdooaa
open Go.RowKit Go.Proofs.Bits
set_option linter.unusedVariables false
set_option maxRecDepth 1000000
set_option linter.unusedSimpArgs false

theorem fits_ok (z : Int) (h1 : 1 ≤ z) (h2 : z ≤ 64) (w : World) : Calls Try.prog 21 #[.int .i64 z] w fun e w' => e = .returned (.bool true) ∧ w' = w := by
  have d1 : decide (1 ≤ z) = true := by simpa using h1
  have d2 : decide (z ≤ 64) = true := by simpa using h2
  go_enter Try.func21, Try.ntmps21
  go_wp2
  go_ret
  exact ⟨rfl, rfl⟩
theorem infoFf : (Try.prog.info? 86).map (fun i => (i.zero, i.size, i.bytes)) = some (some .nilFunc, 1, 8) := by kernel_rfl
set_option maxHeartbeats 1000000 in
theorem filtersOf_nil (w : World) : Calls Try.prog 22 #[.slice none 0 0] w fun e w' => (∃ ao cap, e = .returned (.slice ao 0 cap)) ∧ Below w.heap.size w w' := by
  have hm : ∀ x, (Instr.makeSlice 63 (.int .i64 0) (.int .i64 0)).run Try.prog x = .ok (.slice (some ⟨x.heap.size, 0, none⟩) 0 0) (x.alloc (.cells (madeCells #[.nilFunc] 0) 86)) := fun x => run_make_row' (P := Try.prog) 63 86 .nilFunc 8 Try.underlying63 infoFf rfl .i64 .i64 0 (by omega) (by omega) x
  go_enter Try.func22, Try.ntmps22
  go_wp2
  go_loopw [11] (fun i x => i = .int .i64 0 ∧ Below w.heap.size w x) (fun _ _ => 0)
  case atStart => exact ⟨rfl, (Below.refl _ _).alloc (Nat.le_refl _) _⟩
  case round =>
    obtain ⟨rfl, B1⟩ := hrel
    go_wp2
    go_ret
    exact ⟨⟨_, _, rfl⟩, B1⟩
set_option maxHeartbeats 1000000 in
theorem New_nil (bx rm : Int) (h1 : 1 ≤ bx) (h2 : bx ≤ 64) (h3 : 1 ≤ rm) (h4 : rm ≤ 64) (w : World) :
    Calls Try.prog 7 #[.int .i64 bx, .int .i64 rm, .slice none 0 0] w fun e w' => ∃ D ao cap, e = .returned (.tuple #[.pointer (some ⟨D, 0, none⟩), .int .i64 0]) ∧ w.heap.size ≤ D ∧ Dr D (dA bx (.slice none 0 0) 0 rm (.slice none 0 0) 0 (.slice ao 0 cap)) w' ∧ Below w.heap.size w w' := by
  have hF1 := fits_ok bx h1 h2 w
  have hF2 := fits_ok rm h3 h4 w
  have hFi := filtersOf_nil w
  go_enter Try.func7, Try.ntmps7
  go_wp2_with fail
  refine hF1.mono ?_
  rintro e w1 ⟨rfl, rfl⟩
  clear hF1
  go_wp2_with fail
  refine hF2.mono ?_
  rintro e w2 ⟨rfl, rfl⟩
  clear hF2
  go_wp2_with fail
  refine hFi.mono ?_
  rintro e w3 ⟨⟨ao, cap, rfl⟩, b3⟩
  have HX : Hid (Dr w3.heap.size (dA bx (.slice none 0 0) 0 rm (.slice none 0 0) 0 (.slice ao 0 cap)) (w3.alloc (.cells (dA bx (.slice none 0 0) 0 rm (.slice none 0 0) 0 (.slice ao 0 cap)) 68))) := heap_alloc_new w3 _
  have HB : Hid (∀ o, Below _ _ (w3.alloc o)) := fun o => b3.alloc b3.size o
  have hs := b3.size
  clear hFi b3
  go_wp2
  go_ret2
  exact ⟨w3.heap.size, ao, cap, rfl, hs, HX.out, HB.out _⟩
end Go.Proofs.Ytfddoindcmdooaa
namespace Go.Proofs.Ytfddoindcmdooaa
open Go.RowKit Go.Proofs.Bits
set_option linter.unusedVariables false
set_option maxRecDepth 1000000
set_option linter.unusedSimpArgs false

theorem load_fa (x : World) (q : Nat) (f : Fr) (h : Fa q f x) : (loadVar 45 ⟨q, 0, none⟩).run Try.prog x = .ok (.agg f.arr) x :=
  run_loadVar_mid (P := Try.prog) x q 0 45 f.cells _ h.range5 Try.underlying45 rfl (by rw [infoF]; simp [Fr.cells, f.hdata])
theorem ml_fr {w : World} {b o : Nat} {m : Ml} (h : w.rangeAt b o m.cells) : w.rangeAt b o m.f.cells := fun j u hj => h j u (by
  unfold Ml.cells
  rw [List.getElem?_append_left (List.getElem?_eq_some_iff.1 hj).1]
  exact hj)
theorem fld_ld5 {w : World} {ops : Array Oper} {rest : List Oper} {p : Oper} {a : Act} {Q : Exit → Act → World → Prop} {b o : Nat} {f : Fr} (h : w.rangeAt b o f.cells) (hgd : p.guard = none) (x : Operand) (ho : p.op = .load 45 x) (hx : a.eval x = .pointer (some ⟨b, o, none⟩))
    (hh : wpList Try.prog ops Q rest (a.put p.dst (.agg f.arr)) w) : wpList Try.prog ops Q (p :: rest) a w :=
  wpList_load_mid hgd 45 x ho b o hx f.cells _ h Try.underlying45 rfl (by rw [infoF]; simp [Fr.cells, f.hdata]) hh
set_option maxHeartbeats 1000000 in
theorem Next_some {w : World} {B D : Nat} {v vc vf : Value} {ms : List Ml} {bx tk rm lo : Int} (hA : Dr D (dA bx v tk rm vc lo vf) w) (h : Mb w B v ms) (hl : 0 < ms.length) :
    Calls Try.prog 14 #[.pointer (some ⟨D, 0, none⟩)] w fun e w' => e = .returned (.tuple #[ms[0].f.val, .bool true]) ∧ Below w.heap.size w w' := by
  obtain ⟨wa, hwa⟩ : ∃ wa, w.alloc (.cells Fr.nul.arr 45) = wa := ⟨_, rfl⟩
  have ba : Below w.heap.size w wa := by rw [← hwa]; exact (Below.refl _ _).alloc (Nat.le_refl _) _
  have fa : Fa w.heap.size Fr.nul wa := by rw [← hwa]; exact Fa.new w Fr.nul
  have A2 : Dr D _ wa := (ba.block D (Array.getElem?_eq_some_iff.1 hA).1).trans hA
  obtain ⟨ao, cap, rfl, hc⟩ := h.at
  obtain ⟨b, rfl, hb, R1, _, _⟩ := hc 0 hl
  have c1 := A2.cell (k := 1) (v := .slice (some ⟨b, 0, none⟩) ms.length cap) rfl
  have R2 : wa.rangeAt b 0 ms[0].f.cells := fun j u hj => (ba.cell (p := ⟨b, 0 + j, none⟩) hb).trans (by have := ml_fr R1 j u hj; rw [Nat.zero_mul] at this; exact this)
  have hne : ((ms.length : Int) == 0) = false := by rw [beq_eq_false_iff_ne]; omega
  have fb := fa.row ms[0].f
  obtain ⟨q, hq⟩ : ∃ q, w.heap.size = q := ⟨_, rfl⟩
  rw [hq] at fa fb
  have hld := load_fa _ q _ fb
  have HB : Hid (Below w.heap.size w (wa.setRow q ms[0].f.arr)) := by
    show Below _ _ _
    have := below_row ba (q := q) (by omega) (by have := (Array.getElem?_eq_some_iff.1 fa).1; omega) ms[0].f.arr
    exact this
  have hle : (0 : Int) < (ms.length : Int) := by omega
  have hwa2 : w.alloc (.cells #[.int .u32 0, .bool false, .bool false, .int .i64 0, .int .u8 0, .int .u8 0, .int .u8 0, .int .u8 0, .int .u8 0, .int .u8 0, .int .u8 0, .int .u8 0] 45) = wa := hwa
  unfold Fr.val
  generalize ms[0].f = f at *
  clear hwa hc h hA A2 ba R1 fb
  go_enter Try.func14, Try.ntmps14
  go_upto_region 3 with fail
  go_wp2_with (first | refine fld_ld5 R2 rfl _ rfl rfl ?_ | refine fa.sd f rfl _ _ rfl rfl rfl ?_)
  exact bodyPost_ret (v := .tuple #[.agg f.arr, .bool true]) (by simp [results, Try.results14, asAddr, hld]) rfl ⟨rfl, HB.out⟩
set_option maxHeartbeats 1000000 in
theorem Passes_nil {w : World} {D : Nat} {v vc : Value} {ao : Option Addr} {cap : Nat} {bx tk rm lo : Int} (f : Fr) (hA : Dr D (dA bx v tk rm vc lo (.slice ao 0 cap)) w) :
    Calls Try.prog 19 #[.pointer (some ⟨D, 0, none⟩), f.val] w fun e w' => e = .returned (.bool (f.chk == 0)) ∧ Below w.heap.size w w' := by
  obtain ⟨wa, hwa⟩ : ∃ wa, w.alloc (.cells f.arr 45) = wa := ⟨_, rfl⟩
  have ba : Below w.heap.size w wa := by rw [← hwa]; exact (Below.refl _ _).alloc (Nat.le_refl _) _
  have fa : Fa w.heap.size f wa := by rw [← hwa]; exact Fa.new w f
  have hC := fCheck_any f wa
  have HV : Hid (∀ z, f.chk = z → (f.chk == 0) = (z == 0)) := fun z h => by rw [h]
  obtain ⟨q, hq⟩ : ∃ q, w.heap.size = q := ⟨_, rfl⟩
  have lD : D < q := by rw [← hq]; exact (Array.getElem?_eq_some_iff.1 hA).1
  have sa : w.heap.size ≤ wa.heap.size := ba.size
  rw [hq] at fa
  unfold Fr.val at *
  generalize f.chk = z at *
  by_cases hz : z = 0
  · have d1 : (z != 0) = false := by simpa using hz
    have HE : Hid ((z == 0) = true) := by show _ = _; simpa using hz
    clear HV hz
    go_enter Try.func19, Try.ntmps19
    go_upto_region 1 with fail
    go_wp2_with (refine fa.ld rfl _ rfl rfl ?_)
    refine hC.mono ?_
    rintro e w2 ⟨rfl, b2⟩
    have B2 : Below w.heap.size w w2 := ba.trans (b2.mono sa)
    have A2 : Dr D _ w2 := (B2.block D (by omega)).trans hA
    have c6 := A2.cell (k := 6) (v := .slice ao 0 cap) rfl
    clear hC A2 fa
    go_wp2
    go_ret
    exact ⟨ret_bool HE.out.symm, B2⟩
  · have d1 : (z != 0) = true := by simpa using hz
    have HE : Hid ((z == 0) = false) := by show _ = _; simpa using hz
    clear HV hz
    go_enter Try.func19, Try.ntmps19
    go_upto_region 1 with fail
    go_wp2_with (refine fa.ld rfl _ rfl rfl ?_)
    refine hC.mono ?_
    rintro e w2 ⟨rfl, b2⟩
    have B2 : Below w.heap.size w w2 := ba.trans (b2.mono sa)
    clear hC fa
    go_wp2
    go_ret
    exact ⟨ret_bool HE.out.symm, B2⟩
end Go.Proofs.Ytfddoindcmdooaa
namespace Go.Proofs.Ytfddoindcmdooaa
open Go.RowKit Go.Proofs.Bits
set_option linter.unusedVariables false
set_option maxRecDepth 1000000
set_option linter.unusedSimpArgs false

theorem load_frs (x : World) (D k : Nat) (ao : Option Addr) (l c : Nat) (hc : x.cell? ⟨D, k, none⟩ = some (.slice ao l c)) : (loadVar 37 ⟨D, k, none⟩).run Try.prog x = .ok (.slice ao l c) x := by
  simp [go_sem, run_underlying Try.underlying37, hc]
theorem store_frs (x : World) (D k : Nat) (u : Value) (ao : Option Addr) (l c : Nat) (hc : x.cell? ⟨D, k, none⟩ = some u) (hf : x.frozen? ⟨D, k, none⟩ = false) : (storeVar 37 ⟨D, k, none⟩ (.slice ao l c)).run Try.prog x = .ok () (x.setCell ⟨D, k, none⟩ (.slice ao l c)) := by
  simp [go_sem, run_underlying Try.underlying37, hc, hf]
theorem fill_fr (g : Fr) : Instr.fill (fun i => some (i * 12, 12)) ((Array.range (1 * 12)).map ((Value.agg Fr.nul.arr).cells[· % (Value.agg Fr.nul.arr).cells.size]!)) [(0, .agg g.arr)] = some g.arr := by
  have hsz : (Value.agg g.arr).cells.size = 12 := by simp [Value.cells, g.arr_size]
  have := Go.Great.fill_whole (by decide : 0 < 12) [Value.agg g.arr] ((Array.range (1 * 12)).map ((Value.agg Fr.nul.arr).cells[· % (Value.agg Fr.nul.arr).cells.size]!)) (by intro v hv; simp at hv; subst hv; exact hsz) (by simp)
  simpa [Value.cells] using this
theorem news_fr (x : World) (g : Fr) : ∀ j u, g.cells[j]? = some u → (x.alloc (.cells g.arr 45)).cell? ((⟨x.heap.size, 0, none⟩ : Addr).add j) = some u := fun j u hj => by
  rw [Addr.add_mid, Nat.zero_add, Lib.cell_of_heap (heap_alloc_new x _)]
  simpa [Fr.arr] using hj
theorem own_typ {w : World} {B : Nat} {e : TypeId} {c : Nat} {v : Value} {n : Nat} {xs : List Value} (h : w.ownsRow B e c v n xs) {D : Nat} {A : Array Value} (hA : Dr D A w) (he : e ≠ 68) : v.ownBlock ≠ some D := fun hg => by
  rcases h.2 with ⟨rfl, _⟩ | ⟨g', cap, cur, rfl, hB, hcur, _⟩
  · cases hg
  · cases hg
    unfold Dr at hA
    rw [hcur] at hA
    simp at hA
    exact he hA.2
set_option maxHeartbeats 4000000 in
theorem Take_ok {w : World} {B D : Nat} {v vc : Value} {ao : Option Addr} {cap : Nat} {cs : List Fr} {bx tk rm lo : Int} (f : Fr) (hA : Dr D (dA bx v tk rm vc lo (.slice ao 0 cap)) w) (h : w.ownsRow B 45 12 vc cs.length (flatW DF cs)) (hB : B ≤ w.heap.size) (hf : f.chk = 0) (hcs : (cs.length : Int) < rm) (hrm : rm ≤ 64) :
    Calls Try.prog 18 #[.pointer (some ⟨D, 0, none⟩), f.val] w fun e w' => e = .returned (.int .i64 0) ∧ ∃ x vc' w1, Below w.heap.size w x ∧ x.grownBy w1 vc.ownBlock ∧ w1.ownsRow B 45 12 vc' (cs ++ [f.plain]).length (flatW DF (cs ++ [f.plain])) ∧ w' = w1.setCell ⟨D, 4, none⟩ vc' := by
  obtain ⟨wa, hwa⟩ : ∃ wa, w.alloc (.cells f.arr 45) = wa := ⟨_, rfl⟩
  have ba : Below w.heap.size w wa := by rw [← hwa]; exact (Below.refl _ _).alloc (Nat.le_refl _) _
  have fa : Fa w.heap.size f wa := by rw [← hwa]; exact Fa.new w f
  have hC := fCheck_any f wa
  rw [hf] at hC
  have HPs : Hid (∀ x, Below w.heap.size w x → Calls Try.prog 19 #[.pointer (some ⟨D, 0, none⟩), .agg f.arr] x fun e w' => e = .returned (.bool true) ∧ Below x.heap.size x w') := fun x hx => by
    have := Passes_nil f (show Dr D (dA bx v tk rm vc lo (.slice ao 0 cap)) x from (hx.block D (Array.getElem?_eq_some_iff.1 hA).1).trans hA)
    rw [hf] at this
    exact this
  obtain ⟨q, hq⟩ : ∃ q, w.heap.size = q := ⟨_, rfl⟩
  have lD : D < q := by rw [← hq]; exact (Array.getElem?_eq_some_iff.1 hA).1
  have sa : w.heap.size ≤ wa.heap.size := ba.size
  rw [hq] at fa
  obtain ⟨ac, cc, rfl⟩ := own_shape5 h
  unfold Fr.val at *
  go_enter Try.func18, Try.ntmps18
  go_upto_region 1 with fail
  go_wp2_with (refine fa.ld rfl _ rfl rfl ?_)
  refine hC.mono ?_
  rintro e w2 ⟨rfl, b2⟩
  have B2 : Below w.heap.size w w2 := ba.trans (b2.mono sa)
  have f2 := fa.below5 b2
  have hPs := HPs.out w2 B2
  clear hC fa HPs
  go_upto_region 4 with fail
  go_wp2_with (refine f2.ld rfl _ rfl rfl ?_)
  refine hPs.mono ?_
  rintro e w3 ⟨rfl, b3⟩
  have B3 : Below w.heap.size w w3 := B2.trans (b3.mono B2.size)
  have f3 := f2.below5 b3
  have A3 : Dr D (dA bx v tk rm (.slice ac cs.length cc) lo (.slice ao 0 cap)) w3 := (B3.block D (by omega)).trans hA
  have c3 := A3.cell (k := 3) (v := .int .i64 rm) rfl
  have c4 := A3.cell (k := 4) (v := .slice ac cs.length cc) rfl
  have hne : ((cs.length : Int) == rm) = false := by rw [beq_eq_false_iff_ne]; omega
  clear hPs f2 b2
  go_wp2_with fail
  go_quiet (fail)
  go_upto_region 9 with fail
  have B4 : Below w.heap.size w (w3.drewN nq) := below_drawn B3 nq
  have f4 : Fa q f (w3.drewN nq) := f3
  generalize w3.drewN nq = wb at *
  refine wp_region_any (by kernel_rfl) ?_
  obtain ⟨w4, hw4⟩ : ∃ x : World, { wb with drawn := wb.drawn + 1 } = x := ⟨_, rfl⟩
  rw [hw4]
  have b4 : Below wb.heap.size wb w4 := by rw [← hw4]; exact below_drawn (Below.refl _ _) 1
  have HW : Hid (∀ x, Below w4.heap.size w4 x → Dr D (dA bx v tk rm (.slice ac cs.length cc) lo (.slice ao 0 cap)) x ∧ x.ownsRow B 45 12 (.slice ac cs.length cc) cs.length (flatW DF cs) ∧ Fa q f x ∧ Below w.heap.size w x) := fun x hx => by
    have b5 : Below wb.heap.size wb x := b4.trans (hx.mono b4.size)
    have B5 : Below w.heap.size w x := B4.trans (b5.mono B4.size)
    exact ⟨(B5.block D (by omega)).trans hA, own_below5 h B5, f4.below5 b5, B5⟩
  have HF : Hid (∀ x, Below w4.heap.size w4 x → ∀ v' w1, w1.ownsRow B 45 12 v' (cs.length + 1) (flatW DF cs ++ f.plain.cells) → x.grownBy w1 (Value.slice ac cs.length cc).ownBlock → w1.cell? ⟨D, 4, none⟩ = some (.slice ac cs.length cc) ∧ w1.frozen? ⟨D, 4, none⟩ = false ∧ Below w.heap.size w x ∧ x.grownBy w1 (Value.slice ac cs.length cc).ownBlock ∧ w1.ownsRow B 45 12 v' (cs ++ [f.plain]).length (flatW DF (cs ++ [f.plain]))) := fun x hx v' w1 o1 g1 => by
    obtain ⟨a1, a2, a3, a4⟩ := HW.out x hx
    have A1 : Dr D _ w1 := (g1.block D (Array.getElem?_eq_some_iff.1 a1).1 (fun e => (own_typ a2 a1 (by decide)) e.symm)).trans a1
    refine ⟨A1.cell rfl, A1.free 4, a4, g1, ?_⟩
    rw [List.length_append, flatW_append]
    simpa [flatW, DF] using o1
  have HPl : Hid (∀ x, Calls Try.prog 31 #[.agg f.arr] x fun e w' => e = .returned (.agg f.plain.arr) ∧ Below x.heap.size x w') := fun x => fPlain_any f x
  obtain ⟨i0, hi0, hz0, hz1, hz2⟩ := info_parts infoFZ
  clear A3 B3 f3 b3 c3 c4 ba f4 B4 B2
  refine wpAny_take (i := 0) (v := (.pointer (some ⟨D, 0, none⟩))) rfl (by kernel_rfl) (by kernel_rfl) (by kernel_rfl) (fun _ _ _ h => h) (.inl ⟨rfl, fun _ => rfl⟩) ?_
  simp only [List.getElem_toArray, List.getElem_cons_succ, List.getElem_cons_zero, Act.put, List.setIfInBounds_toArray, List.set_cons_succ, List.set_cons_zero]
  refine wpAny_take (i := 1) (v := (.pointer (some ⟨D, 0, none⟩))) rfl (by kernel_rfl) (by kernel_rfl) (by kernel_rfl) (fun _ _ _ h => h) (.inl ⟨rfl, fun _ => rfl⟩) ?_
  simp only [List.getElem_toArray, List.getElem_cons_succ, List.getElem_cons_zero, Act.put, List.setIfInBounds_toArray, List.set_cons_succ, List.set_cons_zero]
  refine wpAny_take (i := 2) (v := (.pointer (some ⟨D, 0, none⟩))) rfl (by kernel_rfl) (by kernel_rfl) (by kernel_rfl) (fun _ _ _ h => h) (.inl ⟨rfl, fun _ => by simp [execOp, go_sem, Act.eval]⟩) ?_
  simp only [List.getElem_toArray, List.getElem_cons_succ, List.getElem_cons_zero, Act.put, List.setIfInBounds_toArray, List.set_cons_succ, List.set_cons_zero]
  refine wpAny_take (i := 3) (v := (.pointer (some ⟨D, 4, none⟩))) rfl (by kernel_rfl) (by kernel_rfl) (by kernel_rfl) (fun _ _ _ h => h) (.inl ⟨rfl, fun _ => by simp [execOp, go_sem, Act.eval]⟩) ?_
  simp only [List.getElem_toArray, List.getElem_cons_succ, List.getElem_cons_zero, Act.put, List.setIfInBounds_toArray, List.set_cons_succ, List.set_cons_zero]
  refine wpAny_all (rs := [4, 5]) (by kernel_rfl) (by simp) ?_
  intro k hk
  simp only [List.mem_cons, List.mem_nil_iff, or_false] at hk
  rcases hk with rfl | rfl
  · refine wpOp_run rfl rfl (wp_load_cell 37 _ rfl D 4 rfl (.slice ac cs.length cc) (load_frs w4 D 4 ac _ _ ((HW.out w4 (Below.refl _ _)).1.cell rfl)) ?_)
    simp only [List.getElem_toArray, List.getElem_cons_succ, List.getElem_cons_zero, Act.put, List.setIfInBounds_toArray, List.set_cons_succ, List.set_cons_zero]
    refine wpAny_all (rs := [5]) (by kernel_rfl) (by simp) ?_
    intro k hk
    simp only [List.mem_cons, List.mem_nil_iff, or_false] at hk
    subst hk
    refine wpOp_run rfl rfl (wp_load_mid 45 _ rfl q 0 rfl f.cells _ (HW.out w4 (Below.refl _ _)).2.2.1.range5 Try.underlying45 rfl (by rw [infoF]; simp [Fr.cells, f.hdata]) ?_)
    simp only [List.getElem_toArray, List.getElem_cons_succ, List.getElem_cons_zero, Act.put, List.setIfInBounds_toArray, List.set_cons_succ, List.set_cons_zero]
    refine wpAny_all (rs := [6]) (by kernel_rfl) (by simp) ?_
    intro k hk
    simp only [List.mem_cons, List.mem_nil_iff, or_false] at hk
    subst hk
    refine wpOp_run rfl rfl (wp_call_fn 31 #[.agg f.arr] (by simp [execOp, go_sem, Act.eval, resolve, invoke, enterP]; rfl) ((HPl.out w4).mono ?_))
    rintro e x5 ⟨rfl, b5⟩
    simp only [List.getElem_toArray, List.getElem_cons_succ, List.getElem_cons_zero, Act.put, List.setIfInBounds_toArray, List.set_cons_succ, List.set_cons_zero]
    refine wpAny_all (rs := [7]) (by kernel_rfl) (by simp) ?_
    intro k hk
    simp only [List.mem_cons, List.mem_nil_iff, or_false] at hk
    subst hk
    refine wpOp_run rfl rfl (wp_buildSlice 37 45 1 _ rfl f.plain.arr i0 _ Try.underlying37 hi0 hz0 (by rw [hz1]; omega) (by rw [hz1]; omega) (by rw [hz1]; simp only [List.map_toArray, List.map_cons, List.map_nil]; exact fill_fr f.plain) ?_)
    simp only [List.getElem_toArray, List.getElem_cons_succ, List.getElem_cons_zero, Act.put, List.setIfInBounds_toArray, List.set_cons_succ, List.set_cons_zero]
    refine wpAny_all (rs := [8]) (by kernel_rfl) (by simp) ?_
    intro k hk
    simp only [List.mem_cons, List.mem_nil_iff, or_false] at hk
    subst hk
    refine wpOp_run rfl rfl (wp_append_own _ _ _ 37 rfl B 45 i0 _ 12 24 Try.underlying37 hi0 hz0 hz1 hz2 rfl (by omega) _ cs.length (flatW DF cs) rfl (HW.out (x5.alloc (.cells f.plain.arr 45)) (b5.trans (((Below.refl _ x5).alloc (Nat.le_refl _) (.cells f.plain.arr 45)).mono b5.size))).2.1 ⟨x5.heap.size, 0, none⟩ 1 1 f.plain.cells rfl (by simp [Fr.cells, f.plain.hdata]) (news_fr x5 f.plain) (DF.one f.plain) (by unfold maxLen; omega) (by omega) (Nat.le_trans hB (HW.out (x5.alloc (.cells f.plain.arr 45)) (b5.trans (((Below.refl _ x5).alloc (Nat.le_refl _) (.cells f.plain.arr 45)).mono b5.size))).2.2.2.size) ?_)
    intro v' w1 o1 g1 _
    simp only [List.getElem_toArray, List.getElem_cons_succ, List.getElem_cons_zero, Act.put, List.setIfInBounds_toArray, List.set_cons_succ, List.set_cons_zero]
    have HX := HF.out (x5.alloc (.cells f.plain.arr 45)) (b5.trans (((Below.refl _ x5).alloc (Nat.le_refl _) (.cells f.plain.arr 45)).mono b5.size)) v' w1 o1 g1
    obtain ⟨ao', cap', rfl⟩ := own_shape5 o1
    refine wpAny_take (i := 9) (v := (.pointer (some ⟨D, 0, none⟩))) rfl (by kernel_rfl) (by kernel_rfl) (by kernel_rfl) (fun _ _ _ h => h) (.inl ⟨rfl, fun _ => by simp [execOp, go_sem, Act.eval]⟩) ?_
    simp only [List.getElem_toArray, List.getElem_cons_succ, List.getElem_cons_zero, Act.put, List.setIfInBounds_toArray, List.set_cons_succ, List.set_cons_zero]
    refine wpAny_take (i := 10) (v := (.pointer (some ⟨D, 4, none⟩))) rfl (by kernel_rfl) (by kernel_rfl) (by kernel_rfl) (fun _ _ _ h => h) (.inl ⟨rfl, fun _ => by simp [execOp, go_sem, Act.eval]⟩) ?_
    simp only [List.getElem_toArray, List.getElem_cons_succ, List.getElem_cons_zero, Act.put, List.setIfInBounds_toArray, List.set_cons_succ, List.set_cons_zero]
    refine wpAny_all (rs := [11]) (by kernel_rfl) (by simp) ?_
    intro k hk
    simp only [List.mem_cons, List.mem_nil_iff, or_false] at hk
    subst hk
    refine wpOp_run rfl rfl (wp_store_cell 37 _ _ rfl D 4 rfl _ rfl (store_frs w1 D 4 _ ao' _ cap' HX.1 HX.2.1) ?_)
    simp only [List.getElem_toArray, List.getElem_cons_succ, List.getElem_cons_zero, Act.put, List.setIfInBounds_toArray, List.set_cons_succ, List.set_cons_zero]
    refine wpAny_done (by kernel_rfl) ?_ _
    have HZ : Hid _ := HX.2.2
    clear HX o1 g1 HF HPl HW
    go_wp2
    go_ret
    exact ⟨rfl, _, _, w1, HZ.out.1, HZ.out.2.1, HZ.out.2.2, rfl⟩
  · refine wpOp_run rfl rfl (wp_load_mid 45 _ rfl q 0 rfl f.cells _ (HW.out w4 (Below.refl _ _)).2.2.1.range5 Try.underlying45 rfl (by rw [infoF]; simp [Fr.cells, f.hdata]) ?_)
    simp only [List.getElem_toArray, List.getElem_cons_succ, List.getElem_cons_zero, Act.put, List.setIfInBounds_toArray, List.set_cons_succ, List.set_cons_zero]
    refine wpAny_all (rs := [4, 6]) (by kernel_rfl) (by simp) ?_
    intro k hk
    simp only [List.mem_cons, List.mem_nil_iff, or_false] at hk
    rcases hk with rfl | rfl
    · refine wpOp_run rfl rfl (wp_load_cell 37 _ rfl D 4 rfl (.slice ac cs.length cc) (load_frs w4 D 4 ac _ _ ((HW.out w4 (Below.refl _ _)).1.cell rfl)) ?_)
      simp only [List.getElem_toArray, List.getElem_cons_succ, List.getElem_cons_zero, Act.put, List.setIfInBounds_toArray, List.set_cons_succ, List.set_cons_zero]
      refine wpAny_all (rs := [6]) (by kernel_rfl) (by simp) ?_
      intro k hk
      simp only [List.mem_cons, List.mem_nil_iff, or_false] at hk
      subst hk
      refine wpOp_run rfl rfl (wp_call_fn 31 #[.agg f.arr] (by simp [execOp, go_sem, Act.eval, resolve, invoke, enterP]; rfl) ((HPl.out w4).mono ?_))
      rintro e x5 ⟨rfl, b5⟩
      simp only [List.getElem_toArray, List.getElem_cons_succ, List.getElem_cons_zero, Act.put, List.setIfInBounds_toArray, List.set_cons_succ, List.set_cons_zero]
      refine wpAny_all (rs := [7]) (by kernel_rfl) (by simp) ?_
      intro k hk
      simp only [List.mem_cons, List.mem_nil_iff, or_false] at hk
      subst hk
      refine wpOp_run rfl rfl (wp_buildSlice 37 45 1 _ rfl f.plain.arr i0 _ Try.underlying37 hi0 hz0 (by rw [hz1]; omega) (by rw [hz1]; omega) (by rw [hz1]; simp only [List.map_toArray, List.map_cons, List.map_nil]; exact fill_fr f.plain) ?_)
      simp only [List.getElem_toArray, List.getElem_cons_succ, List.getElem_cons_zero, Act.put, List.setIfInBounds_toArray, List.set_cons_succ, List.set_cons_zero]
      refine wpAny_all (rs := [8]) (by kernel_rfl) (by simp) ?_
      intro k hk
      simp only [List.mem_cons, List.mem_nil_iff, or_false] at hk
      subst hk
      refine wpOp_run rfl rfl (wp_append_own _ _ _ 37 rfl B 45 i0 _ 12 24 Try.underlying37 hi0 hz0 hz1 hz2 rfl (by omega) _ cs.length (flatW DF cs) rfl (HW.out (x5.alloc (.cells f.plain.arr 45)) (b5.trans (((Below.refl _ x5).alloc (Nat.le_refl _) (.cells f.plain.arr 45)).mono b5.size))).2.1 ⟨x5.heap.size, 0, none⟩ 1 1 f.plain.cells rfl (by simp [Fr.cells, f.plain.hdata]) (news_fr x5 f.plain) (DF.one f.plain) (by unfold maxLen; omega) (by omega) (Nat.le_trans hB (HW.out (x5.alloc (.cells f.plain.arr 45)) (b5.trans (((Below.refl _ x5).alloc (Nat.le_refl _) (.cells f.plain.arr 45)).mono b5.size))).2.2.2.size) ?_)
      intro v' w1 o1 g1 _
      simp only [List.getElem_toArray, List.getElem_cons_succ, List.getElem_cons_zero, Act.put, List.setIfInBounds_toArray, List.set_cons_succ, List.set_cons_zero]
      have HX := HF.out (x5.alloc (.cells f.plain.arr 45)) (b5.trans (((Below.refl _ x5).alloc (Nat.le_refl _) (.cells f.plain.arr 45)).mono b5.size)) v' w1 o1 g1
      obtain ⟨ao', cap', rfl⟩ := own_shape5 o1
      refine wpAny_take (i := 9) (v := (.pointer (some ⟨D, 0, none⟩))) rfl (by kernel_rfl) (by kernel_rfl) (by kernel_rfl) (fun _ _ _ h => h) (.inl ⟨rfl, fun _ => by simp [execOp, go_sem, Act.eval]⟩) ?_
      simp only [List.getElem_toArray, List.getElem_cons_succ, List.getElem_cons_zero, Act.put, List.setIfInBounds_toArray, List.set_cons_succ, List.set_cons_zero]
      refine wpAny_take (i := 10) (v := (.pointer (some ⟨D, 4, none⟩))) rfl (by kernel_rfl) (by kernel_rfl) (by kernel_rfl) (fun _ _ _ h => h) (.inl ⟨rfl, fun _ => by simp [execOp, go_sem, Act.eval]⟩) ?_
      simp only [List.getElem_toArray, List.getElem_cons_succ, List.getElem_cons_zero, Act.put, List.setIfInBounds_toArray, List.set_cons_succ, List.set_cons_zero]
      refine wpAny_all (rs := [11]) (by kernel_rfl) (by simp) ?_
      intro k hk
      simp only [List.mem_cons, List.mem_nil_iff, or_false] at hk
      subst hk
      refine wpOp_run rfl rfl (wp_store_cell 37 _ _ rfl D 4 rfl _ rfl (store_frs w1 D 4 _ ao' _ cap' HX.1 HX.2.1) ?_)
      simp only [List.getElem_toArray, List.getElem_cons_succ, List.getElem_cons_zero, Act.put, List.setIfInBounds_toArray, List.set_cons_succ, List.set_cons_zero]
      refine wpAny_done (by kernel_rfl) ?_ _
      have HZ : Hid _ := HX.2.2
      clear HX o1 g1 HF HPl HW
      go_wp2
      go_ret
      exact ⟨rfl, _, _, w1, HZ.out.1, HZ.out.2.1, HZ.out.2.2, rfl⟩
    · refine wpOp_run rfl rfl (wp_call_fn 31 #[.agg f.arr] (by simp [execOp, go_sem, Act.eval, resolve, invoke, enterP]; rfl) ((HPl.out w4).mono ?_))
      rintro e x5 ⟨rfl, b5⟩
      simp only [List.getElem_toArray, List.getElem_cons_succ, List.getElem_cons_zero, Act.put, List.setIfInBounds_toArray, List.set_cons_succ, List.set_cons_zero]
      refine wpAny_all (rs := [4, 7]) (by kernel_rfl) (by simp) ?_
      intro k hk
      simp only [List.mem_cons, List.mem_nil_iff, or_false] at hk
      rcases hk with rfl | rfl
      · refine wpOp_run rfl rfl (wp_load_cell 37 _ rfl D 4 rfl (.slice ac cs.length cc) (load_frs x5 D 4 ac _ _ ((HW.out x5 b5).1.cell rfl)) ?_)
        simp only [List.getElem_toArray, List.getElem_cons_succ, List.getElem_cons_zero, Act.put, List.setIfInBounds_toArray, List.set_cons_succ, List.set_cons_zero]
        refine wpAny_all (rs := [7]) (by kernel_rfl) (by simp) ?_
        intro k hk
        simp only [List.mem_cons, List.mem_nil_iff, or_false] at hk
        subst hk
        refine wpOp_run rfl rfl (wp_buildSlice 37 45 1 _ rfl f.plain.arr i0 _ Try.underlying37 hi0 hz0 (by rw [hz1]; omega) (by rw [hz1]; omega) (by rw [hz1]; simp only [List.map_toArray, List.map_cons, List.map_nil]; exact fill_fr f.plain) ?_)
        simp only [List.getElem_toArray, List.getElem_cons_succ, List.getElem_cons_zero, Act.put, List.setIfInBounds_toArray, List.set_cons_succ, List.set_cons_zero]
        refine wpAny_all (rs := [8]) (by kernel_rfl) (by simp) ?_
        intro k hk
        simp only [List.mem_cons, List.mem_nil_iff, or_false] at hk
        subst hk
        refine wpOp_run rfl rfl (wp_append_own _ _ _ 37 rfl B 45 i0 _ 12 24 Try.underlying37 hi0 hz0 hz1 hz2 rfl (by omega) _ cs.length (flatW DF cs) rfl (HW.out (x5.alloc (.cells f.plain.arr 45)) (b5.trans (((Below.refl _ x5).alloc (Nat.le_refl _) (.cells f.plain.arr 45)).mono b5.size))).2.1 ⟨x5.heap.size, 0, none⟩ 1 1 f.plain.cells rfl (by simp [Fr.cells, f.plain.hdata]) (news_fr x5 f.plain) (DF.one f.plain) (by unfold maxLen; omega) (by omega) (Nat.le_trans hB (HW.out (x5.alloc (.cells f.plain.arr 45)) (b5.trans (((Below.refl _ x5).alloc (Nat.le_refl _) (.cells f.plain.arr 45)).mono b5.size))).2.2.2.size) ?_)
        intro v' w1 o1 g1 _
        simp only [List.getElem_toArray, List.getElem_cons_succ, List.getElem_cons_zero, Act.put, List.setIfInBounds_toArray, List.set_cons_succ, List.set_cons_zero]
        have HX := HF.out (x5.alloc (.cells f.plain.arr 45)) (b5.trans (((Below.refl _ x5).alloc (Nat.le_refl _) (.cells f.plain.arr 45)).mono b5.size)) v' w1 o1 g1
        obtain ⟨ao', cap', rfl⟩ := own_shape5 o1
        refine wpAny_take (i := 9) (v := (.pointer (some ⟨D, 0, none⟩))) rfl (by kernel_rfl) (by kernel_rfl) (by kernel_rfl) (fun _ _ _ h => h) (.inl ⟨rfl, fun _ => by simp [execOp, go_sem, Act.eval]⟩) ?_
        simp only [List.getElem_toArray, List.getElem_cons_succ, List.getElem_cons_zero, Act.put, List.setIfInBounds_toArray, List.set_cons_succ, List.set_cons_zero]
        refine wpAny_take (i := 10) (v := (.pointer (some ⟨D, 4, none⟩))) rfl (by kernel_rfl) (by kernel_rfl) (by kernel_rfl) (fun _ _ _ h => h) (.inl ⟨rfl, fun _ => by simp [execOp, go_sem, Act.eval]⟩) ?_
        simp only [List.getElem_toArray, List.getElem_cons_succ, List.getElem_cons_zero, Act.put, List.setIfInBounds_toArray, List.set_cons_succ, List.set_cons_zero]
        refine wpAny_all (rs := [11]) (by kernel_rfl) (by simp) ?_
        intro k hk
        simp only [List.mem_cons, List.mem_nil_iff, or_false] at hk
        subst hk
        refine wpOp_run rfl rfl (wp_store_cell 37 _ _ rfl D 4 rfl _ rfl (store_frs w1 D 4 _ ao' _ cap' HX.1 HX.2.1) ?_)
        simp only [List.getElem_toArray, List.getElem_cons_succ, List.getElem_cons_zero, Act.put, List.setIfInBounds_toArray, List.set_cons_succ, List.set_cons_zero]
        refine wpAny_done (by kernel_rfl) ?_ _
        have HZ : Hid _ := HX.2.2
        clear HX o1 g1 HF HPl HW
        go_wp2
        go_ret
        exact ⟨rfl, _, _, w1, HZ.out.1, HZ.out.2.1, HZ.out.2.2, rfl⟩
      · refine wpOp_run rfl rfl (wp_buildSlice 37 45 1 _ rfl f.plain.arr i0 _ Try.underlying37 hi0 hz0 (by rw [hz1]; omega) (by rw [hz1]; omega) (by rw [hz1]; simp only [List.map_toArray, List.map_cons, List.map_nil]; exact fill_fr f.plain) ?_)
        simp only [List.getElem_toArray, List.getElem_cons_succ, List.getElem_cons_zero, Act.put, List.setIfInBounds_toArray, List.set_cons_succ, List.set_cons_zero]
        refine wpAny_all (rs := [4]) (by kernel_rfl) (by simp) ?_
        intro k hk
        simp only [List.mem_cons, List.mem_nil_iff, or_false] at hk
        subst hk
        refine wpOp_run rfl rfl (wp_load_cell 37 _ rfl D 4 rfl (.slice ac cs.length cc) (load_frs (x5.alloc (.cells f.plain.arr 45)) D 4 ac _ _ ((HW.out (x5.alloc (.cells f.plain.arr 45)) (b5.trans (((Below.refl _ x5).alloc (Nat.le_refl _) (.cells f.plain.arr 45)).mono b5.size))).1.cell rfl)) ?_)
        simp only [List.getElem_toArray, List.getElem_cons_succ, List.getElem_cons_zero, Act.put, List.setIfInBounds_toArray, List.set_cons_succ, List.set_cons_zero]
        refine wpAny_all (rs := [8]) (by kernel_rfl) (by simp) ?_
        intro k hk
        simp only [List.mem_cons, List.mem_nil_iff, or_false] at hk
        subst hk
        refine wpOp_run rfl rfl (wp_append_own _ _ _ 37 rfl B 45 i0 _ 12 24 Try.underlying37 hi0 hz0 hz1 hz2 rfl (by omega) _ cs.length (flatW DF cs) rfl (HW.out (x5.alloc (.cells f.plain.arr 45)) (b5.trans (((Below.refl _ x5).alloc (Nat.le_refl _) (.cells f.plain.arr 45)).mono b5.size))).2.1 ⟨x5.heap.size, 0, none⟩ 1 1 f.plain.cells rfl (by simp [Fr.cells, f.plain.hdata]) (news_fr x5 f.plain) (DF.one f.plain) (by unfold maxLen; omega) (by omega) (Nat.le_trans hB (HW.out (x5.alloc (.cells f.plain.arr 45)) (b5.trans (((Below.refl _ x5).alloc (Nat.le_refl _) (.cells f.plain.arr 45)).mono b5.size))).2.2.2.size) ?_)
        intro v' w1 o1 g1 _
        simp only [List.getElem_toArray, List.getElem_cons_succ, List.getElem_cons_zero, Act.put, List.setIfInBounds_toArray, List.set_cons_succ, List.set_cons_zero]
        have HX := HF.out (x5.alloc (.cells f.plain.arr 45)) (b5.trans (((Below.refl _ x5).alloc (Nat.le_refl _) (.cells f.plain.arr 45)).mono b5.size)) v' w1 o1 g1
        obtain ⟨ao', cap', rfl⟩ := own_shape5 o1
        refine wpAny_take (i := 9) (v := (.pointer (some ⟨D, 0, none⟩))) rfl (by kernel_rfl) (by kernel_rfl) (by kernel_rfl) (fun _ _ _ h => h) (.inl ⟨rfl, fun _ => by simp [execOp, go_sem, Act.eval]⟩) ?_
        simp only [List.getElem_toArray, List.getElem_cons_succ, List.getElem_cons_zero, Act.put, List.setIfInBounds_toArray, List.set_cons_succ, List.set_cons_zero]
        refine wpAny_take (i := 10) (v := (.pointer (some ⟨D, 4, none⟩))) rfl (by kernel_rfl) (by kernel_rfl) (by kernel_rfl) (fun _ _ _ h => h) (.inl ⟨rfl, fun _ => by simp [execOp, go_sem, Act.eval]⟩) ?_
        simp only [List.getElem_toArray, List.getElem_cons_succ, List.getElem_cons_zero, Act.put, List.setIfInBounds_toArray, List.set_cons_succ, List.set_cons_zero]
        refine wpAny_all (rs := [11]) (by kernel_rfl) (by simp) ?_
        intro k hk
        simp only [List.mem_cons, List.mem_nil_iff, or_false] at hk
        subst hk
        refine wpOp_run rfl rfl (wp_store_cell 37 _ _ rfl D 4 rfl _ rfl (store_frs w1 D 4 _ ao' _ cap' HX.1 HX.2.1) ?_)
        simp only [List.getElem_toArray, List.getElem_cons_succ, List.getElem_cons_zero, Act.put, List.setIfInBounds_toArray, List.set_cons_succ, List.set_cons_zero]
        refine wpAny_done (by kernel_rfl) ?_ _
        have HZ : Hid _ := HX.2.2
        clear HX o1 g1 HF HPl HW
        go_wp2
        go_ret
        exact ⟨rfl, _, _, w1, HZ.out.1, HZ.out.2.1, HZ.out.2.2, rfl⟩
end Go.Proofs.Ytfddoindcmdooaa
namespace Go.Proofs.Ytfddoindcmdooaa
open Go.RowKit Go.Proofs.Bits
set_option linter.unusedVariables false
set_option maxRecDepth 1000000
set_option linter.unusedSimpArgs false

def fr9 : Fr := ⟨9, false, false, 0, [0, 0, 0, 0, 0, 0, 0, 0], by decide, by decide, rfl⟩
def fr5' : Fr := ⟨5, false, false, 0, [0, 0, 0, 0, 0, 0, 0, 0], by decide, by decide, rfl⟩
def fr7 : Fr := ⟨7, false, false, 0, [0, 0, 0, 0, 0, 0, 0, 0], by decide, by decide, rfl⟩
def m9 : Ml := ⟨fr9.plain, fr9.field, 1⟩
def m5 : Ml := ⟨fr5'.plain, fr5'.field, 2⟩
theorem m_less : lessM m5 m9 = true := by decide +kernel
theorem up_two : upF ([m9] ++ [m5]) 1 = [m5, m9] := by
  rw [upF_go (ms := [m9] ++ [m5]) (k := 1) (by omega) (by simp) m_less, upF_zero]
  rfl
theorem Kd.below5 {D B : Nat} {w x : World} (h : Kd D B w x) (hD : B ≤ D) (hB : B ≤ w.heap.size) : Below B w x :=
  ⟨h.os, h.tape, h.output, h.size, fun k hk => h.low k hk (by omega) (by omega)⟩
theorem own_kd {D B B' : Nat} {w x : World} (h : Kd D B w x) {e : TypeId} {c : Nat} {v : Value} {n : Nat} {xs : List Value} (ho : w.ownsRow B' e c v n xs) (he : e ≠ 73) (hd : v.ownBlock ≠ some D) : x.ownsRow B' e c v n xs := by
  obtain ⟨hl, ho⟩ := ho
  refine ⟨hl, ?_⟩
  rcases ho with ho | ⟨g, cap, cur, rfl, hg, hcur, rest⟩
  · exact .inl ho
  · exact .inr ⟨g, cap, cur, rfl, hg, h.typ g _ _ _ he (fun e => hd (by rw [← e]; rfl)) hcur, rest⟩
set_option maxHeartbeats 2000000 in
theorem lives5_any (w : World) : Calls Try.prog 9 #[] w fun e w' => e = .returned (.bool true) ∧ Below w.heap.size w w' := by
  have hN := New_nil 2 2 (by decide) (by decide) (by decide) (by decide) w
  have h9 : Hid (Value.agg #[.int .u32 9, .bool false, .bool false, .int .i64 0, .int .u8 0, .int .u8 0, .int .u8 0, .int .u8 0, .int .u8 0, .int .u8 0, .int .u8 0, .int .u8 0] = fr9.val) := rfl
  have h5 : Hid (Value.agg #[.int .u32 5, .bool false, .bool false, .int .i64 0, .int .u8 0, .int .u8 0, .int .u8 0, .int .u8 0, .int .u8 0, .int .u8 0, .int .u8 0, .int .u8 0] = fr5'.val) := rfl
  have h7 : Hid (Value.agg #[.int .u32 7, .bool false, .bool false, .int .i64 0, .int .u8 0, .int .u8 0, .int .u8 0, .int .u8 0, .int .u8 0, .int .u8 0, .int .u8 0, .int .u8 0] = fr7.val) := rfl
  go_enter Try.func9, Try.ntmps9
  go_wp2_with fail
  refine hN.mono ?_
  rintro e w1 ⟨D, ao, cap, rfl, hD, A1, B1⟩
  have M1 : Mb w1 w.heap.size (.slice none 0 0) [] := World.ownsRow_nil _ _ _ _
  have hS := Send_ok fr9 A1 M1 B1.size (by decide +kernel) (by decide) (by decide) (by decide) (by decide)
  unfold Fr.val at *
  clear hN
  go_wp2_with fail
  refine (show Calls Try.prog 13 #[.pointer (some ⟨D, 0, none⟩), .agg fr9.arr] w1 _ from hS).mono ?_
  rintro e w2 ⟨rfl, v2, A2, M2, K2⟩
  have M2' : Mb w2 w.heap.size v2 [m9] := by
    have : upF ([] ++ [m9]) 0 = [m9] := upF_zero _
    rw [← this]; exact M2
  have B2 := B1.trans (K2.below5 hD B1.size)
  have hS2 := Send_ok fr5' A2 M2' B2.size (by decide +kernel) (by decide) (by decide) (by decide) (by decide)
  unfold Fr.val at *
  clear hS M2
  go_wp2_with fail
  refine (show Calls Try.prog 13 #[.pointer (some ⟨D, 0, none⟩), .agg fr5'.arr] w2 _ from hS2).mono ?_
  rintro e w3 ⟨rfl, v3, A3, M3, K3⟩
  have M3' : Mb w3 w.heap.size v3 [m5, m9] := by
    rw [← up_two]; exact M3
  have B3 := B2.trans (K3.below5 hD B2.size)
  have hNx := Next_some A3 M3' (by simp)
  unfold Fr.val at *
  clear hS2 M3 K2 K3 M2' A1 A2 M1
  go_wp2_with fail
  refine hNx.mono ?_
  rintro e w4 ⟨rfl, b4⟩
  have B4 := B3.trans (b4.mono B3.size)
  have gn := Fa.new w4 Fr.nul
  have g5 := gn.row fr5'.plain
  have bb : Below w4.heap.size w4 ((w4.alloc (.cells Fr.nul.arr 45)).setRow w4.heap.size fr5'.plain.arr) := below_row ((Below.refl _ w4).alloc (Nat.le_refl _) _) (Nat.le_refl _) (by rw [size_alloc]; omega) _
  have B5 := B4.trans (bb.mono B4.size)
  have A5 : Dr D _ ((w4.alloc (.cells Fr.nul.arr 45)).setRow w4.heap.size fr5'.plain.arr) := (bb.block D (Nat.lt_of_lt_of_le (Array.getElem?_eq_some_iff.1 A3).1 b4.size)).trans ((b4.block D (Array.getElem?_eq_some_iff.1 A3).1).trans A3)
  have hT := Take_ok (B := w.heap.size) fr7 A5 (cs := []) (World.ownsRow_nil _ _ _ _) B5.size (by decide +kernel) (by decide) (by decide)
  have c0 : ((w4.alloc (.cells Fr.nul.arr 45)).setRow w4.heap.size fr5'.plain.arr).cell? ⟨w4.heap.size, 0, none⟩ = some (.int .u32 5) := (Lib.cell_of_heap g5 0).trans rfl
  have hm5 : m5.f.arr = fr5'.plain.arr := rfl
  unfold Fr.val at *
  clear hNx b4 M3' A3
  generalize hW5 : (w4.alloc (.cells Fr.nul.arr 45)).setRow w4.heap.size fr5'.plain.arr = w5 at *
  go_upto_region 7 with (refine gn.sd fr5'.plain rfl _ _ rfl rfl rfl ?_)
  clear gn hW5 g5 A5
  go_wp2_with fail
  refine (show Calls Try.prog 18 #[.pointer (some ⟨D, 0, none⟩), .agg fr7.arr] w5 _ from hT).mono ?_
  rintro e w6 ⟨rfl, x, vc', w7, bx, gx, _, rfl⟩
  have B6 : Below w.heap.size w (w7.setCell ⟨D, 4, none⟩ vc') := by
    refine Below.setCell (p := ⟨D, 4, none⟩) ((B5.trans (bx.mono B5.size)).trans ⟨gx.os, gx.tape, gx.output, gx.size, fun k hk => gx.block k ?_ (by simp [Value.ownBlock])⟩) hD _
    have := B5.size; have := bx.size; omega
  clear hT bx gx B5
  go_wp2
  go_ret
  exact ⟨rfl, B6⟩
end Go.Proofs.Ytfddoindcmdooaa
namespace Go.Proofs.Ytfddoindcmdooaa
open Go.RowKit Go.Proofs.Bits
set_option linter.unusedVariables false
set_option maxRecDepth 1000000

/-- A frame whose bytes from n on up to k are 0. -/
def Fr.hole (f : Fr) (n k : Nat) (hk : n ≤ k ∧ k ≤ 8) : Fr := { f with data := f.data.take n ++ List.replicate (k - n) 0 ++ f.data.drop k, hdata := by simp [f.hdata]; omega }
theorem hole_full (f : Fr) (n : Nat) (hn : n ≤ 8) : f.hole n 8 ⟨hn, Nat.le_refl _⟩ = f.cut n hn := by
  simp only [Fr.hole, Fr.cut, Fr.mk.injEq, true_and]
  rw [List.drop_eq_nil_of_le (by rw [f.hdata]; omega), List.append_nil]
theorem hole_none (f : Fr) (n : Nat) (hn : n ≤ 8) : f.hole n n ⟨Nat.le_refl _, hn⟩ = f := by
  obtain ⟨id, ext, rem, len, data, h1, h2, h3⟩ := f
  simp [Fr.hole]
theorem hole_arr (f : Fr) (n k : Nat) (hk : n ≤ k ∧ k ≤ 8) (h8 : k < 8) : (f.hole n k hk).arr.setIfInBounds (4 + k) (.int .u8 0) = (f.hole n (k + 1) ⟨by omega, by omega⟩).arr := by
  obtain ⟨id, ext, rem, len, data, h1, h2, h3⟩ := f
  simp only [Fr.hole, Fr.arr, Fr.cells, List.setIfInBounds_toArray]
  congr 1
  rw [show 4 + k = k + 1 + 1 + 1 + 1 by omega]
  simp only [List.cons_append, List.nil_append, List.set_cons_succ]
  congr 4
  have hd : data.drop k = data[k]'(by omega) :: data.drop (k + 1) := List.drop_eq_getElem_cons (by omega)
  have e0 : (Value.int IntKind.u8 0) = (fun c : UInt8 => Value.int .u8 (c.toNat : Int)) 0 := rfl
  rw [hd, show k + 1 - n = (k - n) + 1 by omega, List.replicate_succ', e0, ← List.map_set]
  congr 1
  rw [List.set_append_right _ _ (by simp; omega)]
  simp [h3]
  rw [show k - (min n 8 + (k - n)) = 0 by omega, hd]
  rfl
theorem Fa.holes {q : Nat} {f : Fr} {w : World} {n k : Nat} {hk : n ≤ k ∧ k ≤ 8} (h : Fa q (f.hole n k hk) w) (h8 : k < 8) : Fa q (f.hole n (k + 1) ⟨by omega, by omega⟩) (w.setCell ⟨q, 4 + k, none⟩ (.int .u8 0)) := by
  unfold Fa
  rw [h.set, hole_arr f n k hk h8]

set_option maxHeartbeats 4000000 in
theorem r2Plain_any (f : Fr) (w : World) :
    Calls Try.prog 16 #[f.val] w fun e w' => e = .returned f.plain.val ∧ Below w.heap.size w w' := by
  have fA : Fa w.heap.size f ((w.alloc (.cells f.arr 45)).alloc (.cells Fr.nul.arr 45)) := (Fa.new w f).alloc _
  have fB : Fa (w.heap.size + 1) Fr.nul ((w.alloc (.cells f.arr 45)).alloc (.cells Fr.nul.arr 45)) := by
    have := Fa.new (w.alloc (.cells f.arr 45)) Fr.nul
    rw [size_alloc] at this
    exact this
  have bA : Below w.heap.size w ((w.alloc (.cells f.arr 45)).alloc (.cells Fr.nul.arr 45)) := ((Below.refl _ _).alloc (Nat.le_refl _) _).alloc (by rw [size_alloc]; omega) _
  have sA : ((w.alloc (.cells f.arr 45)).alloc (.cells Fr.nul.arr 45)).heap.size = w.heap.size + 2 := by rw [size_alloc, size_alloc]
  have hbl := f.bytes_le
  have HP : Hid (∀ h, f.plain = f.cut f.bytes h) := fun _ => rfl
  unfold Fr.val
  go_enter Try.func16, Try.ntmps16
  go_wp2_with (refine fA.ld rfl _ rfl rfl ?_)
  change Calls Try.prog 35 _ ((w.alloc (.cells f.arr 45)).alloc (.cells Fr.nul.arr 45)) _
  generalize ((w.alloc (.cells f.arr 45)).alloc (.cells Fr.nul.arr 45)) = A at *
  refine (r2Bytes_any f _).mono ?_
  rintro e w1 ⟨rfl, b1⟩
  have f1 : Fa w.heap.size f w1 := (b1.block _ (by omega)).trans fA
  have g1 : Fa (w.heap.size + 1) Fr.nul w1 := (b1.block _ (by omega)).trans fB
  have B1 := bA.trans (b1.mono (by omega))
  have s1 := b1.size
  generalize hn : f.bytes = n at *
  generalize hq : w.heap.size = q at *
  clear fA fB bA b1
  go_wp2_with fail
  go_loopw [3] (fun i wr => ∃ (k : Nat) (hk : n ≤ k ∧ k ≤ 8), i = .int .i64 k ∧ Fa q (f.hole n k hk) wr ∧ Fa (q + 1) Fr.nul wr ∧ Below q w wr ∧ q + 1 < wr.heap.size) (fun i _ => 8 - (intOf i).toNat)
  case atStart => exact ⟨n, ⟨Nat.le_refl _, hbl⟩, rfl, by rw [hole_none f n hbl]; exact f1, g1, B1, by omega⟩
  case round =>
    obtain ⟨k, hk, rfl, f2, g2, B2, l2⟩ := hrel
    clear f1 g1 B1
    by_cases hk8 : k < 8
    · have f3 := f2.holes hk8
      have cD : wr.cell? ⟨q, 4 + k, none⟩ = some _ := (Lib.cell_of_heap f2 (4 + k)).trans ((f.hole n k hk).arrD k hk8)
      have zD := f2.frozen (4 + k)
      have g3 := g2.other (p := ⟨q, 4 + k, none⟩) (by simp) (.int .u8 0)
      have B3 := B2.setCell (p := ⟨q, 4 + k, none⟩) (Nat.le_refl q) (.int .u8 0)
      have l3 : q + 1 < (wr.setCell ⟨q, 4 + k, none⟩ (.int .u8 0)).heap.size := g3.lt
      clear f2 g2 B2
      go_wp2
      go_roundw
      case rel => exact ⟨k + 1, ⟨by omega, by omega⟩, by go_num, f3, g3, B3, l3⟩
      case measure => simp [intOf]; omega
    · obtain rfl : k = 8 := by omega
      rw [hole_full f n hbl] at f2
      have D3 := g2.row (f.cut n hbl)
      have B3 := below_row (q := q + 1) B2 (by omega) (by omega) (f.cut n hbl).arr
      go_wp2_with (first | refine f2.ld rfl _ rfl rfl ?_ | refine g2.sd (f.cut n hbl) rfl _ _ rfl rfl rfl ?_)
      refine bodyPost_ret (v := .agg (f.cut n hbl).arr) (results_cell_row rfl _ _ (q + 1) 45 (f.cut n hbl).arr (0, 0) _ rfl D3 Try.underlying45 rfl (by rw [(f.cut n hbl).arr_size]; exact infoF)) rfl ⟨by rw [HP.out hbl], by rw [hq]; exact B3⟩
end Go.Proofs.Ytfddoindcmdooaa
