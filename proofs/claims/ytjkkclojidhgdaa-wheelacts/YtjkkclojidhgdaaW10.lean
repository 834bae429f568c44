/- hop of a wheel. -/
import Derived.Test.YtjkkclojidhgdaaW9
namespace Go.Proofs.Ytjkkclojidhgdaa
open Go.RowKit Go.Maps Go.WideMaps
set_option linter.unusedVariables false
set_option maxRecDepth 1000000
set_option linter.unusedSimpArgs false
/-- Where a wheel hops to. -/
def hopN (now E n : Nat) (ts : List Tm) : Nat := if E - now ≤ n then now else match ts with | [] => E | _ :: _ => now + min (E - now) (nextF now ts - 1)
section
variable {g now given n : Nat} {ts ls : List Tm} {bt S : Nat} {sm : Nat → Option Nat} {w : World}
set_option maxHeartbeats 1000000 in
theorem hop_near (h : Wh g now given n ts ls bt S sm w) (E : Nat) (h1 : now ≤ E) (h2 : E < 4611686018427387904) (hn : E - now ≤ n) :
    Calls Try.prog 28 #[.pointer (some ⟨g, 0, none⟩), .int .u64 E] w fun e w' => e = .returned (.tuple #[]) ∧ w' = w := by
  obtain ⟨c0, c1, c2, c3⟩ := h.c
  have n1 := h.n1
  have hs : (E : Int) - (now : Int) = ((E - now : Nat) : Int) := by omega
  have hb : E - now < 4611686018427387904 := by omega
  generalize E - now = q at *
  clear h
  go_enter Try.func28, Try.ntmps28
  go_wp2
  · exact bodyPost_ret (v := .tuple #[]) (by simp [results, Try.results28]) rfl ⟨rfl, rfl⟩
set_option maxHeartbeats 2000000 in
theorem hop_far (h : Wh g now given n [] ls bt S sm w) (E : Nat) (h1 : now ≤ E) (h2 : E < 4611686018427387904) (hn : ¬ E - now ≤ n) :
    Calls Try.prog 28 #[.pointer (some ⟨g, 0, none⟩), .int .u64 E] w fun e w' => e = .returned (.tuple #[]) ∧ Wh g E given n [] ls bt S sm w' ∧ Kw (fun k => k = g) w w' := by
  obtain ⟨c0, c1, c2, c3⟩ := h.c
  have n1 := h.n1
  have hN := Next_none h
  have hs : (E : Int) - (now : Int) = ((E - now : Nat) : Int) := by omega
  have hb : E - now < 4611686018427387904 := by omega
  have hsum : (now : Int) + ((E - now : Nat) : Int) = (E : Int) := by omega
  have f0 : w.frozen? ⟨g, 0, none⟩ = false := Lib.frozen_of_heap h.head _
  have hX := h.setHead 0 (.int .u64 E) E given rfl h.g1 h2 (Nat.le_refl _)
  have HX : Hid (Wh g E given n [] ls bt S sm (w.setCell ⟨g, 0, none⟩ (.int .u64 E)) ∧ Kw (fun k => k = g) w (w.setCell ⟨g, 0, none⟩ (.int .u64 E))) := hX
  generalize E - now = q at *
  clear h hX
  go_enter Try.func28, Try.ntmps28
  go_wp2_with fail
  refine hN.mono ?_
  rintro e w1 ⟨rfl, rfl⟩
  clear hN
  go_wp2
  go_end0
  exact ⟨rfl, HX.out⟩
set_option maxHeartbeats 2000000 in
theorem hop_some (h : Wh g now given n ts ls bt S sm w) (hne : ts ≠ []) (hl : ts.length < 4611686018427387904) (hd : ∀ t ∈ ts, now < t.due ∧ t.due < 18446744073709551616) (E : Nat) (h1 : now ≤ E) (h2 : E < 4611686018427387904) (hn : ¬ E - now ≤ n) :
    Calls Try.prog 28 #[.pointer (some ⟨g, 0, none⟩), .int .u64 E] w fun e w' => e = .returned (.tuple #[]) ∧ Wh g (now + min (E - now) (nextF now ts - 1)) given n ts ls bt S sm w' ∧ Kw (fun k => k = g) w w' := by
  obtain ⟨c0, c1, c2, c3⟩ := h.c
  have n1 := h.n1
  have hN := Next_some h hne hl (fun t ht => ⟨Nat.le_of_lt (hd t ht).1, (hd t ht).2⟩)
  have hx1 : 1 ≤ nextF now ts ∧ nextF now ts ≤ 4294967296 := by
    obtain ⟨a1, a2, a3⟩ := fold_le now ts 4294967296
    refine ⟨?_, a1⟩
    rcases a3 with a3 | ⟨t, ht, a3⟩
    · unfold nextF; omega
    · have := (hd t ht).1; unfold nextF; omega
  obtain ⟨NX, hNX⟩ : ∃ x, nextF now ts = x := ⟨_, rfl⟩
  rw [hNX] at hN hx1 ⊢
  have hs : (E : Int) - (now : Int) = ((E - now : Nat) : Int) := by omega
  have hs2 : (NX : Int) - 1 = ((NX - 1 : Nat) : Int) := by omega
  have hb : E - now < 4611686018427387904 := by omega
  have hb2 : NX - 1 < 4611686018427387904 := by omega
  have hmi : (if NX - 1 < E - now then ((NX - 1 : Nat) : Int) else ((E - now : Nat) : Int)) = ((min (E - now) (NX - 1) : Nat) : Int) := by split <;> omega
  have hsum : (now : Int) + ((min (E - now) (NX - 1) : Nat) : Int) = ((now + min (E - now) (NX - 1) : Nat) : Int) := by omega
  have hb3 : now + min (E - now) (NX - 1) < 4611686018427387904 := by omega
  generalize min (E - now) (NX - 1) = mi at *
  generalize E - now = q at *
  generalize NX - 1 = NY at *
  generalize hNw : now + mi = nw at *
  have HW : Hid (Wh g now given n ts ls bt S sm w) := h
  clear h hNX hd
  go_enter Try.func28, Try.ntmps28
  go_wp2_with fail
  refine hN.mono ?_
  rintro e w1 ⟨rfl, hB⟩
  have hW1 := HW.out.below hB
  clear c0 c1 c2 c3
  obtain ⟨c0, c1, c2, c3⟩ := hW1.c
  have f0 : w1.frozen? ⟨g, 0, none⟩ = false := Lib.frozen_of_heap hW1.head _
  have hX := hW1.setHead 0 (.int .u64 nw) nw given rfl hW1.g1 hb3 (Nat.le_refl _)
  have HX : Hid (Wh g nw given n ts ls bt S sm (w1.setCell ⟨g, 0, none⟩ (.int .u64 nw)) ∧ Kw (fun k => k = g) w (w1.setCell ⟨g, 0, none⟩ (.int .u64 nw))) := ⟨hX.1, (Kw.below hB).trans hX.2⟩
  clear hN hW1 hX HW hB
  go_wp2
  go_end0
  exact ⟨rfl, HX.out⟩
theorem hop_any (h : Wh g now given n ts ls bt S sm w) (hl : ts.length < 4611686018427387904) (hd : ∀ t ∈ ts, now < t.due ∧ t.due < 18446744073709551616) (E : Nat) (h1 : now ≤ E) (h2 : E < 4611686018427387904) :
    Calls Try.prog 28 #[.pointer (some ⟨g, 0, none⟩), .int .u64 E] w fun e w' => e = .returned (.tuple #[]) ∧ Wh g (hopN now E n ts) given n ts ls bt S sm w' ∧ Kw (fun k => k = g) w w' := by
  unfold hopN
  by_cases hn : E - now ≤ n
  · rw [if_pos hn]
    refine (hop_near h E h1 h2 hn).mono ?_
    rintro e w' ⟨rfl, rfl⟩
    exact ⟨rfl, h, rfl, rfl, rfl, Nat.le_refl _, fun _ _ _ => rfl⟩
  · rw [if_neg hn]
    cases ts with
    | nil => exact hop_far h E h1 h2 hn
    | cons y r => exact hop_some h (by simp) hl hd E h1 h2 hn
end
end Go.Proofs.Ytjkkclojidhgdaa
