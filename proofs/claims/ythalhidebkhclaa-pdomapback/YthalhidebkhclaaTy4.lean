/- Contracts: Plain, Encode. -/
import Derived.Test.YthalhidebkhclaaTyRow
namespace Go.Proofs.Ythalhidebkhclaa
open Go.RowKit Go.Proofs.Ty
set_option linter.unusedVariables false
set_option maxRecDepth 1000000

def Vl.setS (v : Vl) : Vl := ⟨v.t, v.n, ⟨#[]⟩, v.ht, v.hn, by decide⟩
def Vl.setN (v : Vl) (n : Nat) (h : n < 18446744073709551616) : Vl := ⟨v.t, n, v.s, v.ht, h, v.hs⟩
def Vl.setB (v : Vl) (s : ByteArray) (h : s.size ≤ maxLen) : Vl := ⟨v.t, v.n, s, v.ht, v.hn, h⟩
theorem Va.setN {q : Nat} {v : Vl} {w : World} (h : Va q v w) (n : Nat) (hn : n < 18446744073709551616) : Va q (v.setN n hn) (w.setCell ⟨q, 1, none⟩ (.int .u64 n)) := by unfold Va; rw [h.set]; rfl
theorem Va.setB {q : Nat} {v : Vl} {w : World} (h : Va q v w) (s : ByteArray) (hs : s.size ≤ maxLen) : Va q (v.setB s hs) (w.setCell ⟨q, 2, none⟩ (.string s)) := by unfold Va; rw [h.set]; rfl
theorem Vl.plain_num {v : Vl} (h : kind v.t = 1 ∨ kind v.t = 2) : v.plain = v.setB ⟨#[]⟩ (by decide) := by
  simp only [Vl.plain, Vl.setB, Vl.mk.injEq, true_and, plN, plS]
  exact ⟨if_neg (by omega), if_pos h⟩
theorem Vl.plain_txt {v : Vl} (h : kind v.t = 3 ∨ kind v.t = 4) : v.plain = v.setN 0 (by decide) := by
  simp only [Vl.plain, Vl.setN, Vl.mk.injEq, true_and, plN, plS]
  exact ⟨if_pos h, if_neg (by omega)⟩
theorem Vl.plain_none {v : Vl} (h : kind v.t = 0) : v.plain = v := by
  obtain ⟨t, n, s, h1, h2, h3⟩ := v
  have h : kind t = 0 := h
  simp only [Vl.plain, Vl.mk.injEq, true_and, plN, plS]
  exact ⟨if_neg (by omega), if_neg (by omega)⟩

set_option maxHeartbeats 1000000 in
theorem Plain_v (v : Vl) (w : World) :
    Calls Try.prog 46 #[.agg v.arr] w fun e w' => e = .returned (.agg v.plain.arr) ∧ Below w.heap.size w w' := by
  have fA : Va w.heap.size v ((w.alloc (.cells v.arr 42)).alloc (.cells Vl.nul.arr 42)) := (Va.new w v).alloc _
  have fB : Va (w.heap.size + 1) Vl.nul ((w.alloc (.cells v.arr 42)).alloc (.cells Vl.nul.arr 42)) := by
    have := Va.new (w.alloc (.cells v.arr 42)) Vl.nul
    rw [size_alloc] at this
    exact this
  have bA : Below w.heap.size w ((w.alloc (.cells v.arr 42)).alloc (.cells Vl.nul.arr 42)) := ((Below.refl _ _).alloc (Nat.le_refl _) _).alloc (by rw [size_alloc]; omega) _
  have sA : ((w.alloc (.cells v.arr 42)).alloc (.cells Vl.nul.arr 42)).heap.size = w.heap.size + 2 := by rw [size_alloc, size_alloc]
  have hK := kindOf_any v.t
  have hk := kind_le v.t
  have H1 := hidOf (@Vl.plain_num v)
  have H3 := hidOf (@Vl.plain_txt v)
  have H0 := hidOf (@Vl.plain_none v)
  obtain ⟨A, hA⟩ : ∃ A, (w.alloc (.cells v.arr 42)).alloc (.cells #[.int .i64 0, .int .u64 0, .string ⟨#[]⟩] 42) = A := ⟨_, rfl⟩
  change Va _ _ ((w.alloc (.cells v.arr 42)).alloc (.cells #[.int .i64 0, .int .u64 0, .string ⟨#[]⟩] 42)) at fA fB
  change Below _ _ ((w.alloc (.cells v.arr 42)).alloc (.cells #[.int .i64 0, .int .u64 0, .string ⟨#[]⟩] 42)) at bA
  rw [hA] at fA fB bA
  clear sA
  have c0 := fA.c0
  have c1 := fA.c1
  have c2 := fA.c2
  have fr := fA.frozen
  have lA := fB.lt
  go_enter Try.func46, Try.ntmps46
  go_wp2_with fail
  generalize kind v.t = K at *
  generalize hq : w.heap.size = q at *
  refine (hK _).mono ?_
  rintro e w1 ⟨rfl, rfl⟩
  have fin : ∀ (u : Vl) (x : World), Va q u x → Va (q + 1) Vl.nul x → Below q w x → Va (q + 1) u (x.setRow (q + 1) u.arr) ∧ Below q w (x.setRow (q + 1) u.arr) := fun u x h1 h2 h3 => ⟨h2.row u, below_row h3 (by omega) (by have := h1.lt; omega) _⟩
  by_cases hn : K = 1 ∨ K = 2
  · have f2 := fA.setB ⟨#[]⟩ (by decide)
    have g2 := fB.other (p := ⟨q, 2, none⟩) (by simp) (.string ⟨#[]⟩)
    have B2 := bA.setCell (p := ⟨q, 2, none⟩) (Nat.le_refl _) (.string ⟨#[]⟩)
    have e1 := hidOf (H1.out hn)
    obtain ⟨D3, B3⟩ := fin _ _ f2 g2 B2
    rcases hn with rfl | rfl
    all_goals
      go_wp2_with (first | refine f2.ld rfl _ rfl rfl ?_ | refine g2.sd (v.setB ⟨#[]⟩ (by decide)) rfl _ _ rfl rfl rfl ?_)
      refine bodyPost_ret (v := .agg (v.setB ⟨#[]⟩ (by decide)).arr) (results_cell_row rfl _ _ (q + 1) 42 _ (0, 0) _ rfl D3 Try.underlying42 rfl infoV) rfl ⟨by rw [e1.out], by rw [hq]; exact B3⟩
  · by_cases h3 : K = 3 ∨ K = 4
    · have f2 := fA.setN 0 (by decide)
      have g2 := fB.other (p := ⟨q, 1, none⟩) (by simp) (.int .u64 ((0 : Nat) : Int))
      have B2 := bA.setCell (p := ⟨q, 1, none⟩) (Nat.le_refl _) (.int .u64 ((0 : Nat) : Int))
      have e1 := hidOf (H3.out h3)
      obtain ⟨D3, B3⟩ := fin _ _ f2 g2 B2
      rcases h3 with rfl | rfl
      all_goals
        go_wp2_with (first | refine f2.ld rfl _ rfl rfl ?_ | refine g2.sd (v.setN 0 (by decide)) rfl _ _ rfl rfl rfl ?_)
        refine bodyPost_ret (v := .agg (v.setN 0 (by decide)).arr) (results_cell_row rfl _ _ (q + 1) 42 _ (0, 0) _ rfl D3 Try.underlying42 rfl infoV) rfl ⟨by rw [e1.out], by rw [hq]; exact B3⟩
    · obtain rfl : K = 0 := by omega
      have e1 := hidOf (H0.out rfl)
      obtain ⟨D3, B3⟩ := fin _ _ fA fB bA
      go_wp2_with (first | refine fA.ld rfl _ rfl rfl ?_ | refine fB.sd v rfl _ _ rfl rfl rfl ?_)
      refine bodyPost_ret (v := .agg v.arr) (results_cell_row rfl _ _ (q + 1) 42 _ (0, 0) _ rfl D3 Try.underlying42 rfl infoV) rfl ⟨by rw [e1.out], by rw [hq]; exact B3⟩
end Go.Proofs.Ythalhidebkhclaa
