/- Contracts of the document's own: Plain, Encode. -/
import Derived.Test.YthalhidebkhclaaTy10
namespace Go.Proofs.Ythalhidebkhclaa
open Go.RowKit Go.Proofs.Ty
set_option linter.unusedVariables false
set_option maxRecDepth 1000000
set_option maxHeartbeats 1000000 in
theorem r7Plain_v (v : Vl) (w : World) :
    Calls Try.prog 30 #[.agg v.arr] w fun e w' => e = .returned (.agg v.plain.arr) ∧ Below w.heap.size w w' := by
  have fA : Va w.heap.size v ((w.alloc (.cells v.arr 42)).alloc (.cells Vl.nul.arr 42)) := (Va.new w v).alloc _
  have fB : Va (w.heap.size + 1) Vl.nul ((w.alloc (.cells v.arr 42)).alloc (.cells Vl.nul.arr 42)) := by
    have := Va.new (w.alloc (.cells v.arr 42)) Vl.nul
    rw [size_alloc] at this
    exact this
  have bA : Below w.heap.size w ((w.alloc (.cells v.arr 42)).alloc (.cells Vl.nul.arr 42)) := ((Below.refl _ _).alloc (Nat.le_refl _) _).alloc (by rw [size_alloc]; omega) _
  have hI := r7Is_any v.t
  have hS := r7Size_any v.t
  have hz := siz_zero v.t
  have hk := kind_le v.t
  have H1 := hidOf (@Vl.plain_num v)
  have H3 := hidOf (@Vl.plain_txt v)
  have H0 := hidOf (@Vl.plain_none v)
  obtain ⟨A, hA⟩ : ∃ A, (w.alloc (.cells v.arr 42)).alloc (.cells #[.int .i64 0, .int .u64 0, .string ⟨#[]⟩] 42) = A := ⟨_, rfl⟩
  change Va _ _ ((w.alloc (.cells v.arr 42)).alloc (.cells #[.int .i64 0, .int .u64 0, .string ⟨#[]⟩] 42)) at fA fB
  change Below _ _ ((w.alloc (.cells v.arr 42)).alloc (.cells #[.int .i64 0, .int .u64 0, .string ⟨#[]⟩] 42)) at bA
  rw [hA] at fA fB bA
  have c0 := fA.c0
  have c1 := fA.c1
  have c2 := fA.c2
  have fr := fA.frozen
  have lA := fB.lt
  have fin : ∀ (u : Vl) (x : World), Va w.heap.size u x → Va (w.heap.size + 1) Vl.nul x → Below w.heap.size w x → Va (w.heap.size + 1) u (x.setRow (w.heap.size + 1) u.arr) ∧ Below w.heap.size w (x.setRow (w.heap.size + 1) u.arr) := fun u x h1 h2 h3 => ⟨h2.row u, below_row h3 (by omega) (by have := h1.lt; omega) _⟩
  go_enter Try.func30, Try.ntmps30
  generalize hq : w.heap.size = q at *
  by_cases hn : 0 < siz v.t
  · have dn : decide ((0 : Int) < (siz v.t : Int)) = true := decide_eq_true (by omega)
    have f2 := fA.setB ⟨#[]⟩ (by decide)
    have g2 := fB.other (p := ⟨q, 2, none⟩) (by simp) (.string ⟨#[]⟩)
    have B2 := bA.setCell (p := ⟨q, 2, none⟩) (Nat.le_refl _) (.string ⟨#[]⟩)
    have e1 := hidOf (H1.out (by omega))
    obtain ⟨D3, B3⟩ := fin _ _ f2 g2 B2
    go_wp2_with (first | (go_at_call 24; refine (hS _).mono ?_; rintro e w2 ⟨rfl, rfl⟩) | refine f2.ld rfl _ rfl rfl ?_ | refine g2.sd (v.setB ⟨#[]⟩ (by decide)) rfl _ _ rfl rfl rfl ?_)
    refine bodyPost_ret (v := .agg (v.setB ⟨#[]⟩ (by decide)).arr) (results_cell_row rfl _ _ (q + 1) 42 _ (0, 0) _ rfl D3 Try.underlying42 rfl infoV) rfl ⟨by rw [e1.out], by first | exact B3 | (rw [hq]; exact B3)⟩
  · have dn : decide ((0 : Int) < (siz v.t : Int)) = false := decide_eq_false (by omega)
    by_cases h0 : kind v.t = 0
    · have dk : (kind v.t != 0) = false := by simp [h0]
      rw [dk] at hI
      have e1 := hidOf (H0.out h0)
      obtain ⟨D3, B3⟩ := fin _ _ fA fB bA
      go_wp2_with (first | (go_at_call 24; refine (hS _).mono ?_; rintro e w2 ⟨rfl, rfl⟩) | (go_at_call 50; refine (hI _).mono ?_; rintro e w2 ⟨rfl, rfl⟩) | refine fA.ld rfl _ rfl rfl ?_ | refine fB.sd v rfl _ _ rfl rfl rfl ?_)
      refine bodyPost_ret (v := .agg v.arr) (results_cell_row rfl _ _ (q + 1) 42 _ (0, 0) _ rfl D3 Try.underlying42 rfl infoV) rfl ⟨by rw [e1.out], by first | exact B3 | (rw [hq]; exact B3)⟩
    · have dk : (kind v.t != 0) = true := by simp [h0]
      rw [dk] at hI
      have f2 := fA.setN 0 (by decide)
      have g2 := fB.other (p := ⟨q, 1, none⟩) (by simp) (.int .u64 ((0 : Nat) : Int))
      have B2 := bA.setCell (p := ⟨q, 1, none⟩) (Nat.le_refl _) (.int .u64 ((0 : Nat) : Int))
      have e1 := hidOf (H3.out (by omega))
      obtain ⟨D3, B3⟩ := fin _ _ f2 g2 B2
      go_wp2_with (first | (go_at_call 24; refine (hS _).mono ?_; rintro e w2 ⟨rfl, rfl⟩) | (go_at_call 50; refine (hI _).mono ?_; rintro e w2 ⟨rfl, rfl⟩) | refine f2.ld rfl _ rfl rfl ?_ | refine g2.sd (v.setN 0 (by decide)) rfl _ _ rfl rfl rfl ?_)
      refine bodyPost_ret (v := .agg (v.setN 0 (by decide)).arr) (results_cell_row rfl _ _ (q + 1) 42 _ (0, 0) _ rfl D3 Try.underlying42 rfl infoV) rfl ⟨by rw [e1.out], by first | exact B3 | (rw [hq]; exact B3)⟩
end Go.Proofs.Ythalhidebkhclaa
