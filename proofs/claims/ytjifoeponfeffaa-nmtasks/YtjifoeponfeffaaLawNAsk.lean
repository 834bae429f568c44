/- The law NmtAsks returns true whatever is asked. -/
import Derived.Test.YtjifoeponfeffaaNnE
import Derived.Test.YtjifoeponfeffaaLtX
import Derived.Test.YtjifoeponfeffaaNnOp
namespace Go.Proofs.Ytjifoeponfeffaa
open Go.RowKit
set_option linter.unusedVariables false
set_option maxRecDepth 1000000
set_option linter.unusedSimpArgs false
set_option maxHeartbeats 1000000 in
theorem nask_bad (a : Q17) (w : World) (h : (isC a.cmd && isN a.node) = false) : Calls Try.prog 4 #[.agg a.arr] w fun r w' => r = .returned (.bool true) ∧ Below w.heap.size w w' := by
  obtain ⟨st, wh, c, n, hst, hwh, hcb, hnb⟩ := a
  simp only at h
  unfold Q17.arr
  simp only
  have hC := fun x => cmd_bad x c n h
  have hI := fun x => is_any x c
  have hA : ∀ x, Calls Try.prog 21 #[.int .i64 st, .int .i64 wh] x fun e w' => e = .returned (.bool (may st wh)) ∧ w' = x := fun x => allows_any x st wh
  have hD : ∀ x, Calls Try.prog 22 #[.int .i64 st, .int .i64 wh] x fun e w' => e = .returned (.bool (may st wh)) ∧ w' = x := fun x => dallows_any x st wh
  have hL := fun x => lives17_any x
  generalize may st wh = m at *
  obtain ⟨X, hX⟩ : ∃ x, w.alloc (.cells #[.int .i64 st, .int .i64 wh, .int .i64 c, .int .i64 n] 43) = x := ⟨_, rfl⟩
  have BX : Below w.heap.size w X := by rw [← hX]; exact (Below.refl _ _).alloc (Nat.le_refl _) _
  obtain ⟨p, hp⟩ : ∃ p, w.heap.size = p := ⟨_, rfl⟩
  have FX : Bc 43 p #[.int .i64 st, .int .i64 wh, .int .i64 c, .int .i64 n] X := by rw [← hX, ← hp]; exact heap_alloc_new w _
  have x0 : X.cell? ⟨p, 0, none⟩ = some (.int .i64 st) := Bc.cell FX 0
  have x1 : X.cell? ⟨p, 1, none⟩ = some (.int .i64 wh) := Bc.cell FX 1
  have x2 : X.cell? ⟨p, 2, none⟩ = some (.int .i64 c) := Bc.cell FX 2
  have x3 : X.cell? ⟨p, 3, none⟩ = some (.int .i64 n) := Bc.cell FX 3
  have k0 : ∀ y : Later X, y.now.cell? ⟨p, 0, none⟩ = some (.int .i64 st) := fun y => (y.below.cell (p := ⟨p, 0, none⟩) (Bc.lt FX)).trans x0
  have k1 : ∀ y : Later X, y.now.cell? ⟨p, 1, none⟩ = some (.int .i64 wh) := fun y => (y.below.cell (p := ⟨p, 1, none⟩) (Bc.lt FX)).trans x1
  rw [hp] at BX ⊢
  have hcase : isC c = false ∨ (isC c = true ∧ (n < 0 ∨ 127 < n)) := by
    cases hc : isC c
    · exact .inl rfl
    · refine .inr ⟨rfl, ?_⟩
      simp [hc, isN] at h
      omega
  clear h FX
  have hLs := Later.some X
  have HB : Hid (Below p w X) := BX
  clear BX
  go_enter Try.func4, Try.ntmps4
  go_upto_region 1 with fail
  clear hX
  rcases hcase with hc | ⟨hc, hn | hn⟩
  · rw [hc] at hI
    clear hc
    go_upto_region 3 with (first | (go_at_call 19; refine (hC _).mono ?_; rintro r w1 ⟨rfl, hw⟩; rw [hw]) | (go_at_call 20; refine (hI _).mono ?_; rintro r w1 ⟨rfl, hw⟩; rw [hw]))
    refine wp_region_later (by kernel_rfl) (by kernel_rfl) ?_
    repeat (go_big_quiet_step (first | (go_at_call 21; with_reducible exact laterS (hA _)) | (go_at_call 22; with_reducible exact laterS (hD _)) | (go_at_call 9; with_reducible exact later (hL _))))
    refine wpQuiet_nil ?_
    rintro _ ⟨y, rfl⟩
    go_wp2
    go_ret
    exact ⟨rfl, HB.out.trans (y.below.mono (by have := HB.out.size; omega))⟩
  · rw [hc] at hI
    have d1 : decide (n < 0) = true := by simp [hn]
    clear hc hn
    go_upto_region 3 with (first | (go_at_call 19; refine (hC _).mono ?_; rintro r w1 ⟨rfl, hw⟩; rw [hw]) | (go_at_call 20; refine (hI _).mono ?_; rintro r w1 ⟨rfl, hw⟩; rw [hw]))
    refine wp_region_later (by kernel_rfl) (by kernel_rfl) ?_
    repeat (go_big_quiet_step (first | (go_at_call 21; with_reducible exact laterS (hA _)) | (go_at_call 22; with_reducible exact laterS (hD _)) | (go_at_call 9; with_reducible exact later (hL _))))
    refine wpQuiet_nil ?_
    rintro _ ⟨y, rfl⟩
    go_wp2
    go_ret
    exact ⟨rfl, HB.out.trans (y.below.mono (by have := HB.out.size; omega))⟩
  · rw [hc] at hI
    have d1 : decide (n < 0) = false := by simp; omega
    have d2 : decide (127 < n) = true := by simp [hn]
    clear hc hn
    go_upto_region 3 with (first | (go_at_call 19; refine (hC _).mono ?_; rintro r w1 ⟨rfl, hw⟩; rw [hw]) | (go_at_call 20; refine (hI _).mono ?_; rintro r w1 ⟨rfl, hw⟩; rw [hw]))
    refine wp_region_later (by kernel_rfl) (by kernel_rfl) ?_
    repeat (go_big_quiet_step (first | (go_at_call 21; with_reducible exact laterS (hA _)) | (go_at_call 22; with_reducible exact laterS (hD _)) | (go_at_call 9; with_reducible exact later (hL _))))
    refine wpQuiet_nil ?_
    rintro _ ⟨y, rfl⟩
    go_wp2
    go_ret
    exact ⟨rfl, HB.out.trans (y.below.mono (by have := HB.out.size; omega))⟩
end Go.Proofs.Ytjifoeponfeffaa
