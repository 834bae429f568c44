/- The document's slave begins anew; a new one. -/
import Derived.Test.YthbmbabndhpdkaaLsK
namespace Go.Proofs.Ythbmbabndhpdkaa
open Go.RowKit
set_option linter.unusedVariables false
set_option maxRecDepth 1000000
set_option linter.unusedSimpArgs false
section
variable {g : Nat} {s : Ld} {w x : World}
set_option maxHeartbeats 4000000 in
theorem dre_any (h : Da g s w) : Calls Try.prog 23 #[.pointer (some ⟨g, 0, none⟩)] w fun e w' => e = .returned (.tuple #[]) ∧ Da g s.re w' ∧ Two g g w w' := by
  obtain ⟨_, _, _, _, c4, c5, c6, c7, c8, c9, c10, c11, c12, c13, c14, hf⟩ := h.cells
  have f4 := hf 4
  have f5 := hf 5
  have f6 := hf 6
  have f7 := hf 7
  have f12 := hf 12
  have f13 := hf 13
  have f14 := hf 14
  have S3 : Da g { s with mode := 0, tk := 0, lk := 0 } (((w.setCell ⟨g, 12, none⟩ (.int .i64 0)).setCell ⟨g, 13, none⟩ (.int .i64 0)).setCell ⟨g, 14, none⟩ (.int .i64 0)) :=
    Da.set (s := { s with mode := 0, tk := 0 }) (s' := { s with mode := 0, tk := 0, lk := 0 }) (Da.set (s := { s with mode := 0 }) (s' := { s with mode := 0, tk := 0 }) (Da.set h rfl) rfl) rfl
  have T3 : Two g g w (((w.setCell ⟨g, 12, none⟩ (.int .i64 0)).setCell ⟨g, 13, none⟩ (.int .i64 0)).setCell ⟨g, 14, none⟩ (.int .i64 0)) := (((Two.refl _ _ _).at0 _ _).at0 _ _).at0 _ _
  cases hh : s.has
  · have E : s.re = { s with mode := 0, tk := 0, lk := 0, iu := s.ip } := by unfold Ld.re; rw [if_neg (by simp [hh])]
    have H : Hid (Da g { s with mode := 0, tk := 0, lk := 0, iu := s.ip } ((((w.setCell ⟨g, 12, none⟩ (.int .i64 0)).setCell ⟨g, 13, none⟩ (.int .i64 0)).setCell ⟨g, 14, none⟩ (.int .i64 0)).setCell ⟨g, 6, none⟩ (.int .i64 s.ip))) :=
      Da.set (s := { s with mode := 0, tk := 0, lk := 0 }) (s' := { s with mode := 0, tk := 0, lk := 0, iu := s.ip }) S3 rfl
    have HT := hidOf2 (T3.at0 6 (.int .i64 s.ip))
    rw [hh] at c10
    rw [E]
    clear h hf E S3 T3 hh
    go_enter Try.func23, Try.ntmps23
    go_wp2
    go_end0
    exact ⟨rfl, H.out, HT.out⟩
  · have E : s.re = { s with mode := 0, tk := 0, lk := 0, ip := s.si, rp := s.sr, ru := s.sr, iu := s.si } := by unfold Ld.re; rw [if_pos hh]
    rw [hh] at c10
    rw [E]
    have HS3 := hidOf2 S3
    have HT3 := hidOf2 T3
    clear h hf E S3 T3 hh
    go_enter Try.func23, Try.ntmps23
    go_wp2_with fail
    go_region
    all_goals
      go_wp2_with fail
      go_end0
      refine ⟨rfl, Da.drawn ?_ 1, Two.drawn ?_ 1⟩
      · exact Da.set (s := { s with mode := 0, tk := 0, lk := 0, ip := s.si, rp := s.sr, ru := s.sr }) (s' := { s with mode := 0, tk := 0, lk := 0, ip := s.si, rp := s.sr, ru := s.sr, iu := s.si }) (Da.set (s := { s with mode := 0, tk := 0, lk := 0, ip := s.si, rp := s.sr }) (s' := { s with mode := 0, tk := 0, lk := 0, ip := s.si, rp := s.sr, ru := s.sr }) (Da.set (s := { s with mode := 0, tk := 0, lk := 0, ip := s.si }) (s' := { s with mode := 0, tk := 0, lk := 0, ip := s.si, rp := s.sr }) (Da.set (s := { s with mode := 0, tk := 0, lk := 0 }) (s' := { s with mode := 0, tk := 0, lk := 0, ip := s.si }) HS3.out rfl) rfl) rfl) rfl
      · exact (((HT3.out.at0 _ _).at0 _ _).at0 _ _).at0 _ _
theorem dnew_ok (a : A4) (id : Int) (h : 0 ≤ id ∧ id ≤ 127) (w : World) : Calls Try.prog 9 #[.agg a.arr, .int .i64 id] w fun e w' => e = .returned (.tuple #[.pointer (some ⟨w.heap.size + 1, 0, none⟩), .int .i64 0]) ∧ Da (w.heap.size + 1) (Ld.new a id) w' ∧ Below w.heap.size w w' := by
  have b0 : Below w.heap.size w (w.alloc (.cells a.arr 23)) := (Below.refl _ _).alloc (Nat.le_refl _) _
  have hb : Bc 23 w.heap.size a.arr (w.alloc (.cells a.arr 23)) := heap_alloc_new w _
  have hz : (w.alloc (.cells a.arr 23)).heap.size = w.heap.size + 1 := by simp
  obtain ⟨W, hW⟩ : ∃ W, w.alloc (.cells a.arr 23) = W := ⟨_, rfl⟩
  rw [hW] at b0 hb hz
  have v0 : W.cell? ⟨w.heap.size, 0, none⟩ = some (.int .u32 (a.x0 : Int)) := Bc.cell hb 0
  have v1 : W.cell? ⟨w.heap.size, 1, none⟩ = some (.int .u32 (a.x1 : Int)) := Bc.cell hb 1
  have v2 : W.cell? ⟨w.heap.size, 2, none⟩ = some (.int .u32 (a.x2 : Int)) := Bc.cell hb 2
  have v3 : W.cell? ⟨w.heap.size, 3, none⟩ = some (.int .u32 (a.x3 : Int)) := Bc.cell hb 3
  have hN : Hid (Da (w.heap.size + 1) (Ld.new a id) (W.alloc (.cells (Ld.new a id).arr 51)) ∧ Below w.heap.size w (W.alloc (.cells (Ld.new a id).arr 51))) := by
    refine ⟨?_, b0.alloc b0.size _⟩
    have := heap_alloc_new W (.cells (Ld.new a id).arr 51)
    rw [hz] at this
    exact this
  have d1 : decide (id < 0) = false := by simp; omega
  have d2 : decide (127 < id) = false := by simp; omega
  clear b0 hb h
  go_enter Try.func9, Try.ntmps9
  go_wp2
  go_ret2
  exact ⟨rfl, hN.out.1, hN.out.2⟩
theorem dnew_bad (a : A4) (id : Int) (h : ¬ (0 ≤ id ∧ id ≤ 127)) (w : World) : Calls Try.prog 9 #[.agg a.arr, .int .i64 id] w fun e w' => e = .returned (.tuple #[.pointer none, .int .i64 1]) ∧ Below w.heap.size w w' := by
  have b0 : Below w.heap.size w (w.alloc (.cells a.arr 23)) := (Below.refl _ _).alloc (Nat.le_refl _) _
  have d1 : decide (id < 0) = true ∨ decide (id < 0) = false ∧ decide (127 < id) = true := by simp; omega
  clear h
  rcases d1 with d1 | ⟨d1, d2⟩
  all_goals
    go_enter Try.func9, Try.ntmps9
    go_wp2
    go_ret2
    exact ⟨rfl, b0⟩
end
end Go.Proofs.Ythbmbabndhpdkaa
