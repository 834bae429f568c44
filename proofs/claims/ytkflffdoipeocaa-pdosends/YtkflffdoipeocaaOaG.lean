/- The small living call of layer 15. -/
import Derived.Test.YtkflffdoipeocaaOaF
import Derived.Lib.SlBytesConst
namespace Go.Proofs.Ytkflffdoipeocaa
open Go.RowKit
set_option linter.unusedVariables false
set_option maxRecDepth 1000000
set_option linter.unusedSimpArgs false
theorem own_bytes1 (w : World) (c : UInt8) : Bytes (w.alloc (.cells #[.int .u8 c.toNat] 5 (1, 2))) (.slice (some ⟨w.heap.size, 0, none⟩) 1 1) [c] :=
  ⟨_, 1, rfl, (fun h => by cases h), fun k hk => by
    have : k = 0 := by simp at hk; exact hk
    subst this
    exact ⟨w.heap.size, 0, rfl, by simp, Lib.cell_of_heap (heap_alloc_new w (.cells #[.int .u8 c.toNat] 5 (1, 2))) 0⟩⟩
set_option maxHeartbeats 1000000 in
theorem lives15_any (w : World) : Calls Try.prog 11 #[] w fun e w' => e = .returned (.bool true) ∧ Below w.heap.size w w' := by
  have hP := newS_ok w 254 3 0 rfl
  unfold frmV at hP
  go_enter Try.func11, Try.ntmps11
  go_wp2_with fail
  refine hP.mono ?_
  rintro e w1 ⟨g, rfl, hg, S1, b1⟩
  clear hP
  have hT := newT_ok (P := fun k => k ≠ g) w1 1 rfl
  go_wp2_with fail
  refine hT.mono ?_
  rintro e w2 ⟨rfl, T2, B2⟩
  have S2 := Bc.below S1 B2
  have b2 : Below w.heap.size w w2 := b1.trans (B2.mono b1.size)
  have lg : g < w1.heap.size := Bc.lt S1
  have hq0 := b1.size
  clear hT S1 B2 b1
  generalize w1.heap.size = q at *
  have hS := start_any S2 true
  have l2 := T2.lt
  go_wp2_with fail
  refine hS.mono ?_
  rintro e w3 ⟨rfl, S3, U3⟩
  have T3 := T2.two U3 (by omega) (by omega) (fun k h => h) (fun k h => h)
  have b3 : Below w.heap.size w w3 := b2.trans (U3.below (by have := b2.size; omega) hg hg)
  clear hS S2 T2 U3 b2
  replace S3 : Oa g ⟨254, 3, 0, true, false, 0, false, 0⟩ w3 := S3
  have hS := tstart_any T3 true
  go_wp2_with fail
  refine hS.mono ?_
  rintro e w4 ⟨rfl, T4, U4⟩
  have S4 := Bc.two S3 U4 (by omega) (by omega)
  have b4 : Below w.heap.size w w4 := b3.trans (U4.below (by have := b3.size; omega) hq0 hq0)
  clear hS S3 T3 U4 b3
  replace T4 : Ta q (fun k => k ≠ g) ⟨false, true, none⟩ w4 := T4
  have hS := event_any S4
  rw [show (Os.evO ⟨254, 3, 0, true, false, 0, false, 0⟩) = true from rfl] at hS
  go_wp2_with fail
  refine hS.mono ?_
  rintro e w5 ⟨rfl, S5, U5⟩
  have T5 := T4.two U5 (by omega) (by omega) (fun k h => h) (fun k h => h)
  have b5 : Below w.heap.size w w5 := b4.trans (U5.below (by have := b4.size; omega) hg hg)
  clear hS S4 T4 U5 b4
  replace S5 : Oa g ⟨254, 3, 0, true, false, 0, true, 0⟩ w5 := S5
  have hS := event_any S5
  rw [show (Os.evO ⟨254, 3, 0, true, false, 0, true, 0⟩) = false from rfl] at hS
  go_wp2_with fail
  refine hS.mono ?_
  rintro e w6 ⟨rfl, S6, U6⟩
  have T6 := T5.two U6 (by omega) (by omega) (fun k h => h) (fun k h => h)
  have b6 : Below w.heap.size w w6 := b5.trans (U6.below (by have := b5.size; omega) hg hg)
  clear hS S5 T5 U6 b5
  replace S6 : Oa g ⟨254, 3, 0, true, true, 0, true, 0⟩ w6 := S6
  have hS := tick_any ⟨by rfl, by simp, by simp⟩ S6 (by simp)
  rw [show (Os.tkO ⟨254, 3, 0, true, true, 0, true, 0⟩) = false from rfl] at hS
  go_wp2_with fail
  refine hS.mono ?_
  rintro e w7 ⟨rfl, S7, U7⟩
  have T7 := T6.two U7 (by omega) (by omega) (fun k h => h) (fun k h => h)
  have b7 : Below w.heap.size w w7 := b6.trans (U7.below (by have := b6.size; omega) hg hg)
  clear hS S6 T6 U7 b6
  replace S7 : Oa g ⟨254, 3, 0, true, true, 1, true, 0⟩ w7 := S7
  have hS := tick_any ⟨by rfl, by simp, by simp⟩ S7 (by simp)
  rw [show (Os.tkO ⟨254, 3, 0, true, true, 1, true, 0⟩) = false from rfl] at hS
  go_wp2_with fail
  refine hS.mono ?_
  rintro e w8 ⟨rfl, S8, U8⟩
  have T8 := T7.two U8 (by omega) (by omega) (fun k h => h) (fun k h => h)
  have b8 : Below w.heap.size w w8 := b7.trans (U8.below (by have := b7.size; omega) hg hg)
  clear hS S7 T7 U8 b7
  replace S8 : Oa g ⟨254, 3, 0, true, true, 2, true, 0⟩ w8 := S8
  have hS := tick_any ⟨by rfl, by simp, by simp⟩ S8 (by simp)
  rw [show (Os.tkO ⟨254, 3, 0, true, true, 2, true, 0⟩) = true from rfl] at hS
  go_wp2_with fail
  refine hS.mono ?_
  rintro e w9 ⟨rfl, S9, U9⟩
  have T9 := T8.two U9 (by omega) (by omega) (fun k h => h) (fun k h => h)
  have b9 : Below w.heap.size w w9 := b8.trans (U9.below (by have := b8.size; omega) hg hg)
  clear hS S8 T8 U9 b8
  replace S9 : Oa g ⟨254, 3, 0, true, false, 0, true, 0⟩ w9 := S9
  have hB := own_bytes1 w9 120
  have hcv := Lib.run_convert_bytes_const (P := Try.prog) w9 46 5 #[.int .u8 120] 1 1 Try.underlying46 Try.underlying5
  obtain ⟨W, hW⟩ : ∃ x, w9.alloc (.cells #[.int .u8 120] 5 (1, 2)) = x := ⟨_, rfl⟩
  obtain ⟨WA, hWA⟩ : ∃ x, w9.alloc (.cells #[.int .u8 120] 5) = x := ⟨_, rfl⟩
  replace hB : Bytes (w9.alloc (.cells #[.int .u8 120] 5 (1, 2))) (.slice (some ⟨w9.heap.size, 0, none⟩) 1 1) [120] := hB
  replace hcv : (convert 46 46 (.slice (some ⟨w9.heap.size, 0, none⟩) 1 1)).run Try.prog (w9.alloc (.cells #[.int .u8 120] 5)) = .ok (.slice (some ⟨w9.heap.size, 0, none⟩) 1 1) (w9.alloc (.cells #[.int .u8 120] 5 (1, 2))) := hcv
  have b10 : Below w.heap.size w W := by rw [← hW]; exact b9.alloc (b9.size) _
  have T10 : Ta q (fun k => k ≠ g) ⟨false, true, none⟩ W := by rw [← hW]; exact T9.below ((Below.refl _ _).alloc (Nat.le_refl _) _)
  have hlw : g < W.heap.size := by have := Bc.lt S9; rw [← hW]; simp; omega
  rw [hW] at hB hcv
  rw [hWA] at hcv
  have hK := ttake_any T10 (fun k h => by omega) _ [120] (by simp) hB
  clear hB S9 T9 b9 hW
  go_wp2_with fail
  refine hK.mono ?_
  rintro e w11 ⟨x, m, rfl, r11, rfl, T11, U11⟩
  replace T11 : Ta q (fun k => k ≠ g) ⟨false, true, some [120]⟩ w11 := T11
  have b11 : Below w.heap.size w w11 := b10.trans (U11.below b10.size hq0 hq0)
  clear hK T10 b10 U11 r11
  have hK := tsync_any T11
  go_wp2_with fail
  refine hK.mono ?_
  rintro e w12 ⟨v, l, rfl, hl, r12, _, T12, U12⟩
  have hl : [120] = l := by simpa using hl
  subst hl
  have b12 : Below w.heap.size w w12 := b11.trans (U12.below b11.size hq0 hq0)
  have hX := (bytes_of_own r12).text
  obtain ⟨ao, mm, cap, rfl⟩ : ∃ ao m cap, v = .slice ao m cap := by
    rcases r12.2 with ⟨rfl, _⟩ | ⟨q, cap, cur, rfl, _⟩
    · exact ⟨_, _, _, rfl⟩
    · exact ⟨_, _, _, rfl⟩
  clear hK T11 U12 b11 r12 T12
  go_wp2_with fail
  go_ret
  exact ⟨rfl, b12⟩
end Go.Proofs.Ytkflffdoipeocaa
