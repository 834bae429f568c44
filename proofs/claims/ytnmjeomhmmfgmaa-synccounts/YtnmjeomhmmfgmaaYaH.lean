/- Two rows of numbers held against one another; the small living call. -/
import Derived.Test.YtnmjeomhmmfgmaaYaF
namespace Go.Proofs.Ytnmjeomhmmfgmaa
open Go.RowKit
set_option linter.unusedVariables false
set_option maxRecDepth 1000000
set_option linter.unusedSimpArgs false
theorem row_shape {w : World} {B : Nat} {e : TypeId} {c m : Nat} {v : Value} {xs : List Value} (h : w.ownsRow B e c v m xs) : ∃ ao cap, v = .slice ao m cap := by
  rcases h.2 with ⟨rfl, rfl⟩ | ⟨q, cap, cur, rfl, _⟩
  · exact ⟨none, 0, rfl⟩
  · exact ⟨_, cap, rfl⟩
theorem below_drawn {B : Nat} {w w' : World} (h : Below B w w') (m : Nat) : Below B w (w'.drewN m) := ⟨h.os, h.tape, h.output, h.size, h.block⟩
theorem row_three (w : World) (x y z : Int) : (w.alloc (.cells #[.int .i64 x, .int .i64 y, .int .i64 z] 3)).ownsRow w.heap.size 3 1 (.slice (some ⟨w.heap.size, 0, none⟩) 3 3) 3 ([x, y, z].map (Value.int .i64)) :=
  ⟨rfl, .inr ⟨w.heap.size, 3, _, rfl, Nat.le_refl _, heap_alloc_new w _, Nat.le_refl _, by unfold maxLen; omega, rfl, rfl⟩⟩
theorem row_cell {w : World} {B : Nat} {q cap : Nat} {zs : List Int} (h : w.ownsRow B 3 1 (.slice (some ⟨q, 0, none⟩) zs.length cap) zs.length (zs.map (Value.int .i64))) {k : Nat} (hk : k < zs.length) : w.cell? ⟨q, k, none⟩ = some (.int .i64 zs[k]) := by
  have := h.cells (g := q) rfl k (.int .i64 zs[k]) (by simp [hk])
  have e9 : (⟨q, 0, none⟩ : Addr).add k = ⟨q, k, none⟩ := by
    cases k with
    | zero => rfl
    | succ j => simp [Addr.add]
  rw [e9] at this
  exact this
theorem same_len {w : World} {a1 a2 : Option Addr} {m1 m2 c1 c2 : Nat} (h : m1 ≠ m2) : Calls Try.prog 11 #[.slice a1 m1 c1, .slice a2 m2 c2] w fun e w' => e = .returned (.bool false) ∧ w' = w := by
  have h2 : ((m1 : Int) != (m2 : Int)) = true := by simp; omega
  go_enter Try.func11, Try.ntmps11
  go_wp2
  go_ret
  exact ⟨rfl, rfl⟩
set_option maxHeartbeats 1000000 in
theorem same_row {w : World} {B1 B2 : Nat} {v1 v2 : Value} {zs ys : List Int} (r1 : w.ownsRow B1 3 1 v1 zs.length (zs.map (Value.int .i64))) (r2 : w.ownsRow B2 3 1 v2 ys.length (ys.map (Value.int .i64))) (hl : zs.length = ys.length) (hb : zs.length < 4611686018427387904) :
    Calls Try.prog 11 #[v1, v2] w fun e w' => e = .returned (.bool (decide (zs = ys))) ∧ Below w.heap.size w w' := by
  obtain ⟨a1, c1, rfl⟩ := row_shape r1
  obtain ⟨a2, c2, rfl⟩ := row_shape r2
  obtain ⟨m, hm⟩ : ∃ m, zs.length = m := ⟨_, rfl⟩
  have hm2 : ys.length = m := hl.symm.trans hm
  have R1 : Hid (∀ k (h : k < zs.length), ∃ q, a1 = some ⟨q, 0, none⟩ ∧ w.cell? ⟨q, k, none⟩ = some (.int .i64 zs[k])) := fun k h => by
    rcases r1.2 with ⟨e, e2⟩ | ⟨q, cap', cur, e, _⟩
    · omega
    · injection e with e3 e4 e5
      subst e3
      exact ⟨q, rfl, row_cell r1 h⟩
  have R2 : Hid (∀ k (h : k < ys.length), ∃ q, a2 = some ⟨q, 0, none⟩ ∧ w.cell? ⟨q, k, none⟩ = some (.int .i64 ys[k])) := fun k h => by
    rcases r2.2 with ⟨e, e2⟩ | ⟨q, cap', cur, e, _⟩
    · omega
    · injection e with e3 e4 e5
      subst e3
      exact ⟨q, rfl, row_cell r2 h⟩
  have HM : Hid (zs.length = m ∧ ys.length = m) := ⟨hm, hm2⟩
  rw [hm, hm2]
  clear r1 r2 hl
  rw [hm] at hb
  clear hm hm2
  go_enter Try.func11, Try.ntmps11
  go_wp2_with fail
  go_loopw [5] (fun kv wk => ∃ k : Nat, k ≤ m ∧ kv = .int .i64 k ∧ zs.take k = ys.take k ∧ Below w.heap.size w wk ∧ ∀ a, wk.cell? a = w.cell? a) (fun kv _ => (m - intOf kv).toNat)
  case atStart => exact ⟨0, Nat.zero_le _, rfl, rfl, Below.refl _ _, fun _ => rfl⟩
  case round =>
    obtain ⟨k, hkm, rfl, hk, hBw, hcw⟩ := hrel
    by_cases h1 : k < m
    · obtain ⟨q1, rfl, e1⟩ := R1.out k (by have := HM.out.1; omega)
      obtain ⟨q2, rfl, e2⟩ := R2.out k (by have := HM.out.2; omega)
      rw [← hcw] at e1 e2
      have hki : (k : Int) + 1 = ((k + 1 : Nat) : Int) := by omega
      have hcb : k + 1 < 4611686018427387905 := by omega
      have HB : Hid (Below w.heap.size w wr ∧ (∀ a, wr.cell? a = w.cell? a) ∧ zs.take k = ys.take k) := ⟨hBw, hcw, hk⟩
      obtain ⟨z, hz⟩ : ∃ z, zs[k]'(by have := HM.out.1; omega) = z := ⟨_, rfl⟩
      obtain ⟨y, hy⟩ : ∃ y, ys[k]'(by have := HM.out.2; omega) = y := ⟨_, rfl⟩
      rw [hz] at e1
      rw [hy] at e2
      obtain ⟨k1, hk1⟩ : ∃ x, k + 1 = x := ⟨_, rfl⟩
      rw [hk1] at hki hcb
      have HK : Hid (k + 1 = k1) := hk1
      have HZ : Hid (∀ h1 h2, zs[k]'h1 = z ∧ ys[k]'h2 = y) := fun _ _ => ⟨hz, hy⟩
      clear hBw hcw hk hz hy hk1
      by_cases hzy : z = y
      · have hq : (z != y) = false := by simp [hzy]
        clear hzy
        go_wp2_with fail
        go_quiet (fail)
        go_wp2
        go_roundw
        case rel =>
          obtain ⟨b1, b2, b3⟩ := HB.out
          obtain ⟨m1, m2⟩ := HM.out
          obtain ⟨z1, z2⟩ := HZ.out (by omega) (by omega)
          have e5 := HK.out
          refine ⟨k1, by omega, rfl, ?_, below_drawn b1 _, fun a => b2 a⟩
          rw [← e5, List.take_succ_eq_append_getElem (by omega), List.take_succ_eq_append_getElem (by omega), b3, z1, z2]
          simp at hq
          rw [hq]
        case measure =>
          have := HK.out
          simp [intOf]
          omega
      · have hq : (z != y) = true := by simp [hzy]
        go_wp2_with fail
        go_quiet (fail)
        go_wp2
        go_ret
        obtain ⟨b1, b2, b3⟩ := HB.out
        obtain ⟨m1, m2⟩ := HM.out
        obtain ⟨z1, z2⟩ := HZ.out (by omega) (by omega)
        refine ⟨?_, below_drawn b1 _⟩
        have e6 : zs ≠ ys := fun e => hzy (by subst e; rw [← z1, ← z2])
        simp [e6]
    · go_wp2
      go_ret
      have e3 : zs = ys := by
        obtain ⟨m1, m2⟩ := HM.out
        rw [List.take_of_length_le (by omega), List.take_of_length_le (by omega)] at hk
        exact hk
      exact ⟨by simp [e3], hBw⟩
set_option maxHeartbeats 1000000 in
theorem lives14_any (w : World) : Calls Try.prog 10 #[] w fun e w' => e = .returned (.bool true) ∧ Below w.heap.size w w' := by
  have hP : Calls Try.prog 8 #[.int .u64 3, .int .i64 2] w _ := newP_ok w 3 2 (by omega) (by omega) rfl
  go_enter Try.func10, Try.ntmps10
  go_wp2_with fail
  refine hP.mono ?_
  rintro e w1 ⟨rfl, hw1⟩
  have P1 := Pa.new w 3 2
  rw [show ((3 : Nat) : Int) = 3 from rfl, show ((2 : Nat) : Int) = 2 from rfl] at P1 hw1
  have b1 : Below w.heap.size w w1 := by rw [hw1]; exact (Below.refl _ _).alloc (Nat.le_refl _) _
  rw [← hw1] at P1
  clear hP hw1
  generalize hg : w.heap.size = g at *
  have hC : Calls Try.prog 17 #[.int .i64 2, .int .u64 5] w1 _ := newC_ok w1 2 5 (by omega) rfl
  go_wp2_with fail
  refine hC.mono ?_
  rintro e w2 ⟨rfl, hw2⟩
  have C2 := Ca.new w1 2 5
  rw [show ((5 : Nat) : Int) = 5 from rfl, show ((2 : Nat) : Int) = 2 from rfl] at C2 hw2
  have P2 := P1.alloc (.cells #[.int .i64 2, .int .u64 5, .int .i64 0, .int .u64 0, .int .u64 0, .int .u64 0] 68)
  have b2 : Below g w w2 := by rw [hw2]; exact b1.alloc (by have := b1.size; omega) _
  rw [← hw2] at C2 P2
  have hgc : g < w1.heap.size := P1.lt
  clear hC hw2 P1 b1
  generalize w1.heap.size = q at *
  have hS : Calls Try.prog 14 #[.pointer (some ⟨g, 0, none⟩), .bool true] w2 _ := start_any (s := ⟨3, 2, false, 0, 0⟩) ⟨by simp, by simp, by simp, by simp⟩ P2 true
  go_wp2_with fail
  refine hS.mono ?_
  rintro e w3 ⟨rfl, P3, T3⟩
  have C3 := C2.two T3 (by omega) (by omega)
  have b3 : Below g w w3 := b2.trans (T3.below (by have := b2.size; omega) (Nat.le_refl _) (Nat.le_refl _))
  have s3 := b3.size
  have es : (⟨3, 2, false, 0, 0⟩ : Ps).start true = ⟨3, 2, true, 0, 0⟩ := rfl
  rw [es] at P3
  clear hS P2 T3 C2 b2
  have hT : Calls Try.prog 12 #[.pointer (some ⟨g, 0, none⟩), .int .u64 9] w3 _ := tick_any (s := ⟨3, 2, true, 0, 0⟩) ⟨by simp, by simp, by simp, by simp⟩ P3 9
  have eem : (⟨3, 2, true, 0, 0⟩ : Ps).em (min 9 65536) = [1, 2, 1] := rfl
  have hgp := P3.lt
  go_wp2_with fail
  refine hT.mono ?_
  rintro e w4 ⟨v4, rfl, r4, P4, T4⟩
  rw [eem] at r4
  have C4 := C3.two T4 (by omega) (by omega)
  have b4 : Below g w w4 := b3.trans (T4.below (by omega) (Nat.le_refl _) (Nat.le_refl _))
  clear hT P3 T4 C3 b3 P4
  have hSa : Calls Try.prog 11 #[v4, .slice (some ⟨w4.heap.size, 0, none⟩) 3 3] (w4.alloc (.cells #[.int .i64 1, .int .i64 2, .int .i64 1] 3)) _ := same_row (zs := [1, 2, 1]) (ys := [1, 2, 1]) (World.ownsRow.alloc r4 _) (row_three w4 1 2 1) rfl (by simp)
  have C5 := C4.alloc (.cells #[.int .i64 1, .int .i64 2, .int .i64 1] 3)
  have b5 : Below g w (w4.alloc (.cells #[.int .i64 1, .int .i64 2, .int .i64 1] 3)) := b4.alloc (by have := b4.size; omega) _
  clear r4 C4 b4
  go_wp2_with fail
  refine hSa.mono ?_
  rintro e w5 ⟨rfl, B5⟩
  have C6 := C5.below B5
  have b6 : Below g w w5 := b5.trans (B5.mono (by have := b5.size; omega))
  have hTk : Calls Try.prog 20 #[.pointer (some ⟨q, 0, none⟩), .int .i64 1] w5 _ := ctake_any (Cs.ok_new 2 5 (by omega) (by omega)) C6 1
  have e1 : (⟨2, 5, 0, 0, 0, 0⟩ : Cs).tells 1 = 0 := rfl
  have e2 : (⟨2, 5, 0, 0, 0, 0⟩ : Cs).take 1 = ⟨2, 5, 1, 1, 0, 0⟩ := rfl
  rw [e1, e2] at hTk
  clear hSa C5 b5 B5 e1 e2
  go_wp2_with fail
  refine hTk.mono ?_
  rintro e w6 ⟨rfl, C7, T7⟩
  have b7 : Below g w w6 := b6.trans (T7.below (by have := b6.size; omega) (by omega) (by omega))
  have hO : Calls Try.prog 22 #[.pointer (some ⟨q, 0, none⟩)] w6 _ := copen_any C7
  rw [show (⟨2, 5, 1, 1, 0, 0⟩ : Cs).isOpen = true from rfl] at hO
  clear hTk T7 C6 b6
  go_wp2_with fail
  refine hO.mono ?_
  rintro e w7 ⟨rfl, n7, rfl⟩
  have hCy : Calls Try.prog 24 #[.pointer (some ⟨q, 0, none⟩)] (w6.drewN n7) _ := ccycle_any (C7.drawn n7)
  go_wp2_with fail
  refine hCy.mono ?_
  rintro e w8 ⟨rfl, rfl⟩
  go_wp2
  go_ret
  exact ⟨rfl, by rw [hg]; exact below_drawn b7 _⟩
end Go.Proofs.Ytnmjeomhmmfgmaa
