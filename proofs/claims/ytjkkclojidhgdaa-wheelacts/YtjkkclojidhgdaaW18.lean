/- Two rows of numbers held against one another. -/
import Derived.Test.YtjkkclojidhgdaaW17
namespace Go.Proofs.Ytjkkclojidhgdaa
open Go.RowKit Go.Maps Go.WideMaps
set_option linter.unusedVariables false
set_option maxRecDepth 1000000
set_option linter.unusedSimpArgs false
theorem row_cell {w : World} {B : Nat} {q cap : Nat} {zs : List Int} (h : w.ownsRow B 3 1 (.slice (some ⟨q, 0, none⟩) zs.length cap) zs.length (zs.map (Value.int .i64))) {k : Nat} (hk : k < zs.length) : w.cell? ⟨q, k, none⟩ = some (.int .i64 zs[k]) := by
  have := h.cells (g := q) rfl k (.int .i64 zs[k]) (by simp [hk])
  have e9 : (⟨q, 0, none⟩ : Addr).add k = ⟨q, k, none⟩ := by
    cases k with
    | zero => rfl
    | succ j => simp [Addr.add]
  rw [e9] at this
  exact this
theorem same_len {w : World} {a1 a2 : Option Addr} {m1 m2 c1 c2 : Nat} (h : m1 ≠ m2) : Calls Try.prog 17 #[.slice a1 m1 c1, .slice a2 m2 c2] w fun e w' => e = .returned (.bool false) ∧ w' = w := by
  have h2 : ((m1 : Int) != (m2 : Int)) = true := by simp; omega
  go_enter Try.func17, Try.ntmps17
  go_wp2
  go_ret
  exact ⟨rfl, rfl⟩
set_option maxHeartbeats 1000000 in
theorem same_row {w : World} {B1 B2 : Nat} {v1 v2 : Value} {zs ys : List Int} (r1 : w.ownsRow B1 3 1 v1 zs.length (zs.map (Value.int .i64))) (r2 : w.ownsRow B2 3 1 v2 ys.length (ys.map (Value.int .i64))) (hl : zs.length = ys.length) (hb : zs.length < 4611686018427387904) :
    Calls Try.prog 17 #[v1, v2] w fun e w' => e = .returned (.bool (decide (zs = ys))) ∧ Below w.heap.size w w' := by
  obtain ⟨a1, c1, rfl⟩ := row_shape r1
  obtain ⟨a2, c2, rfl⟩ := row_shape r2
  obtain ⟨m, hm⟩ : ∃ m, zs.length = m := ⟨_, rfl⟩
  have hm2 : ys.length = m := hl.symm.trans hm
  have R1 : Hid (∀ k (h : k < zs.length), ∃ q, a1 = some ⟨q, 0, none⟩ ∧ w.cell? ⟨q, k, none⟩ = some (.int .i64 zs[k])) := fun k h => by
    rcases r1.2 with ⟨e, e2⟩ | ⟨q, cap', cur, e, _⟩
    · omega
    · injection e with e3 e4 e5
      subst e3
      exact ⟨q, rfl, row_cell r1 h⟩
  have R2 : Hid (∀ k (h : k < ys.length), ∃ q, a2 = some ⟨q, 0, none⟩ ∧ w.cell? ⟨q, k, none⟩ = some (.int .i64 ys[k])) := fun k h => by
    rcases r2.2 with ⟨e, e2⟩ | ⟨q, cap', cur, e, _⟩
    · omega
    · injection e with e3 e4 e5
      subst e3
      exact ⟨q, rfl, row_cell r2 h⟩
  have HM : Hid (zs.length = m ∧ ys.length = m) := ⟨hm, hm2⟩
  rw [hm, hm2]
  clear r1 r2 hl
  rw [hm] at hb
  clear hm hm2
  go_enter Try.func17, Try.ntmps17
  go_wp2_with fail
  go_loopw [5] (fun kv wk => ∃ k : Nat, k ≤ m ∧ kv = .int .i64 k ∧ zs.take k = ys.take k ∧ Below w.heap.size w wk ∧ ∀ a, wk.cell? a = w.cell? a) (fun kv _ => (m - intOf kv).toNat)
  case atStart => exact ⟨0, Nat.zero_le _, rfl, rfl, Below.refl _ _, fun _ => rfl⟩
  case round =>
    obtain ⟨k, hkm, rfl, hk, hBw, hcw⟩ := hrel
    by_cases h1 : k < m
    · obtain ⟨q1, rfl, e1⟩ := R1.out k (by have := HM.out.1; omega)
      obtain ⟨q2, rfl, e2⟩ := R2.out k (by have := HM.out.2; omega)
      rw [← hcw] at e1 e2
      have hki : (k : Int) + 1 = ((k + 1 : Nat) : Int) := by omega
      have hcb : k + 1 < 4611686018427387905 := by omega
      have HB : Hid (Below w.heap.size w wr ∧ (∀ a, wr.cell? a = w.cell? a) ∧ zs.take k = ys.take k) := ⟨hBw, hcw, hk⟩
      obtain ⟨z, hz⟩ : ∃ z, zs[k]'(by have := HM.out.1; omega) = z := ⟨_, rfl⟩
      obtain ⟨y, hy⟩ : ∃ y, ys[k]'(by have := HM.out.2; omega) = y := ⟨_, rfl⟩
      rw [hz] at e1
      rw [hy] at e2
      obtain ⟨k1, hk1⟩ : ∃ x, k + 1 = x := ⟨_, rfl⟩
      rw [hk1] at hki hcb
      have HK : Hid (k + 1 = k1) := hk1
      have HZ : Hid (∀ h1 h2, zs[k]'h1 = z ∧ ys[k]'h2 = y) := fun _ _ => ⟨hz, hy⟩
      clear hBw hcw hk hz hy hk1
      by_cases hzy : z = y
      · have hq : (z != y) = false := by simp [hzy]
        clear hzy
        go_wp2_with fail
        go_quiet (fail)
        go_wp2
        go_roundw
        case rel =>
          obtain ⟨b1, b2, b3⟩ := HB.out
          obtain ⟨m1, m2⟩ := HM.out
          obtain ⟨z1, z2⟩ := HZ.out (by omega) (by omega)
          have e5 := HK.out
          refine ⟨k1, by omega, rfl, ?_, below_drawn b1 _, fun a => b2 a⟩
          rw [← e5, List.take_succ_eq_append_getElem (by omega), List.take_succ_eq_append_getElem (by omega), b3, z1, z2]
          simp at hq
          rw [hq]
        case measure =>
          have := HK.out
          simp [intOf]
          omega
      · have hq : (z != y) = true := by simp [hzy]
        go_wp2_with fail
        go_quiet (fail)
        go_wp2
        go_ret
        obtain ⟨b1, b2, b3⟩ := HB.out
        obtain ⟨m1, m2⟩ := HM.out
        obtain ⟨z1, z2⟩ := HZ.out (by omega) (by omega)
        refine ⟨?_, below_drawn b1 _⟩
        have e6 : zs ≠ ys := fun e => hzy (by subst e; rw [← z1, ← z2])
        simp [e6]
    · go_wp2
      go_ret
      have e3 : zs = ys := by
        obtain ⟨m1, m2⟩ := HM.out
        rw [List.take_of_length_le (by omega), List.take_of_length_le (by omega)] at hk
        exact hk
      exact ⟨by simp [e3], hBw⟩
end Go.Proofs.Ytjkkclojidhgdaa
