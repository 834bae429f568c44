/- The law BeatBack returns true whatever comes in. -/
import Derived.Test.YtceomfefffngaaaLawBTim
namespace Go.Proofs.Ytceomfefffngaaa
open Go.RowKit
set_option linter.unusedVariables false
set_option maxRecDepth 1000000
set_option linter.unusedSimpArgs false
theorem Lw.own_lt {w x : World} {p g : Nat} {v : Value} {l : List Wt} (h : Lw w p g v l x) {k : Nat} (hk : v.ownBlock = some k) : k < x.heap.size := by
  obtain ⟨_, cur, hc⟩ := own_of h.wa.row hk
  exact (Array.getElem?_eq_some_iff.1 hc).1
theorem Bc.grown18 {T : TypeId} {q : Nat} {cs : Array Value} {w x : World} {r : Option Nat} (h : Bc T q cs w) (t : w.grownBy x r) (hr : r ≠ some q) : Bc T q cs x :=
  (t.block q h.lt (fun e => hr e.symm)).trans h
theorem Bc.u8 (w : World) (c : UInt8) : Bc 5 w.heap.size #[.int .u8 c.toNat] (w.alloc (.cells #[.int .u8 c.toNat] 5)) := heap_alloc_new w _
theorem Bc.bytes {q : Nat} {c : UInt8} {w : World} (h : Bc 5 q #[.int .u8 c.toNat] w) : Bytes w (.slice (some ⟨q, 0, none⟩) 1 1) [c] := bytes1 h.lt (h.cell 0)
/-- The one node is lost behind so many ticks. -/
theorem lost_at (E k : Nat) (st : Int) (hk : k < E) : (⟨3, E, 1, st, k⟩ : Wt).tick = if k + 1 < E then ⟨3, E, 1, st, k + 1⟩ else ⟨3, E, 2, st, E⟩ := by
  unfold Wt.tick
  rw [if_pos rfl]
  by_cases h2 : k + 1 = E
  · rw [if_pos h2, if_neg (by omega)]; simp [h2]
  · rw [if_neg h2, if_pos (by omega)]
theorem tick2 (E : Nat) (st : Int) : (⟨3, E, 2, st, E⟩ : Wt).tick = ⟨3, E, 2, st, E⟩ := rfl
set_option maxHeartbeats 2000000 in
theorem bbck_5 (t : Nat) (ht : t < 256) (lt : Bool) (w : World) :
    Calls Try.prog 7 #[.int .u8 t, .bool false, .bool lt] w fun e w' => e = .returned (.bool true) ∧ Below w.heap.size w w' := by
  have HL := fun x => lives18_any x
  obtain ⟨p, hp⟩ : ∃ p, w.heap.size = p := ⟨_, rfl⟩
  obtain ⟨E, hE⟩ : ∃ E : Nat, 1 + (t : Int) = (E : Int) := ⟨1 + t, by omega⟩
  have hE1 : 1 ≤ E := by omega
  have hE2 : E ≤ 256 := by omega
  have hw : IntKind.u64.wrap (1 + (t : Int)) = (E : Int) := by rw [hE]; simp [IntKind.wrap, IntKind.bits, IntKind.signed]; omega
  obtain ⟨X1, hX1⟩ : ∃ X, w.alloc (.cells #[.int .i64 3, .int .u64 E] 59) = X := ⟨_, rfl⟩
  have bX1 : Below p w X1 := by rw [← hX1, ← hp]; exact (Below.refl _ _).alloc (Nat.le_refl _) _
  have hW := Lw.one 3 E (by decide) (by decide) hE1 (by omega) w X1 p bX1 (by rw [← hp]; exact bX1.size) _ (by rw [← hX1]; exact wide_q w ⟨3, E⟩)
  rw [hp] at hW ⊢
  clear bX1
  go_enter Try.func7, Try.ntmps7
  go_wp2_with fail
  refine hW.mono ?_
  rintro e y1 ⟨v, rfl, W1, _, _⟩
  obtain ⟨g, hg⟩ : ∃ g, X1.heap.size = g := ⟨_, rfl⟩
  rw [hg] at W1 ⊢
  clear hW hX1 hg
  obtain ⟨q, hq⟩ : ∃ q, y1.heap.size = q := ⟨_, rfl⟩
  obtain ⟨X2, hX2⟩ : ∃ X, y1.alloc (.cells #[.int .u8 5] 5) = X := ⟨_, rfl⟩
  have W2 : Lw w p g v [⟨3, E, 0, 0, 0⟩] X2 := by rw [← hX2]; exact W1.alloc _
  have C2 : Bc 5 q #[.int .u8 (5 : UInt8).toNat] X2 := by rw [← hX2, ← hq]; exact Bc.u8 _ 5
  have hvq : v.ownBlock ≠ some q := fun e => by have := W1.own_lt e; omega
  have hT := W2.take 3 (.slice (some ⟨q, 0, none⟩) 1 1) [5] C2.bytes
  rw [(one_take ⟨3, E, 0, 0, 0⟩ 5 (by decide)).1, (one_take ⟨3, E, 0, 0, 0⟩ 5 (by decide)).2.1] at hT
  have e1 : (⟨3, E, 0, 0, 0⟩ : Wt).beat (5 : UInt8).toNat = ⟨3, E, 1, 5, 0⟩ := rfl
  rw [e1] at hT
  clear W1 W2 e1
  go_wp2_with fail
  refine hT.mono ?_
  rintro e y2 ⟨ao2, cap2, rfl, _, W2, G2⟩
  have C3 := C2.grown18 G2 hvq
  clear hT hX2 hq C2 G2
  go_wp2_with fail
  go_loopw [11] (fun s11 x => ∃ k, k ≤ E ∧ s11 = .int .u64 (k : Nat) ∧ Lw w p g v [if k < E then ⟨3, E, 1, 5, k⟩ else ⟨3, E, 2, 5, E⟩] x ∧ Bc 5 q #[.int .u8 (5 : UInt8).toNat] x) (fun s11 _ => E - (intOf s11).toNat)
  case atStart => exact ⟨0, by omega, rfl, by rw [if_pos (by omega)]; exact W2, C3⟩
  case round =>
    clear W2 C3
    obtain ⟨k, hk, rfl, W3, C3⟩ := hrel
    by_cases hkE : k < E
    · have hd : decide ((k : Int) < (E : Int)) = true := by simp; omega
      have hd' : decide (k < E) = true := by simp; omega
      rw [if_pos hkE] at W3
      have hT := W3.tick
      rw [(one_tick _).1, lost_at E k 5 hkE] at hT
      obtain ⟨m, hm⟩ : ∃ m, k + 1 = m := ⟨_, rfl⟩
      have hw4 : IntKind.u64.wrap ((k : Int) + 1) = (m : Int) := by rw [← hm]; simp [IntKind.wrap, IntKind.bits, IntKind.signed]; omega
      rw [hm] at hT
      have hmE : m ≤ E := by omega
      have HM := hidOf2 (show m = k + 1 ∧ k < E from ⟨hm.symm, hkE⟩)
      clear W3 hm hkE
      go_wp2_with fail
      refine hT.mono ?_
      rintro e y ⟨ao2, cap2, rfl, _, W5, G5⟩
      have C5 := C3.grown18 G5 hvq
      clear hT G5 C3
      go_wp2_with fail
      go_roundw
      case rel => exact ⟨m, hmE, by first | rfl | rw [hw4], W5, C5⟩
      case measure => have := HM.out; simp [intOf]; omega
    · obtain rfl : k = E := by omega
      have hd : decide ((k : Int) < (k : Int)) = false := by simp
      have hd' : decide (k < k) = false := by simp
      rw [if_neg hkE] at W3
      have hLo := W3.lost
      have e1 : lostW [⟨3, k, 2, 5, k⟩] = [3] := rfl
      rw [e1, List.mergeSort_singleton] at hLo
      clear W3 e1 hkE hE1 hE2 hE hw
      go_wp2_with fail
      refine hLo.mono ?_
      rintro e y ⟨ao3, cap3, rfl, I4, W4, b4⟩
      have C4 := C3.below b4
      obtain ⟨ib, io, ic, hie, _, hI⟩ := Wide.at0 (wide_of_own DI I4) 0 (by simp)
      injection hie with hie _ _
      have i0 : y.cell? ⟨ib, io, none⟩ = some (.int .i64 3) := hI 0 _ (by rfl)
      subst hie
      clear hLo C3 I4 b4 hI
      cases lt
      · skip
        have hT := W4.take 3 (.slice (some ⟨q, 0, none⟩) 1 1) [5] C4.bytes
        rw [(one_take ⟨3, k, 2, 5, k⟩ 5 (by decide)).1, (one_take ⟨3, k, 2, 5, k⟩ 5 (by decide)).2.1, (one_take ⟨3, k, 2, 5, k⟩ 5 (by decide)).2.2] at hT
        have e1 : (⟨3, k, 2, 5, k⟩ : Wt).beat (5 : UInt8).toNat = ⟨3, k, 1, 5, 0⟩ := rfl
        have e2 : (⟨3, k, 2, 5, k⟩ : Wt).says (5 : UInt8).toNat = [⟨3, 1, 5⟩] := rfl
        rw [e1, e2] at hT
        clear W4 e1 e2
        go_wp2_with fail
        refine hT.mono ?_
        rintro e y5 ⟨ao6, cap6, rfl, N6, W6, G6⟩
        have C6 := C4.grown18 G6 hvq
        clear hT G6 C4
        have hT := W6.take 3 (.slice (some ⟨q, 0, none⟩) 1 1) [5] C6.bytes
        rw [(one_take ⟨3, k, 1, 5, 0⟩ 5 (by decide)).1, (one_take ⟨3, k, 1, 5, 0⟩ 5 (by decide)).2.1, (one_take ⟨3, k, 1, 5, 0⟩ 5 (by decide)).2.2] at hT
        have e1 : (⟨3, k, 1, 5, 0⟩ : Wt).beat (5 : UInt8).toNat = ⟨3, k, 1, 5, 0⟩ := rfl
        have e2 : (⟨3, k, 1, 5, 0⟩ : Wt).says (5 : UInt8).toNat = [] := rfl
        rw [e1, e2] at hT
        have hN6 := N6.apart W6.wa
        clear W6 e1 e2
        go_wp2_with fail
        refine hT.mono ?_
        rintro e y7 ⟨ao7, cap7, rfl, _, W7, G7⟩
        have C7 := C6.grown18 G7 hvq
        have N7 := N6.grown G7 (fun k hk hv => hN6.2 k hv hk)
        have q0 : y7.cell? ⟨q, 0, none⟩ = some (.int .u8 5) := C7.cell 0
        obtain ⟨X4, hX4⟩ : ∃ X, y7.alloc (.cells #[.int .i64 3, .int .i64 1, .int .i64 5] 55) = X := ⟨_, rfl⟩
        have bX4 : Below y7.heap.size y7 X4 := by rw [← hX4]; exact (Below.refl _ _).alloc (Nat.le_refl _) _
        have hM : Wide 3 Ne.cs X4 (.slice (some ⟨y7.heap.size, 0, none⟩) 1 1) [⟨3, 1, 5⟩] := by rw [← hX4]; exact wide_ne y7 ⟨3, 1, 5⟩
        have W8 := W7.below bX4
        have hSm := same_eq (.slice ao6 1 cap6) _ [⟨3, 1, 5⟩] X4 (wide_of_own DN (N7.below bX4)) hM (by decide)
        clear hT G7 C6 C7 N6 N7 hN6 W7 bX4 hM
        go_wp2_with fail
        refine hSm.mono ?_
        rintro e w5 ⟨rfl, b9⟩
        have W9 := W8.below b9
        have hLo := W9.lost
        have e1 : lostW [⟨3, k, 1, 5, 0⟩] = [] := rfl
        rw [e1] at hLo
        clear hSm W8 b9 hX4 W9 e1 q0
        go_wp2_with fail
        refine hLo.mono ?_
        rintro e w6 ⟨ao8, cap8, rfl, _, W10, _⟩
        have HB := hidOf2 W10.bl
        have hsz := W10.sz
        clear hLo W10
        go_wp2_with (go_at_call 10; refine (HL _).mono ?_; rintro e w2 ⟨rfl, b2⟩)
        go_ret
        exact ⟨rfl, below_low HB.out b2 hsz⟩
      · have hT := W4.tick
        rw [(one_tick _).1, tick2] at hT
        clear W4
        go_wp2_with fail
        refine hT.mono ?_
        rintro e y4 ⟨ao5, cap5, rfl, _, W4, G5⟩
        have C5 := C4.grown18 G5 hvq
        clear hT G5 C4
        have C4 := C5
        clear C5
        have hT := W4.take 3 (.slice (some ⟨q, 0, none⟩) 1 1) [5] C4.bytes
        rw [(one_take ⟨3, k, 2, 5, k⟩ 5 (by decide)).1, (one_take ⟨3, k, 2, 5, k⟩ 5 (by decide)).2.1, (one_take ⟨3, k, 2, 5, k⟩ 5 (by decide)).2.2] at hT
        have e1 : (⟨3, k, 2, 5, k⟩ : Wt).beat (5 : UInt8).toNat = ⟨3, k, 1, 5, 0⟩ := rfl
        have e2 : (⟨3, k, 2, 5, k⟩ : Wt).says (5 : UInt8).toNat = [⟨3, 1, 5⟩] := rfl
        rw [e1, e2] at hT
        clear W4 e1 e2
        go_wp2_with fail
        refine hT.mono ?_
        rintro e y5 ⟨ao6, cap6, rfl, N6, W6, G6⟩
        have C6 := C4.grown18 G6 hvq
        clear hT G6 C4
        have hT := W6.take 3 (.slice (some ⟨q, 0, none⟩) 1 1) [5] C6.bytes
        rw [(one_take ⟨3, k, 1, 5, 0⟩ 5 (by decide)).1, (one_take ⟨3, k, 1, 5, 0⟩ 5 (by decide)).2.1, (one_take ⟨3, k, 1, 5, 0⟩ 5 (by decide)).2.2] at hT
        have e1 : (⟨3, k, 1, 5, 0⟩ : Wt).beat (5 : UInt8).toNat = ⟨3, k, 1, 5, 0⟩ := rfl
        have e2 : (⟨3, k, 1, 5, 0⟩ : Wt).says (5 : UInt8).toNat = [] := rfl
        rw [e1, e2] at hT
        have hN6 := N6.apart W6.wa
        clear W6 e1 e2
        go_wp2_with fail
        refine hT.mono ?_
        rintro e y7 ⟨ao7, cap7, rfl, _, W7, G7⟩
        have C7 := C6.grown18 G7 hvq
        have N7 := N6.grown G7 (fun k hk hv => hN6.2 k hv hk)
        have q0 : y7.cell? ⟨q, 0, none⟩ = some (.int .u8 5) := C7.cell 0
        obtain ⟨X4, hX4⟩ : ∃ X, y7.alloc (.cells #[.int .i64 3, .int .i64 1, .int .i64 5] 55) = X := ⟨_, rfl⟩
        have bX4 : Below y7.heap.size y7 X4 := by rw [← hX4]; exact (Below.refl _ _).alloc (Nat.le_refl _) _
        have hM : Wide 3 Ne.cs X4 (.slice (some ⟨y7.heap.size, 0, none⟩) 1 1) [⟨3, 1, 5⟩] := by rw [← hX4]; exact wide_ne y7 ⟨3, 1, 5⟩
        have W8 := W7.below bX4
        have hSm := same_eq (.slice ao6 1 cap6) _ [⟨3, 1, 5⟩] X4 (wide_of_own DN (N7.below bX4)) hM (by decide)
        clear hT G7 C6 C7 N6 N7 hN6 W7 bX4 hM
        go_wp2_with fail
        refine hSm.mono ?_
        rintro e w5 ⟨rfl, b9⟩
        have W9 := W8.below b9
        have hLo := W9.lost
        have e1 : lostW [⟨3, k, 1, 5, 0⟩] = [] := rfl
        rw [e1] at hLo
        clear hSm W8 b9 hX4 W9 e1 q0
        go_wp2_with fail
        refine hLo.mono ?_
        rintro e w6 ⟨ao8, cap8, rfl, _, W10, _⟩
        have HB := hidOf2 W10.bl
        have hsz := W10.sz
        clear hLo W10
        go_wp2_with (go_at_call 10; refine (HL _).mono ?_; rintro e w2 ⟨rfl, b2⟩)
        go_ret
        exact ⟨rfl, below_low HB.out b2 hsz⟩
set_option maxHeartbeats 2000000 in
theorem bbck_127 (t : Nat) (ht : t < 256) (lt : Bool) (w : World) :
    Calls Try.prog 7 #[.int .u8 t, .bool true, .bool lt] w fun e w' => e = .returned (.bool true) ∧ Below w.heap.size w w' := by
  have HL := fun x => lives18_any x
  obtain ⟨p, hp⟩ : ∃ p, w.heap.size = p := ⟨_, rfl⟩
  obtain ⟨E, hE⟩ : ∃ E : Nat, 1 + (t : Int) = (E : Int) := ⟨1 + t, by omega⟩
  have hE1 : 1 ≤ E := by omega
  have hE2 : E ≤ 256 := by omega
  have hw : IntKind.u64.wrap (1 + (t : Int)) = (E : Int) := by rw [hE]; simp [IntKind.wrap, IntKind.bits, IntKind.signed]; omega
  obtain ⟨X1, hX1⟩ : ∃ X, w.alloc (.cells #[.int .i64 3, .int .u64 E] 59) = X := ⟨_, rfl⟩
  have bX1 : Below p w X1 := by rw [← hX1, ← hp]; exact (Below.refl _ _).alloc (Nat.le_refl _) _
  have hW := Lw.one 3 E (by decide) (by decide) hE1 (by omega) w X1 p bX1 (by rw [← hp]; exact bX1.size) _ (by rw [← hX1]; exact wide_q w ⟨3, E⟩)
  rw [hp] at hW ⊢
  clear bX1
  go_enter Try.func7, Try.ntmps7
  go_wp2_with fail
  refine hW.mono ?_
  rintro e y1 ⟨v, rfl, W1, _, _⟩
  obtain ⟨g, hg⟩ : ∃ g, X1.heap.size = g := ⟨_, rfl⟩
  rw [hg] at W1 ⊢
  clear hW hX1 hg
  obtain ⟨X0, hX0⟩ : ∃ X, y1.alloc (.cells #[.int .u8 5] 5) = X := ⟨_, rfl⟩
  have W0 : Lw w p g v [⟨3, E, 0, 0, 0⟩] X0 := by rw [← hX0]; exact W1.alloc _
  clear W1
  obtain ⟨q, hq⟩ : ∃ q, X0.heap.size = q := ⟨_, rfl⟩
  obtain ⟨X2, hX2⟩ : ∃ X, X0.alloc (.cells #[.int .u8 127] 5) = X := ⟨_, rfl⟩
  have W2 : Lw w p g v [⟨3, E, 0, 0, 0⟩] X2 := by rw [← hX2]; exact W0.alloc _
  have C2 : Bc 5 q #[.int .u8 (127 : UInt8).toNat] X2 := by rw [← hX2, ← hq]; exact Bc.u8 _ 127
  have hvq : v.ownBlock ≠ some q := fun e => by have := W0.own_lt e; omega
  have hT := W2.take 3 (.slice (some ⟨q, 0, none⟩) 1 1) [127] C2.bytes
  rw [(one_take ⟨3, E, 0, 0, 0⟩ 127 (by decide)).1, (one_take ⟨3, E, 0, 0, 0⟩ 127 (by decide)).2.1] at hT
  have e1 : (⟨3, E, 0, 0, 0⟩ : Wt).beat (127 : UInt8).toNat = ⟨3, E, 1, 127, 0⟩ := rfl
  rw [e1] at hT
  clear W0 W2 e1
  go_wp2_with fail
  refine hT.mono ?_
  rintro e y2 ⟨ao2, cap2, rfl, _, W2, G2⟩
  have C3 := C2.grown18 G2 hvq
  clear hT hX2 hq C2 G2 hX0
  go_wp2_with fail
  go_loopw [11] (fun s11 x => ∃ k, k ≤ E ∧ s11 = .int .u64 (k : Nat) ∧ Lw w p g v [if k < E then ⟨3, E, 1, 127, k⟩ else ⟨3, E, 2, 127, E⟩] x ∧ Bc 5 q #[.int .u8 (127 : UInt8).toNat] x) (fun s11 _ => E - (intOf s11).toNat)
  case atStart => exact ⟨0, by omega, rfl, by rw [if_pos (by omega)]; exact W2, C3⟩
  case round =>
    clear W2 C3
    obtain ⟨k, hk, rfl, W3, C3⟩ := hrel
    by_cases hkE : k < E
    · have hd : decide ((k : Int) < (E : Int)) = true := by simp; omega
      have hd' : decide (k < E) = true := by simp; omega
      rw [if_pos hkE] at W3
      have hT := W3.tick
      rw [(one_tick _).1, lost_at E k 127 hkE] at hT
      obtain ⟨m, hm⟩ : ∃ m, k + 1 = m := ⟨_, rfl⟩
      have hw4 : IntKind.u64.wrap ((k : Int) + 1) = (m : Int) := by rw [← hm]; simp [IntKind.wrap, IntKind.bits, IntKind.signed]; omega
      rw [hm] at hT
      have hmE : m ≤ E := by omega
      have HM := hidOf2 (show m = k + 1 ∧ k < E from ⟨hm.symm, hkE⟩)
      clear W3 hm hkE
      go_wp2_with fail
      refine hT.mono ?_
      rintro e y ⟨ao2, cap2, rfl, _, W5, G5⟩
      have C5 := C3.grown18 G5 hvq
      clear hT G5 C3
      go_wp2_with fail
      go_roundw
      case rel => exact ⟨m, hmE, by first | rfl | rw [hw4], W5, C5⟩
      case measure => have := HM.out; simp [intOf]; omega
    · obtain rfl : k = E := by omega
      have hd : decide ((k : Int) < (k : Int)) = false := by simp
      have hd' : decide (k < k) = false := by simp
      rw [if_neg hkE] at W3
      have hLo := W3.lost
      have e1 : lostW [⟨3, k, 2, 127, k⟩] = [3] := rfl
      rw [e1, List.mergeSort_singleton] at hLo
      clear W3 e1 hkE hE1 hE2 hE hw
      go_wp2_with fail
      refine hLo.mono ?_
      rintro e y ⟨ao3, cap3, rfl, I4, W4, b4⟩
      have C4 := C3.below b4
      obtain ⟨ib, io, ic, hie, _, hI⟩ := Wide.at0 (wide_of_own DI I4) 0 (by simp)
      injection hie with hie _ _
      have i0 : y.cell? ⟨ib, io, none⟩ = some (.int .i64 3) := hI 0 _ (by rfl)
      subst hie
      clear hLo C3 I4 b4 hI
      cases lt
      · skip
        have hT := W4.take 3 (.slice (some ⟨q, 0, none⟩) 1 1) [127] C4.bytes
        rw [(one_take ⟨3, k, 2, 127, k⟩ 127 (by decide)).1, (one_take ⟨3, k, 2, 127, k⟩ 127 (by decide)).2.1, (one_take ⟨3, k, 2, 127, k⟩ 127 (by decide)).2.2] at hT
        have e1 : (⟨3, k, 2, 127, k⟩ : Wt).beat (127 : UInt8).toNat = ⟨3, k, 1, 127, 0⟩ := rfl
        have e2 : (⟨3, k, 2, 127, k⟩ : Wt).says (127 : UInt8).toNat = [⟨3, 1, 127⟩] := rfl
        rw [e1, e2] at hT
        clear W4 e1 e2
        go_wp2_with fail
        refine hT.mono ?_
        rintro e y5 ⟨ao6, cap6, rfl, N6, W6, G6⟩
        have C6 := C4.grown18 G6 hvq
        clear hT G6 C4
        have hT := W6.take 3 (.slice (some ⟨q, 0, none⟩) 1 1) [127] C6.bytes
        rw [(one_take ⟨3, k, 1, 127, 0⟩ 127 (by decide)).1, (one_take ⟨3, k, 1, 127, 0⟩ 127 (by decide)).2.1, (one_take ⟨3, k, 1, 127, 0⟩ 127 (by decide)).2.2] at hT
        have e1 : (⟨3, k, 1, 127, 0⟩ : Wt).beat (127 : UInt8).toNat = ⟨3, k, 1, 127, 0⟩ := rfl
        have e2 : (⟨3, k, 1, 127, 0⟩ : Wt).says (127 : UInt8).toNat = [] := rfl
        rw [e1, e2] at hT
        have hN6 := N6.apart W6.wa
        clear W6 e1 e2
        go_wp2_with fail
        refine hT.mono ?_
        rintro e y7 ⟨ao7, cap7, rfl, _, W7, G7⟩
        have C7 := C6.grown18 G7 hvq
        have N7 := N6.grown G7 (fun k hk hv => hN6.2 k hv hk)
        have q0 : y7.cell? ⟨q, 0, none⟩ = some (.int .u8 127) := C7.cell 0
        obtain ⟨X4, hX4⟩ : ∃ X, y7.alloc (.cells #[.int .i64 3, .int .i64 1, .int .i64 127] 55) = X := ⟨_, rfl⟩
        have bX4 : Below y7.heap.size y7 X4 := by rw [← hX4]; exact (Below.refl _ _).alloc (Nat.le_refl _) _
        have hM : Wide 3 Ne.cs X4 (.slice (some ⟨y7.heap.size, 0, none⟩) 1 1) [⟨3, 1, 127⟩] := by rw [← hX4]; exact wide_ne y7 ⟨3, 1, 127⟩
        have W8 := W7.below bX4
        have hSm := same_eq (.slice ao6 1 cap6) _ [⟨3, 1, 127⟩] X4 (wide_of_own DN (N7.below bX4)) hM (by decide)
        clear hT G7 C6 C7 N6 N7 hN6 W7 bX4 hM
        go_wp2_with fail
        refine hSm.mono ?_
        rintro e w5 ⟨rfl, b9⟩
        have W9 := W8.below b9
        have hLo := W9.lost
        have e1 : lostW [⟨3, k, 1, 127, 0⟩] = [] := rfl
        rw [e1] at hLo
        clear hSm W8 b9 hX4 W9 e1 q0
        go_wp2_with fail
        refine hLo.mono ?_
        rintro e w6 ⟨ao8, cap8, rfl, _, W10, _⟩
        have HB := hidOf2 W10.bl
        have hsz := W10.sz
        clear hLo W10
        go_wp2_with (go_at_call 10; refine (HL _).mono ?_; rintro e w2 ⟨rfl, b2⟩)
        go_ret
        exact ⟨rfl, below_low HB.out b2 hsz⟩
      · have hT := W4.tick
        rw [(one_tick _).1, tick2] at hT
        clear W4
        go_wp2_with fail
        refine hT.mono ?_
        rintro e y4 ⟨ao5, cap5, rfl, _, W4, G5⟩
        have C5 := C4.grown18 G5 hvq
        clear hT G5 C4
        have C4 := C5
        clear C5
        have hT := W4.take 3 (.slice (some ⟨q, 0, none⟩) 1 1) [127] C4.bytes
        rw [(one_take ⟨3, k, 2, 127, k⟩ 127 (by decide)).1, (one_take ⟨3, k, 2, 127, k⟩ 127 (by decide)).2.1, (one_take ⟨3, k, 2, 127, k⟩ 127 (by decide)).2.2] at hT
        have e1 : (⟨3, k, 2, 127, k⟩ : Wt).beat (127 : UInt8).toNat = ⟨3, k, 1, 127, 0⟩ := rfl
        have e2 : (⟨3, k, 2, 127, k⟩ : Wt).says (127 : UInt8).toNat = [⟨3, 1, 127⟩] := rfl
        rw [e1, e2] at hT
        clear W4 e1 e2
        go_wp2_with fail
        refine hT.mono ?_
        rintro e y5 ⟨ao6, cap6, rfl, N6, W6, G6⟩
        have C6 := C4.grown18 G6 hvq
        clear hT G6 C4
        have hT := W6.take 3 (.slice (some ⟨q, 0, none⟩) 1 1) [127] C6.bytes
        rw [(one_take ⟨3, k, 1, 127, 0⟩ 127 (by decide)).1, (one_take ⟨3, k, 1, 127, 0⟩ 127 (by decide)).2.1, (one_take ⟨3, k, 1, 127, 0⟩ 127 (by decide)).2.2] at hT
        have e1 : (⟨3, k, 1, 127, 0⟩ : Wt).beat (127 : UInt8).toNat = ⟨3, k, 1, 127, 0⟩ := rfl
        have e2 : (⟨3, k, 1, 127, 0⟩ : Wt).says (127 : UInt8).toNat = [] := rfl
        rw [e1, e2] at hT
        have hN6 := N6.apart W6.wa
        clear W6 e1 e2
        go_wp2_with fail
        refine hT.mono ?_
        rintro e y7 ⟨ao7, cap7, rfl, _, W7, G7⟩
        have C7 := C6.grown18 G7 hvq
        have N7 := N6.grown G7 (fun k hk hv => hN6.2 k hv hk)
        have q0 : y7.cell? ⟨q, 0, none⟩ = some (.int .u8 127) := C7.cell 0
        obtain ⟨X4, hX4⟩ : ∃ X, y7.alloc (.cells #[.int .i64 3, .int .i64 1, .int .i64 127] 55) = X := ⟨_, rfl⟩
        have bX4 : Below y7.heap.size y7 X4 := by rw [← hX4]; exact (Below.refl _ _).alloc (Nat.le_refl _) _
        have hM : Wide 3 Ne.cs X4 (.slice (some ⟨y7.heap.size, 0, none⟩) 1 1) [⟨3, 1, 127⟩] := by rw [← hX4]; exact wide_ne y7 ⟨3, 1, 127⟩
        have W8 := W7.below bX4
        have hSm := same_eq (.slice ao6 1 cap6) _ [⟨3, 1, 127⟩] X4 (wide_of_own DN (N7.below bX4)) hM (by decide)
        clear hT G7 C6 C7 N6 N7 hN6 W7 bX4 hM
        go_wp2_with fail
        refine hSm.mono ?_
        rintro e w5 ⟨rfl, b9⟩
        have W9 := W8.below b9
        have hLo := W9.lost
        have e1 : lostW [⟨3, k, 1, 127, 0⟩] = [] := rfl
        rw [e1] at hLo
        clear hSm W8 b9 hX4 W9 e1 q0
        go_wp2_with fail
        refine hLo.mono ?_
        rintro e w6 ⟨ao8, cap8, rfl, _, W10, _⟩
        have HB := hidOf2 W10.bl
        have hsz := W10.sz
        clear hLo W10
        go_wp2_with (go_at_call 10; refine (HL _).mono ?_; rintro e w2 ⟨rfl, b2⟩)
        go_ret
        exact ⟨rfl, below_low HB.out b2 hsz⟩
theorem bbck_walkI (a : Int) (ha : 0 ≤ a ∧ a < 256) (st lt : Bool) (w : World) :
    Calls Try.prog 7 #[.int .u8 a, .bool st, .bool lt] w fun e w' => e = .returned (.bool true) ∧ Below w.heap.size w w' := by
  obtain ⟨n, rfl⟩ : ∃ n : Nat, a = n := ⟨a.toNat, by omega⟩
  cases st
  · exact bbck_5 n (by omega) lt w
  · exact bbck_127 n (by omega) lt w
end Go.Proofs.Ytceomfefffngaaa
