/- The law BeatInTime returns true whatever comes in. -/
import Derived.Test.YtceomfefffngaaaBwI
import Derived.Test.YtceomfefffngaaaBwOp
namespace Go.Proofs.Ytceomfefffngaaa
open Go.RowKit
set_option linter.unusedVariables false
set_option maxRecDepth 1000000
set_option linter.unusedSimpArgs false
theorem fw_one (x : Wt) : fw [x] x.nd = 0 := by simp [fw]
theorem one_take (x : Wt) (c : UInt8) (h : isB c.toNat = true) : okW [x] x.nd [c] = true ∧ takeW [x] x.nd [c] = [x.beat c.toNat] ∧ saysW [x] x.nd [c] = x.says c.toNat := by
  obtain ⟨h1, h2, h3⟩ := take_yes [x] x.nd c (by rw [fw_one]; simp) h
  refine ⟨h1, ?_, ?_⟩
  · rw [h3]; simp [fw_one]
  · rw [h2]; simp [fw_one]
theorem one_tick (x : Wt) : tickW [x] = [x.tick] ∧ tellsW [x] = x.tells := by simp [tickW, tellsW]
theorem enter_lv18 : ∀ args x, (callFunc 10 args).run Try.prog x = .ok (.enter 10 args) x := fun _ _ => by rfl
theorem bytes_al (w : World) (c : UInt8) : Bytes (w.alloc (.cells #[.int .u8 c.toNat] 5)) (.slice (some ⟨w.heap.size, 0, none⟩) 1 1) [c] := by
  refine bytes1 (by simp) ?_
  exact Lib.cell_of_heap (heap_alloc_new w _) _
set_option maxHeartbeats 2000000 in
theorem btim_walk (t : Nat) (ht : t < 256) (v : Value) (l : List UInt8) (hl : l.length ≤ 140737488351232) (w : World) (hB : Bytes w v l) :
    Calls Try.prog 5 #[.int .u8 t, v] w fun e w' => e = .returned (.bool true) ∧ Below w.heap.size w w' := by
  obtain ⟨ao, cap, rfl, _, hc⟩ := hB
  have HC : Hid (∀ (wr : World), Below w.heap.size w wr → ∀ k (hk : k < l.length), ∃ b off, ao = some ⟨b, off, none⟩ ∧ b < w.heap.size ∧ wr.cell? ⟨b, off + k, none⟩ = some (.int .u8 l[k].toNat)) := fun wr hb k hk => Bytes.at (cap := cap) hc hb k hk
  have HL := fun x => lives18_any x
  obtain ⟨p, hp⟩ : ∃ p, w.heap.size = p := ⟨_, rfl⟩
  obtain ⟨E, hE⟩ : ∃ E : Nat, (t : Int) + 1 = (E : Int) := ⟨t + 1, by omega⟩
  have hE1 : 1 ≤ E := by omega
  have hE2 : E ≤ 256 := by omega
  have hw : IntKind.u64.wrap ((t : Int) + 1) = (E : Int) := by rw [hE]; simp [IntKind.wrap, IntKind.bits, IntKind.signed]; omega
  obtain ⟨L, hL⟩ : ∃ L, l.length = L := ⟨_, rfl⟩
  have HLn := hidOf2 hL
  obtain ⟨X1, hX1⟩ : ∃ X, w.alloc (.cells #[.int .i64 9, .int .u64 E] 59) = X := ⟨_, rfl⟩
  have bX1 : Below p w X1 := by rw [← hX1, ← hp]; exact (Below.refl _ _).alloc (Nat.le_refl _) _
  have hW := Lw.one 9 E (by decide) (by decide) hE1 (by omega) w X1 p bX1 (by rw [← hp]; exact bX1.size) _ (by rw [← hX1]; exact wide_q w ⟨9, E⟩)
  rw [hp] at HC hW ⊢
  rw [hL] at hl ⊢
  clear hc hL bX1
  go_enter Try.func5, Try.ntmps5
  go_wp2_with fail
  refine hW.mono ?_
  rintro e y1 ⟨v, rfl, W1, _, _⟩
  obtain ⟨g, hg⟩ : ∃ g, X1.heap.size = g := ⟨_, rfl⟩
  rw [hg] at W1 ⊢
  clear hW hX1 hg
  obtain ⟨X2, hX2⟩ : ∃ X, y1.alloc (.cells #[.int .u8 5] 5) = X := ⟨_, rfl⟩
  have W2 : Lw w p g v [⟨9, E, 0, 0, 0⟩] X2 := by rw [← hX2]; exact W1.alloc _
  have hT := W2.take 9 (.slice (some ⟨y1.heap.size, 0, none⟩) 1 1) [5] (by rw [← hX2]; exact bytes_al y1 5)
  rw [(one_take ⟨9, E, 0, 0, 0⟩ 5 (by decide)).1, (one_take ⟨9, E, 0, 0, 0⟩ 5 (by decide)).2.1] at hT
  have e1 : (⟨9, E, 0, 0, 0⟩ : Wt).beat (5 : UInt8).toNat = ⟨9, E, 1, 5, 0⟩ := rfl
  rw [e1] at hT
  clear W1 W2
  go_wp2_with fail
  refine hT.mono ?_
  rintro e y2 ⟨ao2, cap2, rfl, _, W2, _⟩
  clear hT hX2 e1
  go_wp2_with fail
  go_loopw [8] (fun s8 x => ∃ k, k ≤ L ∧ s8 = .int .i64 (k : Nat) ∧ Lw w p g v [⟨9, E, 1, 5, 0⟩] x) (fun s8 _ => L - (intOf s8).toNat)
  case atStart => exact ⟨0, by omega, rfl, W2⟩
  case round =>
    clear W2
    obtain ⟨k, hk, rfl, W3⟩ := hrel
    by_cases hkl : k < L
    · have hd : decide ((k : Int) < (L : Int)) = true := by simp; omega
      have hkL : k < l.length := by rw [HLn.out]; exact hkl
      obtain ⟨R, hR⟩ : ∃ R : Nat, l[k].toNat % E = R := ⟨_, rfl⟩
      have hRE : R < E := by rw [← hR]; exact Nat.mod_lt _ (by omega)
      obtain ⟨Z, hZ⟩ : ∃ Z, l[k].toNat = Z := ⟨_, rfl⟩
      have hZ2 : Z < 256 := by rw [← hZ]; exact UInt8.toNat_lt _
      have hrem : (Z : Int).tmod (E : Int) = (R : Int) := by rw [← hR, hZ]; rfl
      have HC2 : Hid (∀ (wr : World), Below p w wr → ∃ b off, ao = some ⟨b, off, none⟩ ∧ b < p ∧ wr.cell? ⟨b, off + k, none⟩ = some (.int .u8 (Z : Nat))) := fun wr hb => by have := HC.out wr hb k hkL; rw [hZ] at this; exact this
      have hE0 : ((E : Int) == 0) = false := by simp; omega
      clear hZ hR
      go_wp2_with fail
      go_loopw [9] (fun s9 x => ∃ j, j ≤ R ∧ s9 = .int .i64 (j : Nat) ∧ Lw w p g v [⟨9, E, 1, 5, j⟩] x) (fun s9 _ => R - (intOf s9).toNat)
      case atStart => exact ⟨0, by omega, rfl, W3⟩
      case round =>
        clear W3
        obtain ⟨j, hj, rfl, W4⟩ := hrel
        obtain ⟨b, off, rfl, hb, hcell⟩ := HC2.out wr W4.bl
        by_cases hjr : j < R
        · have hd2 : decide ((j : Int) < (R : Int)) = true := by simp; omega
          have hT := W4.tick
          rw [(one_tick _).1, (one_tick _).2] at hT
          have e1 : (⟨9, E, 1, 5, j⟩ : Wt).tells = [] := by unfold Wt.tells; rw [if_neg (by simp; omega)]
          have e2 : (⟨9, E, 1, 5, j⟩ : Wt).tick = ⟨9, E, 1, 5, j + 1⟩ := by unfold Wt.tick; rw [if_pos rfl, if_neg (by simp; omega)]
          rw [e1, e2] at hT
          clear W4 e1 e2
          go_wp2_with fail
          refine hT.mono ?_
          rintro e y ⟨ao2, cap2, rfl, _, W5, _⟩
          clear hT
          go_wp2_with fail
          go_roundw
          case rel => exact ⟨j + 1, by omega, rfl, W5⟩
          case measure => simp [intOf]; omega
        · obtain rfl : j = R := by omega
          have hd2 : decide ((j : Int) < (j : Int)) = false := by simp
          obtain ⟨X2, hX2⟩ : ∃ X, wr.alloc (.cells #[.int .u8 5] 5) = X := ⟨_, rfl⟩
          have W5 : Lw w p g v [⟨9, E, 1, 5, j⟩] X2 := by rw [← hX2]; exact W4.alloc _
          have hT := W5.take 9 (.slice (some ⟨wr.heap.size, 0, none⟩) 1 1) [5] (by rw [← hX2]; exact bytes_al wr 5)
          rw [(one_take ⟨9, E, 1, 5, j⟩ 5 (by decide)).1, (one_take ⟨9, E, 1, 5, j⟩ 5 (by decide)).2.1, (one_take ⟨9, E, 1, 5, j⟩ 5 (by decide)).2.2] at hT
          have e1 : (⟨9, E, 1, 5, j⟩ : Wt).beat (5 : UInt8).toNat = ⟨9, E, 1, 5, 0⟩ := rfl
          have e2 : (⟨9, E, 1, 5, j⟩ : Wt).says (5 : UInt8).toNat = [] := rfl
          rw [e1, e2] at hT
          clear W4 W5 e1 e2
          go_wp2_with fail
          refine hT.mono ?_
          rintro e y ⟨ao2, cap2, rfl, _, W5, _⟩
          clear hT hX2
          go_wp2_with fail
          go_roundw
          case rel => exact ⟨k + 1, by omega, rfl, W5⟩
          case measure => simp [intOf]; omega
    · obtain rfl : k = L := by omega
      have hd : decide ((k : Int) < (k : Int)) = false := by simp
      have hw3 : IntKind.u64.wrap ((E : Int) + 3) = ((E + 3 : Nat) : Int) := by simp [IntKind.wrap, IntKind.bits, IntKind.signed]; omega
      have HK := hidOf2 hk
      clear hk hkl HC hl hd
      go_wp2_with fail
      go_loopw [12] (fun s12 x => ∃ j, j ≤ E + 3 ∧ s12 = .int .u64 ((j + 1 : Nat) : Int) ∧ Lw w p g v [if j < E then ⟨9, E, 1, 5, j⟩ else ⟨9, E, 2, 5, E⟩] x) (fun s12 _ => E + 4 - (intOf s12).toNat)
      case atStart => exact ⟨0, by omega, rfl, by rw [if_pos (by omega)]; exact W3⟩
      case round =>
        clear W3
        obtain ⟨j, hj, rfl, W4⟩ := hrel
        by_cases hjr : j < E + 3
        · have hd2 : decide (((j + 1 : Nat) : Int) ≤ ((E + 3 : Nat) : Int)) = true := by simp; omega
          have hd2' : decide (((j : Nat) : Int) + 1 ≤ (E : Int) + 3) = true := by simp; omega
          have hd2'' : decide (j + 1 ≤ E + 3) = true := by simp; omega
          have hT := W4.tick
          rw [(one_tick _).1, (one_tick _).2] at hT
          have e2 : (if j < E then (⟨9, E, 1, 5, j⟩ : Wt) else ⟨9, E, 2, 5, E⟩).tick = if j + 1 < E then ⟨9, E, 1, 5, j + 1⟩ else ⟨9, E, 2, 5, E⟩ := by
            by_cases h1 : j < E
            · rw [if_pos h1]
              unfold Wt.tick
              rw [if_pos rfl]
              by_cases h2 : j + 1 = E
              · rw [if_pos h2, if_neg (by omega)]; simp [h2]
              · rw [if_neg h2, if_pos (by omega)]
            · rw [if_neg h1, if_neg (by omega)]; rfl
          have e1 : (if j < E then (⟨9, E, 1, 5, j⟩ : Wt) else ⟨9, E, 2, 5, E⟩).tells.length = if j + 1 = E then 1 else 0 := by
            by_cases h1 : j < E
            · rw [if_pos h1]
              unfold Wt.tells
              by_cases h2 : j + 1 = E
              · rw [if_pos ⟨rfl, h2⟩, if_pos h2]; rfl
              · rw [if_neg (by simp; exact h2), if_neg h2]; rfl
            · rw [if_neg h1, if_neg (by omega)]; rfl
          rw [e1, e2] at hT
          clear W4 e1 e2
          have hw4 : IntKind.u64.wrap (((j + 1 : Nat) : Int) + 1) = ((j + 1 + 1 : Nat) : Int) := by simp [IntKind.wrap, IntKind.bits, IntKind.signed]; omega
          obtain ⟨m, hm⟩ : ∃ m, j + 1 = m := ⟨_, rfl⟩
          rw [hm] at hT hd2 hw4 hd2'' ⊢
          have hm1 : m < E + 4 := by omega
          by_cases hme : m = E
          · have q1 : ((m : Int) == (E : Int)) = true := by simp [hme]
            have q2 : (m == E) = true := by simp [hme]
            rw [if_pos hme] at hT
            clear hme hd2'
            go_wp2_with fail
            refine hT.mono ?_
            rintro e y ⟨ao2, cap2, rfl, _, W5, _⟩
            clear hT
            go_wp2_with fail
            go_roundw
            case rel => exact ⟨m, by omega, by go_num, W5⟩
            case measure => simp [intOf]; omega
          · have q1 : ((m : Int) == (E : Int)) = false := by simp; omega
            have q2 : (m == E) = false := by simp [hme]
            rw [if_neg hme] at hT
            clear hme hd2'
            go_wp2_with fail
            refine hT.mono ?_
            rintro e y ⟨ao2, cap2, rfl, _, W5, _⟩
            clear hT
            go_wp2_with fail
            go_roundw
            case rel => exact ⟨m, by omega, by go_num, W5⟩
            case measure => simp [intOf]; omega
        · obtain rfl : j = E + 3 := by omega
          have hd2 : decide (((E + 3 + 1 : Nat) : Int) ≤ ((E + 3 : Nat) : Int)) = false := decide_eq_false (by omega)
          have hd2' : decide ((E : Int) + 3 + 1 ≤ (E : Int) + 3) = false := decide_eq_false (by omega)
          have hd2'' : decide (E + 3 + 1 ≤ E + 3) = false := decide_eq_false (by omega)
          have HB := hidOf2 W4.bl
          have hsz := W4.sz
          clear W4
          go_wp2_with (go_at_call 10; refine (HL _).mono ?_; rintro e w2 ⟨rfl, b2⟩)
          go_ret
          exact ⟨rfl, below_low HB.out b2 hsz⟩
theorem btim_walkI (a : Int) (ha : 0 ≤ a ∧ a < 256) (v : Value) (l : List UInt8) (hl : l.length ≤ 140737488351232) (w : World) (hB : Bytes w v l) :
    Calls Try.prog 5 #[.int .u8 a, v] w fun e w' => e = .returned (.bool true) ∧ Below w.heap.size w w' := by
  obtain ⟨n, rfl⟩ : ∃ n : Nat, a = n := ⟨a.toNat, by omega⟩
  exact btim_walk n (by omega) v l hl w hB
end Go.Proofs.Ytceomfefffngaaa
