/- same; the small living call of layer 18. -/
import Derived.Test.YtceomfefffngaaaBwG
namespace Go.Proofs.Ytceomfefffngaaa
open Go.RowKit
set_option linter.unusedVariables false
set_option maxRecDepth 1000000
set_option linter.unusedSimpArgs false
theorem neq_ne (a b c : Int) (w : World) : (binOp .neq 55 (.agg #[.int .i64 a, .int .i64 b, .int .i64 c]) (.agg #[.int .i64 a, .int .i64 b, .int .i64 c])).run Try.prog w = .ok (.bool false) w := by
  have hm : Try.prog.eqGuardType Try.prog.depth 55 = false := by kernel_rfl
  have q0 : ∀ k z, (Op.equalIn (k + 1) 3 (.int .i64 z) (.int .i64 z)).run Try.prog w = .ok true w := fun k z => by
    rw [run_equalIn_int w k 3 .i64 .i64 _ _ Try.underlying3]; simp
  have q1 := q0 9998 a
  have q2 := q0 9997 b
  have q3 := q0 9996 c
  simp [go_sem, run_eqGuard_agg w .neq 55 _ _ _ _ hm, run_neq_struct, q0, q1, q2, q3, run_underlying Try.underlying55]
set_option maxHeartbeats 1000000 in
theorem same_eq (va vb : Value) (l : List Ne) (w : World) (hA : Wide 3 Ne.cs w va l) (hB : Wide 3 Ne.cs w vb l) (hl : l.length ≤ 1000000) : Calls Try.prog 19 #[va, vb] w fun e w' => e = .returned (.bool true) ∧ Below w.heap.size w w' := by
  obtain ⟨aa, ca, rfl, _, ha⟩ := hA
  obtain ⟨ab, cb, rfl, _, hb⟩ := hB
  have HA : Hid (∀ (wr : World), Below w.heap.size w wr → ∀ k (hk : k < l.length), ∃ b off, aa = some ⟨b, off, none⟩ ∧ b < w.heap.size ∧ wr.rangeAt b (off + k * 3) (Ne.cs l[k])) := fun wr hb k hk => Wide.at ha hb k hk
  have HB : Hid (∀ (wr : World), Below w.heap.size w wr → ∀ k (hk : k < l.length), ∃ b off, ab = some ⟨b, off, none⟩ ∧ b < w.heap.size ∧ wr.rangeAt b (off + k * 3) (Ne.cs l[k])) := fun wr h k hk => Wide.at hb h k hk
  obtain ⟨p, hp⟩ : ∃ p, w.heap.size = p := ⟨_, rfl⟩
  rw [hp] at HA HB ⊢
  have HI : Hid (Below p w w) := Below.refl _ _
  clear ha hb
  obtain ⟨L, hL⟩ : ∃ L, l.length = L := ⟨_, rfl⟩
  have HL := hidOf2 hL
  rw [hL] at hl ⊢
  clear hL
  have dL : ((L : Int) != (L : Int)) = false := by simp
  go_enter Try.func19, Try.ntmps19
  go_wp2_with fail
  go_loopw [5] (fun s5 x => ∃ k, k ≤ L ∧ s5 = .int .i64 (k : Nat) ∧ Below p w x) (fun s5 _ => L - (intOf s5).toNat)
  case atStart => exact ⟨0, by omega, rfl, HI.out⟩
  case round =>
    clear HI
    obtain ⟨k, hk, rfl, hb⟩ := hrel
    have HBw := hidOf2 hb
    by_cases hkl : k < L
    · have hd : decide ((k : Int) < (L : Int)) = true := by simp; omega
      have hkL : k < l.length := by rw [HL.out]; exact hkl
      obtain ⟨ba, oa, rfl, _, hRa⟩ := HA.out wr hb k hkL
      obtain ⟨bb, ob, rfl, _, hRb⟩ := HB.out wr hb k hkL
      generalize l[k] = z at *
      have a0 : wr.cell? ⟨ba, oa + k * 3, none⟩ = some (.int .i64 z.nd) := hRa 0 _ rfl
      have a1 : wr.cell? ⟨ba, oa + k * 3 + 1, none⟩ = some (.int .i64 z.wh) := hRa 1 _ rfl
      have a2 : wr.cell? ⟨ba, oa + k * 3 + 2, none⟩ = some (.int .i64 z.st) := hRa 2 _ rfl
      have b0 : wr.cell? ⟨bb, ob + k * 3, none⟩ = some (.int .i64 z.nd) := hRb 0 _ rfl
      have b1 : wr.cell? ⟨bb, ob + k * 3 + 1, none⟩ = some (.int .i64 z.wh) := hRb 1 _ rfl
      have b2 : wr.cell? ⟨bb, ob + k * 3 + 2, none⟩ = some (.int .i64 z.st) := hRb 2 _ rfl
      have hq := neq_ne z.nd z.wh z.st
      obtain ⟨x, hx⟩ : ∃ x, oa + k * 3 = x := ⟨_, rfl⟩
      obtain ⟨y, hy⟩ : ∃ y, ob + k * 3 = y := ⟨_, rfl⟩
      rw [hx] at a0 a1 a2
      rw [hy] at b0 b1 b2
      clear hRa hRb HA HB hb
      go_wp2_with fail
      go_quiet (fail)
      go_wp2_with fail
      go_roundw
      case rel => exact ⟨k + 1, by omega, rfl, below_drawn HBw.out _⟩
      case measure => simp [intOf]; omega
    · obtain rfl : k = L := by omega
      have hd : decide ((k : Int) < (k : Int)) = false := by simp
      clear HA HB hb
      go_wp2
      go_ret
      exact ⟨rfl, HBw.out⟩
def DQ : Dec Wq := ⟨Wq.qs, 2, by decide, fun _ => rfl, fun a u hu => by simp [Wq.qs] at hu; rcases hu with rfl | rfl <;> rfl⟩
theorem wide_q (w : World) (q : Wq) : Wide 2 Wq.qs (w.alloc (.cells #[.int .i64 q.nd, .int .u64 q.tk] 59)) (.slice (some ⟨w.heap.size, 0, none⟩) 1 1) [q] := wide_new DQ w q 59
/-- A watcher of one node. -/
theorem one_ok (n : Int) (t : Nat) (h1 : 1 ≤ n) (h2 : n ≤ 127) (h3 : 1 ≤ t) (h4 : t ≤ 4294967296) : chkW [] [⟨n, t⟩] = 0 ∧ OkW [⟨n, t, 0, 0, 0⟩] := by
  have hb : Wq.bad ⟨n, t⟩ = false := by simp [Wq.bad]; omega
  refine ⟨by rw [chkW_cons, if_neg (by simp [hb]), if_neg (by simp)]; rfl, ?_⟩
  have := chkW_good (l := [⟨n, t⟩]) (by rw [chkW_cons, if_neg (by simp [hb]), if_neg (by simp)]; rfl)
  exact this
theorem bytes1 {w : World} {q : Nat} {x : UInt8} (hq : q < w.heap.size) (h : w.cell? ⟨q, 0, none⟩ = some (.int .u8 x.toNat)) : Bytes w (.slice (some ⟨q, 0, none⟩) 1 1) [x] := by
  refine ⟨_, 1, rfl, (fun h => by cases h), fun k hk => ⟨q, 0, rfl, hq, ?_⟩⟩
  have hk0 : k = 0 := by simp at hk; exact hk
  subst hk0
  exact h
theorem Two.gb {g : Nat} {w x : World} (t : Two g g w x) : w.grownBy x (some g) := ⟨t.os, t.tape, t.output, t.size, fun k hk hn => t.block k hk (fun e => hn (by rw [e])) (fun e => hn (by rw [e]))⟩
theorem below_of_grown {a w x : World} {B : Nat} {r : Option Nat} (h : Below B a w) (g : w.grownBy x r) (hB : B ≤ w.heap.size) (hr : ∀ j, r = some j → B ≤ j) : Below B a x := h.grown g hB hr
theorem below_low {a x y : World} {B : Nat} (h : Below B a x) (g : Below x.heap.size x y) (hB : B ≤ x.heap.size) : Below B a y := h.trans (g.mono hB)
set_option maxHeartbeats 1000000 in
theorem lives18_any (w : World) : Calls Try.prog 10 #[] w fun e w' => e = .returned (.bool true) ∧ Below w.heap.size w w' := by
  obtain ⟨g, hg⟩ : ∃ g, w.heap.size = g := ⟨_, rfl⟩
  have hN := hnew_ok (w := w) 1 (by decide)
  rw [hg] at hN ⊢
  go_enter Try.func10, Try.ntmps10
  go_wp2_with fail
  refine hN.mono ?_
  rintro e w1 ⟨rfl, H1, b1⟩
  have l1 := Bc.lt H1
  have hQ := wide_q w1 ⟨5, 1⟩
  obtain ⟨X1, hX1⟩ : ∃ X, w1.alloc (.cells #[.int .i64 5, .int .u64 1] 59) = X := ⟨_, rfl⟩
  have bX1 : Below w1.heap.size w1 X1 := by rw [← hX1]; exact (Below.refl _ _).alloc (Nat.le_refl _) _
  have hW := neww_any (.slice (some ⟨w1.heap.size, 0, none⟩) 1 1) [⟨5, 1⟩] X1 (by rw [← hX1]; exact hQ) (by decide)
  have H2 : Hs g 1 0 X1 := Bc.below H1 bX1
  have B2 : Below g w X1 := below_low b1 bX1 (by have := b1.size; omega)
  clear hN H1 b1 bX1 hQ
  go_wp2_with fail
  refine hW.mono ?_
  rintro e w2 ⟨r, rfl, hr, b2⟩
  obtain ⟨h0, hO⟩ := one_ok 5 1 (by decide) (by decide) (by decide) (by decide)
  unfold NwW at hr
  rw [if_pos h0] at hr
  obtain ⟨v, rfl, W2, hv⟩ := hr
  have lX := Bc.lt H2
  have H3 : Hs g 1 0 w2 := Bc.below H2 b2
  have B3 : Below g w w2 := below_low B2 b2 (by have := B2.size; omega)
  have W2' : Wa X1.heap.size v [⟨5, 1, 0, 0, 0⟩] w2 := W2
  obtain ⟨g2, hg2⟩ : ∃ g2, X1.heap.size = g2 := ⟨_, rfl⟩
  rw [hg2] at W2' hv lX
  have lg2 := W2'.blk.lt
  have hT := htick_any H3 (by decide) (by decide) 5
  clear hW W2 b2 hX1 H2 B2
  go_wp2_with fail
  refine hT.mono ?_
  rintro e w3 ⟨r, rfl, hr, H4, T4⟩
  obtain ⟨q, rfl, hq, hqs, cq⟩ := hr
  have W4 : Wa g2 v [⟨5, 1, 0, 0, 0⟩] w3 := W2'.grown T4.gb (by simp; omega) (fun k hk => by have := hv k hk; simp; omega)
  have hB := bytes1 (x := 5) hqs cq
  have hK := take_any W4 hO 5 _ [5] hB
  have B4 : Below g w w3 := below_of_grown B3 T4.gb (by have := B3.size; omega) (fun j hj => by simp at hj; omega)
  clear hT H3 H4 W2' T4 hq hqs cq hB B3
  go_wp2_with fail
  refine hK.mono ?_
  rintro e w4 ⟨r, rfl, nv, hr, N5, W5, G5⟩
  subst hr
  have B5 : Below g w w4 := below_of_grown B4 G5 (by have := B4.size; omega) (fun j hj => by have := hv j hj; omega)
  have e1 : okW [⟨5, 1, 0, 0, 0⟩] 5 [5] = true := by decide
  have e2 : saysW [⟨5, 1, 0, 0, 0⟩] 5 [5] = [⟨5, 1, 5⟩] := rfl
  have e3 : takeW [⟨5, 1, 0, 0, 0⟩] 5 [5] = [⟨5, 1, 1, 5, 0⟩] := rfl
  have hO5 := hO.take 5 [5]
  rw [e3] at W5 hO5
  rw [e2] at N5
  rw [e1]
  have hNn := wide_of_own DN N5
  obtain ⟨X2, hX2⟩ : ∃ X, w4.alloc (.cells #[.int .i64 5, .int .i64 1, .int .i64 5] 55) = X := ⟨_, rfl⟩
  have bX2 : Below w4.heap.size w4 X2 := by rw [← hX2]; exact (Below.refl _ _).alloc (Nat.le_refl _) _
  have hM : Wide 3 Ne.cs X2 (.slice (some ⟨w4.heap.size, 0, none⟩) 1 1) [⟨5, 1, 5⟩] := by rw [← hX2]; exact wide_ne w4 ⟨5, 1, 5⟩
  have W6 := W5.below bX2
  have B6 : Below g w X2 := below_low B5 bX2 (by have := B5.size; omega)
  have hSm := same_eq nv _ [⟨5, 1, 5⟩] X2 (wide_of_own DN (N5.below bX2)) hM (by decide)
  clear hK W4 B4 hO W5 N5 G5 hNn bX2 B5
  go_wp2_with fail
  refine hSm.mono ?_
  rintro e w5 ⟨rfl, b7⟩
  have W7 := W6.below b7
  have B7 : Below g w w5 := below_low B6 b7 (by have := B6.size; omega)
  have hTk := tick_any W7 hO5
  clear hSm hM W6 b7 B6 hX2
  go_wp2_with fail
  refine hTk.mono ?_
  rintro e w6 ⟨nv2, rfl, N8, W8, G8⟩
  have B8 : Below g w w6 := below_of_grown B7 G8 (by have := B7.size; omega) (fun j hj => by have := hv j hj; omega)
  have e4 : tellsW [⟨5, 1, 1, 5, 0⟩] = [⟨5, 3, 5⟩] := rfl
  rw [e4] at N8
  obtain ⟨X3, hX3⟩ : ∃ X, w6.alloc (.cells #[.int .i64 5, .int .i64 3, .int .i64 5] 55) = X := ⟨_, rfl⟩
  have bX3 : Below w6.heap.size w6 X3 := by rw [← hX3]; exact (Below.refl _ _).alloc (Nat.le_refl _) _
  have hM3 : Wide 3 Ne.cs X3 (.slice (some ⟨w6.heap.size, 0, none⟩) 1 1) [⟨5, 3, 5⟩] := by rw [← hX3]; exact wide_ne w6 ⟨5, 3, 5⟩
  have B9 : Below g w X3 := below_low B8 bX3 (by have := B8.size; omega)
  have hS3 := same_eq nv2 _ [⟨5, 3, 5⟩] X3 (wide_of_own DN (N8.below bX3)) hM3 (by decide)
  clear hTk W7 B7 N8 W8 G8 bX3 B8
  go_wp2_with fail
  refine hS3.mono ?_
  rintro e w7 ⟨rfl, b10⟩
  go_wp2_with fail
  go_ret
  exact ⟨rfl, below_low B9 b10 (by have := B9.size; omega)⟩
end Go.Proofs.Ytceomfefffngaaa
