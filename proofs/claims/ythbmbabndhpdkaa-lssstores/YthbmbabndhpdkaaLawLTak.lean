/- The law LssTakes returns true whatever address, number and acts come. -/
import Derived.Test.YthbmbabndhpdkaaLsP
namespace Go.Proofs.Ythbmbabndhpdkaa
open Go.RowKit
open Classical
set_option linter.unusedVariables false
set_option maxRecDepth 1000000
set_option linter.unusedSimpArgs false
theorem load_a4 {w : World} {q : Nat} {a : A4} (h : Bc 23 q a.arr w) : (loadVar 23 ⟨q, 0, none⟩).run Try.prog w = .ok (.agg a.arr) w :=
  run_loadVar_row w q 23 23 a.arr (0, 0) _ h Try.underlying23 rfl info_A4
/-- An address in a box. -/
theorem boxA (w : World) (a : A4) : ∃ X q, w.alloc (.cells a.arr 23) = X ∧ w.heap.size = q ∧ Bc 23 q a.arr X ∧ Below w.heap.size w X ∧ X.heap.size = q + 1 :=
  ⟨_, _, rfl, rfl, heap_alloc_new w _, (Below.refl _ _).alloc (Nat.le_refl _) _, by simp⟩
/-- What stands ahead of each act. -/
structure LI (g n B : Nat) (w x : World) (s : Ls) (d : Ld) : Prop where
  a : ∃ p, Sa g n p s x
  b : Da n d x
  below : Below B w x
  r : R s d
  ok : s.Ok
theorem ltak_bad (a : A4k) (id : Int) (h : ¬ (0 ≤ id ∧ id ≤ 127)) (v : Value) (w : World) : Calls Try.prog 3 #[.agg a.a.arr, .int .i64 id, v] w fun r w' => r = .returned (.bool true) ∧ Below w.heap.size w w' := by
  obtain ⟨X, q, hX, hq, bX, B0, sX⟩ := boxA w a.a
  have lX := load_a4 bX
  have hN := lnew_bad a.a id h X
  have HM : Hid (∀ y, Calls Try.prog 9 #[.agg a.a.arr, .int .i64 id] y fun e w' => e = .returned (.tuple #[.pointer none, .int .i64 1]) ∧ Below y.heap.size y w') := fun y => dnew_bad a.a id h y
  have HL : Hid (∀ y, Calls Try.prog 10 #[] y fun e w' => e = .returned (.bool true) ∧ Below y.heap.size y w') := fun y => lives19_any y
  have HB := hidOf2 bX
  have HB0 := hidOf2 B0
  clear bX B0 h
  go_enter Try.func3, Try.ntmps3
  go_wp2_with (refine ldG lX rfl _ rfl rfl ?_)
  refine hN.mono ?_
  rintro e w1 ⟨rfl, B1⟩
  have l1 := load_a4 (HB.out.below B1)
  go_wp2_with (refine ldG l1 rfl _ rfl rfl ?_)
  refine (HM.out w1).mono ?_
  rintro e w2 ⟨rfl, B2⟩
  go_wp2_with fail
  refine (HL.out w2).mono ?_
  rintro e w3 ⟨rfl, B3⟩
  go_wp2
  go_ret
  exact ⟨rfl, ((HB0.out.trans (B1.mono HB0.out.size)).trans (B2.mono (by have := HB0.out.size; have := B1.size; omega))).trans (B3.mono (by have := HB0.out.size; have := B1.size; have := B2.size; omega))⟩
set_option maxHeartbeats 8000000 in
theorem ltak_ok (a : A4k) (id : Int) (h : 0 ≤ id ∧ id ≤ 127) (v : Value) (l : List A19) (hl : l.length ≤ 140737488351232) (w : World) (hB : Wide 10 A19.c w v l) : Calls Try.prog 3 #[.agg a.a.arr, .int .i64 id, v] w fun r w' => r = .returned (.bool true) ∧ Below w.heap.size w w' := by
  obtain ⟨ao, cap, rfl, _, hc⟩ := hB
  obtain ⟨X, B, hX, hq, bX, B0, sX⟩ := boxA w a.a
  have HC : Hid (∀ (wr : World), Below B w wr → ∀ k (hk : k < l.length), ∃ b off, ao = some ⟨b, off, none⟩ ∧ b < w.heap.size ∧ wr.rangeAt b (off + k * 10) (A19.c l[k])) := fun wr hb k hk => Wide.at hc (by rw [hq]; exact hb) k hk
  have lX := load_a4 bX
  have hN := lnew_ok a.a id h X
  have HM : Hid (∀ y, Calls Try.prog 9 #[.agg a.a.arr, .int .i64 id] y fun e w' => e = .returned (.tuple #[.pointer (some ⟨y.heap.size + 1, 0, none⟩), .int .i64 0]) ∧ Da (y.heap.size + 1) (Ld.new a.a id) w' ∧ Below y.heap.size y w') := fun y => dnew_ok a.a id h y
  have HL : Hid (∀ y, Calls Try.prog 10 #[] y fun e w' => e = .returned (.bool true) ∧ Below y.heap.size y w') := fun y => lives19_any y
  have HO : Hid (∀ y, Calls Try.prog 13 #[.int .u8 17, .int .u32 16909060] y fun e w' => e = .returned (.agg (ordF 17 16909060).arr) ∧ Below y.heap.size y w') := fun y => lorder_any 17 16909060 y (by omega) (by omega)
  have HO2 : Hid (∀ y, Calls Try.prog 14 #[.int .u8 17, .int .u32 16909060] y fun e w' => e = .returned (.agg (ordF 17 16909060).arr) ∧ Below y.heap.size y w') := fun y => dorder_any 17 16909060 y (by omega) (by omega)
  generalize ordF 17 16909060 = F at *
  have o0 := Ls.new_ok a.ok h
  obtain ⟨g, hg⟩ : ∃ g, X.heap.size + 1 = g := ⟨_, rfl⟩
  rw [hg] at hN
  have hgB : Hid (g = B + 2 ∧ X.heap.size + 1 = g) := ⟨by omega, hg⟩
  clear hg
  have HB := hidOf2 bX
  have HB0 := hidOf2 B0
  rw [hq] at HB0
  clear bX B0 h hc
  rw [hq]
  go_enter Try.func3, Try.ntmps3
  go_wp2_with (refine ldG lX rfl _ rfl rfl ?_)
  refine hN.mono ?_
  rintro e w1 ⟨rfl, N1, B1⟩
  have l1 := load_a4 (HB.out.below B1)
  go_wp2_with (refine ldG l1 rfl _ rfl rfl ?_)
  have hM := HM.out w1
  obtain ⟨n, hn⟩ : ∃ n, w1.heap.size + 1 = n := ⟨_, rfl⟩
  rw [hn] at hM
  refine hM.mono ?_
  rintro e w2 ⟨rfl, D2, B2⟩
  have lg := (N1 (g + 1) (by omega)).lt
  have hgB1 := hgB.out.1
  have hgB2 := hgB.out.2
  have HK : Hid (B < g ∧ g < n ∧ B < n) := ⟨by omega, by omega, by omega⟩
  have HI : Hid (LI g n B w w2 (Ls.new a.a id) (Ld.new a.a id)) := ⟨⟨_, (N1 n (by omega)).below B2⟩, D2, (HB0.out.trans (B1.mono (by omega))).trans (B2.mono (by have := B1.size; omega)), R.new _ _, o0⟩
  clear N1 D2 B1 B2 hN hM l1 lX hX lg o0 hn HB HB0 HM sX hgB hgB1 hgB2
  go_wp2_with fail
  go_loopw [11] (fun s11 x => ∃ k s d, k ≤ l.length ∧ s11 = .int .i64 (k : Nat) ∧ LI g n B w x s d) (fun s11 _ => l.length - (intOf s11).toNat)
  case atStart => exact ⟨0, _, _, by omega, rfl, HI.out⟩
  case round =>
    clear HI
    obtain ⟨k, s, d, hk, rfl, ⟨⟨p, S5⟩, D5, B5, R5, O5⟩⟩ := hrel
    by_cases hkl : k < l.length
    · have hd : decide ((k : Int) < (l.length : Int)) = true := by simp; omega
      obtain ⟨b, off, rfl, hb, hR⟩ := HC.out wr B5 k hkl
      have lA := A19.load hR
      have K := HK.out
      have hD := does_any S5 O5 D5 (R5.ok O5) (by omega) l[k]
      obtain ⟨R6, e6⟩ := R5.act O5 l[k]
      rw [e6] at hD
      have O6 := O5.act l[k]
      have HT : Hid (∀ y p', Sa g n p' (s.act l[k]) y → Da n (d.act l[k]) y → Calls Try.prog 12 #[.pointer (some ⟨g, 0, none⟩), .pointer (some ⟨n, 0, none⟩)] y fun e w' => e = .returned (.bool true) ∧ ∃ m, w' = y.drewN m) := fun y p' h1 h2 => tells_any h1 h2 R6
      generalize s.act l[k] = s6 at *
      generalize d.act l[k] = d6 at *
      generalize l[k] = A at *
      clear hR S5 O5 D5 R5 e6
      go_wp2_with (refine ldG lA rfl _ rfl rfl ?_)
      refine hD.mono ?_
      rintro e w4 ⟨rfl, ⟨p4, S4⟩, D4, T4⟩
      have hT := HT.out w4 p4 S4 D4
      have HP : Hid (∀ m, LI g n B w (w4.drewN m) s6 d6) := fun m => ⟨⟨p4, S4.drawn m⟩, D4, (B5.trans (T4.below (by have := B5.size; omega) (by omega) (by omega))).trans (Two.below ((Two.refl B B w4).drawn m) (by have := B5.size; have := T4.size; omega) (Nat.le_refl _) (Nat.le_refl _)), R6, O6⟩
      clear S4 D4 T4 hD R6 O6 K B5
      go_wp2_with fail
      refine hT.mono ?_
      rintro e w5 ⟨rfl, m, rfl⟩
      go_wp2
      go_roundw
      case rel => exact ⟨k + 1, _, _, by omega, by go_num, HP.out _⟩
      case measure => simp [intOf]; omega
    · have hd : decide ((k : Int) < (l.length : Int)) = false := by simp; omega
      clear S5 D5 R5 O5
      go_wp2_with fail
      refine (HO.out wr).mono ?_
      rintro e w6 ⟨rfl, B6⟩
      go_wp2_with fail
      refine (HO2.out w6).mono ?_
      rintro e w7 ⟨rfl, B7⟩
      go_wp2_with (first | (refine eqF F F rfl _ _ rfl rfl rfl ?_; simp only [decide_true]))
      refine (HL.out w7).mono ?_
      rintro e w8 ⟨rfl, B8⟩
      go_wp2
      go_ret
      have s5 := B5.size
      have s6 := B6.size
      have s7 := B7.size
      exact ⟨rfl, ((B5.trans (B6.mono (by omega))).trans (B7.mono (by omega))).trans (B8.mono (by omega))⟩
theorem ltak_walk (a : A4k) (id : Int) (v : Value) (l : List A19) (hl : l.length ≤ 140737488351232) (w : World) (hB : Wide 10 A19.c w v l) : Calls Try.prog 3 #[.agg a.a.arr, .int .i64 id, v] w fun r w' => r = .returned (.bool true) ∧ Below w.heap.size w w' := by
  by_cases h : 0 ≤ id ∧ id ≤ 127
  · exact ltak_ok a id h v l hl w hB
  · exact ltak_bad a id h v w
end Go.Proofs.Ythbmbabndhpdkaa
