/- The law SyncTells returns true whatever comes in. -/
import Derived.Test.YtnmjeomhmmfgmaaLawYCnt
import Derived.Test.YtnmjeomhmmfgmaaLawYSto
import Derived.Test.YtnmjeomhmmfgmaaYaD
namespace Go.Proofs.Ytnmjeomhmmfgmaa
open Go.RowKit
set_option linter.unusedVariables false
set_option maxRecDepth 1000000

theorem Pd.new (w : World) (per ov : Nat) : Pd w.heap.size ⟨per, ov, false, 0, 0⟩ (w.alloc (.cells #[.int .u64 per, .int .i64 ov, .bool false, .int .u64 0, .int .i64 0] 32)) :=
  heap_alloc_new w (.cells #[.int .u64 per, .int .i64 ov, .bool false, .int .u64 0, .int .i64 0] 32)
set_option maxHeartbeats 2000000 in
theorem ytel_bad (per : Nat) (z : Int) (v : Value) (w : World) (h : ¬ (1 ≤ per ∧ per ≤ 4294967296 ∧ ovO z = true)) :
    Calls Try.prog 3 #[.int .u64 per, .int .i64 z, v] w fun e w' => e = .returned (.bool true) ∧ Below w.heap.size w w' := by
  have hP := newP_bad w per z h
  have hC := counts_any w z
  have HL := lives14_any w
  by_cases h1 : per < 1
  · have d1 : decide ((per : Int) < 1) = true := by simp; omega
    clear h
    go_enter Try.func3, Try.ntmps3
    go_wp2_with (first | (go_at_call 8; refine hP.mono ?_; rintro e w' ⟨rfl, rfl⟩) | (go_at_call 9; refine hC.mono ?_; rintro e w' ⟨rfl, rfl⟩) | (go_at_call 10; refine HL.mono ?_; rintro e w8 ⟨rfl, B8⟩))
    go_ret
    exact ⟨rfl, B8⟩
  · have d1 : decide ((per : Int) < 1) = false := by simp; omega
    by_cases h2 : 4294967296 < per
    · have d2 : decide ((4294967296 : Int) < per) = true := by simp; omega
      clear h
      go_enter Try.func3, Try.ntmps3
      go_wp2_with (first | (go_at_call 8; refine hP.mono ?_; rintro e w' ⟨rfl, rfl⟩) | (go_at_call 9; refine hC.mono ?_; rintro e w' ⟨rfl, rfl⟩) | (go_at_call 10; refine HL.mono ?_; rintro e w8 ⟨rfl, B8⟩))
      go_ret
      exact ⟨rfl, B8⟩
    · have d2 : decide ((4294967296 : Int) < per) = false := by simp; omega
      have h3 : ovO z = false := by
        cases h4 : ovO z
        · rfl
        · exact absurd ⟨by omega, by omega, h4⟩ h
      rw [h3] at hC
      clear h h3
      go_enter Try.func3, Try.ntmps3
      go_wp2_with (first | (go_at_call 8; refine hP.mono ?_; rintro e w' ⟨rfl, rfl⟩) | (go_at_call 9; refine hC.mono ?_; rintro e w' ⟨rfl, rfl⟩) | (go_at_call 10; refine HL.mono ?_; rintro e w8 ⟨rfl, B8⟩))
      go_ret
      exact ⟨rfl, B8⟩
/-- A call in a block of its own. -/
def Ax (p : Nat) (kd : Int) (n : Nat) (on : Bool) (w : World) : Prop := w.heap[p]? = some (.cells #[.int .i64 kd, .int .u64 n, .bool on] 34 (0, 0))
theorem Ax.cells {p : Nat} {kd : Int} {n : Nat} {on : Bool} {w : World} (h : Ax p kd n on w) : w.cell? ⟨p, 0, none⟩ = some (.int .i64 kd) ∧ w.cell? ⟨p, 1, none⟩ = some (.int .u64 n) ∧ w.cell? ⟨p, 2, none⟩ = some (.bool on) ∧ ∀ k, w.frozen? ⟨p, k, none⟩ = false :=
  ⟨Lib.cell_of_heap h 0, Lib.cell_of_heap h 1, Lib.cell_of_heap h 2, fun k => Lib.frozen_of_heap h k⟩
theorem Ax.lt {p : Nat} {kd : Int} {n : Nat} {on : Bool} {w : World} (h : Ax p kd n on w) : p < w.heap.size := (Array.getElem?_eq_some_iff.1 h).1
theorem Ax.set1 {p : Nat} {kd : Int} {n : Nat} {on : Bool} {w : World} (h : Ax p kd n on w) (m : Nat) : Ax p kd m on (w.setCell ⟨p, 1, none⟩ (.int .u64 m)) := by
  unfold Ax at *; simp [World.setCell, Array.getElem?_modify, h]
theorem Ax.two {p g h : Nat} {kd : Int} {n : Nat} {on : Bool} {w w' : World} (a : Ax p kd n on w) (t : Two g h w w') (h1 : p ≠ g) (h2 : p ≠ h) : Ax p kd n on w' := (t.block p a.lt h1 h2).trans a
theorem same_em {w : World} {B1 B2 : Nat} {v1 v2 : Value} {zs : List Int} (r1 : RowI B1 v1 zs w) (r2 : RowI B2 v2 zs w) (hb : zs.length < 4611686018427387904) :
    Calls Try.prog 11 #[v1, v2] w fun e w' => e = .returned (.bool true) ∧ Below w.heap.size w w' := by
  have := same_row r1 r2 rfl hb
  simpa using this
theorem Ps.tk_bound (s : Ps) (h : s.ok) (n : Nat) : (s.tk (min n 65536)).told ≤ s.told + min n 65536 := (s.tk_told _ h.2.2.2).1
theorem Ps.em_bound (s : Ps) (h : s.ok) (n : Nat) : (s.em (min n 65536)).length < 4611686018427387904 := by
  have := s.em_len (min n 65536) h.2.2.2
  omega
theorem Ps.start_per (s : Ps) (b : Bool) : (s.start b).per = s.per ∧ (s.start b).told ≤ s.told := by
  unfold Ps.start
  repeat' split
  all_goals simp
set_option maxHeartbeats 8000000 in
theorem ytel_ok (per ov : Nat) (v : Value) (l : List A14) (w : World) (h1 : 1 ≤ per) (h2 : per ≤ 4294967296) (ho : ovO ov = true) (hov : ov ≤ 240) (hl : l.length ≤ 140737488351232) (hB : Wide 3 A14.c w v l) :
    Calls Try.prog 3 #[.int .u64 per, .int .i64 ov, v] w fun e w' => e = .returned (.bool true) ∧ Below w.heap.size w w' := by
  obtain ⟨ao, cap, rfl, _, hc⟩ := hB
  have HC : Hid (∀ (wr : World), Below w.heap.size w wr → ∀ k (hk : k < l.length), ∃ b off, ao = some ⟨b, off, none⟩ ∧ b < w.heap.size ∧ wr.rangeAt b (off + k * 3) (A14.c l[k])) := fun wr hb k hk => Wide.at hc hb k hk
  have hP := newP_ok w per ov h1 h2 ho
  have ok0 : (⟨per, ov, false, 0, 0⟩ : Ps).ok := ⟨h1, h2, hov, by simp only; omega⟩
  have d1 : decide ((per : Int) < 1) = false := by simp; omega
  have d2 : decide ((4294967296 : Int) < per) = false := by simp; omega
  clear hc
  go_enter Try.func3, Try.ntmps3
  go_wp2_with fail
  refine hP.mono ?_
  rintro e w1 ⟨rfl, hw1⟩
  have P1 := Pa.new w per ov
  have b1 : Below w.heap.size w w1 := by rw [hw1]; exact (Below.refl _ _).alloc (Nat.le_refl _) _
  rw [← hw1] at P1
  clear hP hw1
  generalize hg : w.heap.size = g at *
  have hC := counts_any w1 ov
  rw [ho] at hC
  have hlt := P1.lt
  have P2 := P1.alloc (.cells #[.int .u64 per, .int .i64 ov, .bool false, .int .u64 0, .int .i64 0] 32)
  have D2 := Pd.new w1 per ov
  have b2 : Below g w (w1.alloc (.cells #[.int .u64 per, .int .i64 ov, .bool false, .int .u64 0, .int .i64 0] 32)) := b1.alloc (by have := b1.size; omega) _
  generalize hq : w1.heap.size = q at *
  have HI : Hid (∃ s : Ps, s.ok ∧ s.per = per ∧ s.told ≤ 65536 * min 0 4 + 300 * 0 ∧ Pa g s (w1.alloc (.cells #[.int .u64 per, .int .i64 ov, .bool false, .int .u64 0, .int .i64 0] 32)) ∧ Pd q s (w1.alloc (.cells #[.int .u64 per, .int .i64 ov, .bool false, .int .u64 0, .int .i64 0] 32))) := ⟨_, ok0, rfl, by simp, P2, D2⟩
  clear P1 b1 P2 D2 ok0
  go_wp2_with (go_at_call 9; refine hC.mono ?_; rintro e w' ⟨rfl, rfl⟩)
  generalize w'.alloc (.cells #[.int .u64 per, .int .i64 ov, .bool false, .int .u64 0, .int .i64 0] 32) = w2 at *
  clear hC hq
  go_loopw [10, 11] (fun gv i x => ∃ k gr : Nat, k ≤ l.length ∧ gr ≤ k ∧ gv = .int .i64 gr ∧ i = .int .i64 k ∧ (∃ s : Ps, s.ok ∧ s.per = per ∧ s.told ≤ 65536 * min gr 4 + 300 * k ∧ Pa g s x ∧ Pd q s x) ∧ Below g w x) (fun _ i _ => l.length - (intOf i).toNat)
  case atStart => exact ⟨0, 0, by omega, by omega, rfl, rfl, HI.out, b2⟩
  case round =>
    clear HI b2
    obtain ⟨k, gr, hk, hgr, rfl, rfl, ⟨s, hok, hper, htd, C1, D1⟩, B1⟩ := hrel
    by_cases hkl : k < l.length
    · have hd : decide ((k : Int) < (l.length : Int)) = true := by simp; omega
      obtain ⟨b, off, rfl, hb, hR⟩ := HC.out wr B1 k hkl
      have hbn := l[k].h_n
      have hbk := l[k].h_kind
      generalize l[k] = a at *
      go_upto_region 11 with fail
      go_upto_region 12 with (first | (refine A14.ld hR rfl _ rfl rfl ?_; unfold A14.arr))
      have AX0 : Ax wr.heap.size a.kind a.n a.on (wr.alloc (.cells #[.int .i64 a.kind, .int .u64 a.n, .bool a.on] 34)) := heap_alloc_new wr _
      have C2 := C1.alloc (.cells #[.int .i64 a.kind, .int .u64 a.n, .bool a.on] 34)
      have D2 := D1.alloc (.cells #[.int .i64 a.kind, .int .u64 a.n, .bool a.on] 34)
      have B2 : Below g w (wr.alloc (.cells #[.int .i64 a.kind, .int .u64 a.n, .bool a.on] 34)) := B1.alloc (by have := B1.size; omega) _
      have hqp : q < wr.heap.size := D1.lt
      have hpX : wr.heap.size < (wr.alloc (.cells #[.int .i64 a.kind, .int .u64 a.n, .bool a.on] 34)).heap.size := by simp
      generalize wr.alloc (.cells #[.int .i64 a.kind, .int .u64 a.n, .bool a.on] 34) = X at *
      generalize wr.heap.size = p at *
      have AX := AX0
      clear AX0 C1 D1 B1 hR
      by_cases hn3 : a.n ≤ 300
      · have d3 : decide ((300 : Int) < (a.n : Int)) = false := by simp; omega
        have HTB : Hid (s.told + min a.n 65536 ≤ 65536 * min (gr) 4 + 300 * (k + 1)) := by show _ ≤ _; omega
        as_aux_lemma =>

          obtain ⟨a0, a1, a2, af⟩ := AX.cells
          go_upto_region 16 with fail
          obtain ⟨a0, a1, a2, af⟩ := AX.cells
          by_cases hk0 : a.kind = 0
          · have e0 : (a.kind == 0) = true := by simp [hk0]
            have HA : Hid (∀ w1, Two g g X w1 → w1.cell? ⟨p, 1, none⟩ = some (.int .u64 (a.n : Nat))) := fun w1 T2 => (AX.two T2 (by omega) (by omega)).cells.2.1
            have HD1 : Hid (∀ w1, Two g g X w1 → Pd q s w1) := fun w1 T2 => D2.two T2 (by omega) (by omega)
            have HEB := s.em_bound hok (a.n)
            have HB2 : Hid (Below g w X) := B2
            have htl : s.told < 4611686018427387904 := by have := HTB.out; omega
            have HR : Hid (∀ w1 w2 v1, RowI X.heap.size v1 (s.em (min (a.n) 65536)) w1 → Two q q w1 w2 → RowI X.heap.size v1 (s.em (min (a.n) 65536)) w2) := fun w1 w2 v1 r t => r.two t (by omega)
            have hsm := fun (v1 v2 : Value) (B2 : Nat) (y : World) (r1 : RowI X.heap.size v1 (s.em (min (a.n) 65536)) y) (r2 : RowI B2 v2 (s.em (min (a.n) 65536)) y) => same_em r1 r2 HEB
            have HSM : Hid (∀ (v1 v2 : Value) (B2 : Nat) (y : World) (r1 : RowI X.heap.size v1 (s.em (min (a.n) 65536)) y) (r2 : RowI B2 v2 (s.em (min (a.n) 65536)) y), Calls Try.prog 11 #[v1, v2] y fun e w' => e = .returned (.bool true) ∧ Below y.heap.size y w') := hsm
            have okt := Ps.ok_tk hok (min (a.n) 65536)
            have HPT : Hid ((s.tk (min (a.n) 65536)).per = per) := (s.tk_per _).1.trans hper
            have HTD : Hid ((s.tk (min (a.n) 65536)).told ≤ 65536 * min (gr) 4 + 300 * (k + 1)) := Nat.le_trans (s.tk_bound hok (a.n)) HTB.out
            clear hk0 hsm B2 AX HEB
            go_upto_region 18 with fail
            go_region_with (first | (go_at_call 12; refine (tick_any hok (by exact C2) (a.n)).mono ?_; rintro e w1 ⟨v1, rfl, r1, U2, T2⟩; have T2' : Two g g X w1 := ⟨T2.os, T2.tape, T2.output, T2.size, T2.block⟩; have c1 := HA.out w1 T2'; have D3 := HD1.out w1 T2'; clear T2) | (go_at_call 13; refine (dtick_any hok (by assumption) (a.n) htl).mono ?_; rintro e w2 ⟨v2, rfl, r2, D4, T4⟩; have T4' : Two q q w1 w2 := ⟨T4.os, T4.tape, T4.output, T4.size, T4.block⟩; have r3 := HR.out w1 w2 _ r1 T4'; clear T4) | (go_at_call 11; refine (HSM.out _ _ _ _ (by exact r3) (by exact r2)).mono ?_; rintro e wz ⟨rfl, B5⟩))
            all_goals
              have B5' : Below w2.heap.size w2 wz := ⟨B5.os, B5.tape, B5.output, B5.size, B5.block⟩
              have CZ := (U2.two T4' (by omega) (by omega)).below B5'
              have DZ := D4.below B5'
              have b9 : Below g w w2 := (HB2.out.trans (T2'.below (by have := HB2.out.size; omega) (Nat.le_refl _) (Nat.le_refl _))).trans (T4'.below (by have := HB2.out.size; have := T2'.size; omega) (by omega) (by omega))
              have BZ : Below g w wz := b9.trans (B5'.mono (by have := b9.size; omega))
              clear U2 T2' T4' D3 D4 HA HD1 HB2 r1 r2 r3 HR HSM B5 B5' b9 C2 D2 c1
              generalize s.tk (min (a.n) 65536) = t at *

              have hN := next_any okt CZ
              have HZ : Hid (∃ t : Ps, t.ok ∧ t.per = per ∧ t.told ≤ 65536 * min (gr) 4 + 300 * (k + 1) ∧ Pa g t wz ∧ Pd q t wz ∧ Below g w wz) := ⟨t, okt, HPT.out, HTD.out, CZ, DZ, BZ⟩
              obtain ⟨y1, y2, y3, y4⟩ := okt
              have y2' := HPT.out
              cases hon : t.on
              · have hle : t.left = 0 := by simp [Ps.left, hon]
                rw [hle, hon] at hN
                clear CZ BZ
                go_wp2_with fail
                refine hN.mono ?_
                rintro e w9 ⟨rfl, n9, rfl⟩
                have D9 := DZ.drawn n9
                obtain ⟨x0, x1, x2, x3, x4, _⟩ := D9.cells
                rw [hon] at x2
                clear D9 DZ hN
                go_wp2_with fail
                go_roundw
                case rel =>
                  obtain ⟨t2, z1, z2, z3, z4, z5, z6⟩ := HZ.out
                  exact ⟨k + 1, gr, by omega, by omega, by go_num, by go_num, ⟨t2, z1, z2, z3, z4.drawn _, z5.drawn _⟩, below_drawn z6 _⟩
                case measure => simp [intOf]; omega
              · have hle : (t.left : Int) = (per : Int) - (t.went : Int) := by simp [Ps.left, hon]; omega
                rw [hle, hon] at hN
                clear CZ BZ
                go_wp2_with fail
                refine hN.mono ?_
                rintro e w9 ⟨rfl, n9, rfl⟩
                have D9 := DZ.drawn n9
                obtain ⟨x0, x1, x2, x3, x4, _⟩ := D9.cells
                rw [hon] at x2
                have hwl : t.went < per := by omega
                clear D9 DZ hN y4 hle
                generalize t.went = tw at *
                have s1 : (((per : Int) - (tw : Int)) != ((per : Int) - (tw : Int))) = false := by simp
                go_wp2_with fail
                go_roundw
                case rel =>
                  obtain ⟨t2, z1, z2, z3, z4, z5, z6⟩ := HZ.out
                  exact ⟨k + 1, gr, by omega, by omega, by go_num, by go_num, ⟨t2, z1, z2, z3, z4.drawn _, z5.drawn _⟩, below_drawn z6 _⟩
                case measure => simp [intOf]; omega
          · have e0 : (a.kind == 0) = false := by simp [hk0]
            by_cases hk1 : a.kind = 1
            · have e1 : (a.kind == 1) = true := by simp [hk1]
              have okt := Ps.ok_start hok a.on
              have HPT : Hid ((s.start a.on).per = per) := (s.start_per _).1.trans hper
              have HTD : Hid ((s.start a.on).told ≤ 65536 * min (gr) 4 + 300 * (k + 1)) := Nat.le_trans (s.start_per a.on).2 (by have := HTB.out; omega)
              have hS := start_any hok C2 a.on
              have HA : Hid (∀ w1, Two g g X w1 → w1.cell? ⟨p, 2, none⟩ = some (.bool a.on)) := fun w1 T2 => (AX.two T2 (by omega) (by omega)).cells.2.2.1
              clear hk0 hk1 AX
              go_wp2_with fail
              refine hS.mono ?_
              rintro e w3 ⟨rfl, C3, T3⟩
              have D3 := D2.two T3 (by omega) (by omega)
              have B3 : Below g w w3 := B2.trans (T3.below (by have := B2.size; omega) (Nat.le_refl _) (Nat.le_refl _))
              have c3 := HA.out w3 T3
              have hS2 := dstart_any D3 a.on
              clear hS C2 D2 B2 T3 HA
              go_wp2_with fail
              refine hS2.mono ?_
              rintro e wz ⟨rfl, DZ, T4⟩
              have CZ := C3.two T4 (by omega) (by omega)
              have BZ : Below g w wz := B3.trans (T4.below (by have := B3.size; omega) (by omega) (by omega))
              clear hS2 C3 D3 B3 T4 c3
              generalize s.start a.on = t at *

              have hN := next_any okt CZ
              have HZ : Hid (∃ t : Ps, t.ok ∧ t.per = per ∧ t.told ≤ 65536 * min (gr) 4 + 300 * (k + 1) ∧ Pa g t wz ∧ Pd q t wz ∧ Below g w wz) := ⟨t, okt, HPT.out, HTD.out, CZ, DZ, BZ⟩
              obtain ⟨y1, y2, y3, y4⟩ := okt
              have y2' := HPT.out
              cases hon : t.on
              · have hle : t.left = 0 := by simp [Ps.left, hon]
                rw [hle, hon] at hN
                clear CZ BZ
                go_wp2_with fail
                refine hN.mono ?_
                rintro e w9 ⟨rfl, n9, rfl⟩
                have D9 := DZ.drawn n9
                obtain ⟨x0, x1, x2, x3, x4, _⟩ := D9.cells
                rw [hon] at x2
                clear D9 DZ hN
                go_wp2_with fail
                go_roundw
                case rel =>
                  obtain ⟨t2, z1, z2, z3, z4, z5, z6⟩ := HZ.out
                  exact ⟨k + 1, gr, by omega, by omega, by go_num, by go_num, ⟨t2, z1, z2, z3, z4.drawn _, z5.drawn _⟩, below_drawn z6 _⟩
                case measure => simp [intOf]; omega
              · have hle : (t.left : Int) = (per : Int) - (t.went : Int) := by simp [Ps.left, hon]; omega
                rw [hle, hon] at hN
                clear CZ BZ
                go_wp2_with fail
                refine hN.mono ?_
                rintro e w9 ⟨rfl, n9, rfl⟩
                have D9 := DZ.drawn n9
                obtain ⟨x0, x1, x2, x3, x4, _⟩ := D9.cells
                rw [hon] at x2
                have hwl : t.went < per := by omega
                clear D9 DZ hN y4 hle
                generalize t.went = tw at *
                have s1 : (((per : Int) - (tw : Int)) != ((per : Int) - (tw : Int))) = false := by simp
                go_wp2_with fail
                go_roundw
                case rel =>
                  obtain ⟨t2, z1, z2, z3, z4, z5, z6⟩ := HZ.out
                  exact ⟨k + 1, gr, by omega, by omega, by go_num, by go_num, ⟨t2, z1, z2, z3, z4.drawn _, z5.drawn _⟩, below_drawn z6 _⟩
                case measure => simp [intOf]; omega
            · have e1 : (a.kind == 1) = false := by simp [hk1]
              have HTD : Hid (s.told ≤ 65536 * min (gr) 4 + 300 * (k + 1)) := Nat.le_trans (Nat.le_add_right _ _) HTB.out
              have HPT : Hid (s.per = per) := hper
              have okt := hok
              have CZ := C2
              have DZ := D2
              have BZ := B2
              clear hk0 hk1 AX C2 D2 B2 hper
              generalize X = wz at *
              generalize s = t at *

              have hN := next_any okt CZ
              have HZ : Hid (∃ t : Ps, t.ok ∧ t.per = per ∧ t.told ≤ 65536 * min (gr) 4 + 300 * (k + 1) ∧ Pa g t wz ∧ Pd q t wz ∧ Below g w wz) := ⟨t, okt, HPT.out, HTD.out, CZ, DZ, BZ⟩
              obtain ⟨y1, y2, y3, y4⟩ := okt
              have y2' := HPT.out
              cases hon : t.on
              · have hle : t.left = 0 := by simp [Ps.left, hon]
                rw [hle, hon] at hN
                clear CZ BZ
                go_wp2_with fail
                refine hN.mono ?_
                rintro e w9 ⟨rfl, n9, rfl⟩
                have D9 := DZ.drawn n9
                obtain ⟨x0, x1, x2, x3, x4, _⟩ := D9.cells
                rw [hon] at x2
                clear D9 DZ hN
                go_wp2_with fail
                go_roundw
                case rel =>
                  obtain ⟨t2, z1, z2, z3, z4, z5, z6⟩ := HZ.out
                  exact ⟨k + 1, gr, by omega, by omega, by go_num, by go_num, ⟨t2, z1, z2, z3, z4.drawn _, z5.drawn _⟩, below_drawn z6 _⟩
                case measure => simp [intOf]; omega
              · have hle : (t.left : Int) = (per : Int) - (t.went : Int) := by simp [Ps.left, hon]; omega
                rw [hle, hon] at hN
                clear CZ BZ
                go_wp2_with fail
                refine hN.mono ?_
                rintro e w9 ⟨rfl, n9, rfl⟩
                have D9 := DZ.drawn n9
                obtain ⟨x0, x1, x2, x3, x4, _⟩ := D9.cells
                rw [hon] at x2
                have hwl : t.went < per := by omega
                clear D9 DZ hN y4 hle
                generalize t.went = tw at *
                have s1 : (((per : Int) - (tw : Int)) != ((per : Int) - (tw : Int))) = false := by simp
                go_wp2_with fail
                go_roundw
                case rel =>
                  obtain ⟨t2, z1, z2, z3, z4, z5, z6⟩ := HZ.out
                  exact ⟨k + 1, gr, by omega, by omega, by go_num, by go_num, ⟨t2, z1, z2, z3, z4.drawn _, z5.drawn _⟩, below_drawn z6 _⟩
                case measure => simp [intOf]; omega
      · have d3 : decide ((300 : Int) < (a.n : Int)) = true := by simp; omega
        by_cases hg4 : gr < 4
        · have d4 : decide ((4 : Int) < (gr : Int) + 1) = false := by simp; omega
          have HTB : Hid (s.told + min a.n 65536 ≤ 65536 * min (gr + 1) 4 + 300 * (k + 1)) := by show _ ≤ _; omega
          as_aux_lemma =>

            obtain ⟨a0, a1, a2, af⟩ := AX.cells
            go_upto_region 16 with fail
            obtain ⟨a0, a1, a2, af⟩ := AX.cells
            by_cases hk0 : a.kind = 0
            · have e0 : (a.kind == 0) = true := by simp [hk0]
              have HA : Hid (∀ w1, Two g g X w1 → w1.cell? ⟨p, 1, none⟩ = some (.int .u64 (a.n : Nat))) := fun w1 T2 => (AX.two T2 (by omega) (by omega)).cells.2.1
              have HD1 : Hid (∀ w1, Two g g X w1 → Pd q s w1) := fun w1 T2 => D2.two T2 (by omega) (by omega)
              have HEB := s.em_bound hok (a.n)
              have HB2 : Hid (Below g w X) := B2
              have htl : s.told < 4611686018427387904 := by have := HTB.out; omega
              have HR : Hid (∀ w1 w2 v1, RowI X.heap.size v1 (s.em (min (a.n) 65536)) w1 → Two q q w1 w2 → RowI X.heap.size v1 (s.em (min (a.n) 65536)) w2) := fun w1 w2 v1 r t => r.two t (by omega)
              have hsm := fun (v1 v2 : Value) (B2 : Nat) (y : World) (r1 : RowI X.heap.size v1 (s.em (min (a.n) 65536)) y) (r2 : RowI B2 v2 (s.em (min (a.n) 65536)) y) => same_em r1 r2 HEB
              have HSM : Hid (∀ (v1 v2 : Value) (B2 : Nat) (y : World) (r1 : RowI X.heap.size v1 (s.em (min (a.n) 65536)) y) (r2 : RowI B2 v2 (s.em (min (a.n) 65536)) y), Calls Try.prog 11 #[v1, v2] y fun e w' => e = .returned (.bool true) ∧ Below y.heap.size y w') := hsm
              have okt := Ps.ok_tk hok (min (a.n) 65536)
              have HPT : Hid ((s.tk (min (a.n) 65536)).per = per) := (s.tk_per _).1.trans hper
              have HTD : Hid ((s.tk (min (a.n) 65536)).told ≤ 65536 * min (gr + 1) 4 + 300 * (k + 1)) := Nat.le_trans (s.tk_bound hok (a.n)) HTB.out
              clear hk0 hsm B2 AX HEB
              go_upto_region 18 with fail
              go_region_with (first | (go_at_call 12; refine (tick_any hok (by exact C2) (a.n)).mono ?_; rintro e w1 ⟨v1, rfl, r1, U2, T2⟩; have T2' : Two g g X w1 := ⟨T2.os, T2.tape, T2.output, T2.size, T2.block⟩; have c1 := HA.out w1 T2'; have D3 := HD1.out w1 T2'; clear T2) | (go_at_call 13; refine (dtick_any hok (by assumption) (a.n) htl).mono ?_; rintro e w2 ⟨v2, rfl, r2, D4, T4⟩; have T4' : Two q q w1 w2 := ⟨T4.os, T4.tape, T4.output, T4.size, T4.block⟩; have r3 := HR.out w1 w2 _ r1 T4'; clear T4) | (go_at_call 11; refine (HSM.out _ _ _ _ (by exact r3) (by exact r2)).mono ?_; rintro e wz ⟨rfl, B5⟩))
              all_goals
                have B5' : Below w2.heap.size w2 wz := ⟨B5.os, B5.tape, B5.output, B5.size, B5.block⟩
                have CZ := (U2.two T4' (by omega) (by omega)).below B5'
                have DZ := D4.below B5'
                have b9 : Below g w w2 := (HB2.out.trans (T2'.below (by have := HB2.out.size; omega) (Nat.le_refl _) (Nat.le_refl _))).trans (T4'.below (by have := HB2.out.size; have := T2'.size; omega) (by omega) (by omega))
                have BZ : Below g w wz := b9.trans (B5'.mono (by have := b9.size; omega))
                clear U2 T2' T4' D3 D4 HA HD1 HB2 r1 r2 r3 HR HSM B5 B5' b9 C2 D2 c1
                generalize s.tk (min (a.n) 65536) = t at *

                have hN := next_any okt CZ
                have HZ : Hid (∃ t : Ps, t.ok ∧ t.per = per ∧ t.told ≤ 65536 * min (gr + 1) 4 + 300 * (k + 1) ∧ Pa g t wz ∧ Pd q t wz ∧ Below g w wz) := ⟨t, okt, HPT.out, HTD.out, CZ, DZ, BZ⟩
                obtain ⟨y1, y2, y3, y4⟩ := okt
                have y2' := HPT.out
                cases hon : t.on
                · have hle : t.left = 0 := by simp [Ps.left, hon]
                  rw [hle, hon] at hN
                  clear CZ BZ
                  go_wp2_with fail
                  refine hN.mono ?_
                  rintro e w9 ⟨rfl, n9, rfl⟩
                  have D9 := DZ.drawn n9
                  obtain ⟨x0, x1, x2, x3, x4, _⟩ := D9.cells
                  rw [hon] at x2
                  clear D9 DZ hN
                  go_wp2_with fail
                  go_roundw
                  case rel =>
                    obtain ⟨t2, z1, z2, z3, z4, z5, z6⟩ := HZ.out
                    exact ⟨k + 1, gr + 1, by omega, by omega, by go_num, by go_num, ⟨t2, z1, z2, z3, z4.drawn _, z5.drawn _⟩, below_drawn z6 _⟩
                  case measure => simp [intOf]; omega
                · have hle : (t.left : Int) = (per : Int) - (t.went : Int) := by simp [Ps.left, hon]; omega
                  rw [hle, hon] at hN
                  clear CZ BZ
                  go_wp2_with fail
                  refine hN.mono ?_
                  rintro e w9 ⟨rfl, n9, rfl⟩
                  have D9 := DZ.drawn n9
                  obtain ⟨x0, x1, x2, x3, x4, _⟩ := D9.cells
                  rw [hon] at x2
                  have hwl : t.went < per := by omega
                  clear D9 DZ hN y4 hle
                  generalize t.went = tw at *
                  have s1 : (((per : Int) - (tw : Int)) != ((per : Int) - (tw : Int))) = false := by simp
                  go_wp2_with fail
                  go_roundw
                  case rel =>
                    obtain ⟨t2, z1, z2, z3, z4, z5, z6⟩ := HZ.out
                    exact ⟨k + 1, gr + 1, by omega, by omega, by go_num, by go_num, ⟨t2, z1, z2, z3, z4.drawn _, z5.drawn _⟩, below_drawn z6 _⟩
                  case measure => simp [intOf]; omega
            · have e0 : (a.kind == 0) = false := by simp [hk0]
              by_cases hk1 : a.kind = 1
              · have e1 : (a.kind == 1) = true := by simp [hk1]
                have okt := Ps.ok_start hok a.on
                have HPT : Hid ((s.start a.on).per = per) := (s.start_per _).1.trans hper
                have HTD : Hid ((s.start a.on).told ≤ 65536 * min (gr + 1) 4 + 300 * (k + 1)) := Nat.le_trans (s.start_per a.on).2 (by have := HTB.out; omega)
                have hS := start_any hok C2 a.on
                have HA : Hid (∀ w1, Two g g X w1 → w1.cell? ⟨p, 2, none⟩ = some (.bool a.on)) := fun w1 T2 => (AX.two T2 (by omega) (by omega)).cells.2.2.1
                clear hk0 hk1 AX
                go_wp2_with fail
                refine hS.mono ?_
                rintro e w3 ⟨rfl, C3, T3⟩
                have D3 := D2.two T3 (by omega) (by omega)
                have B3 : Below g w w3 := B2.trans (T3.below (by have := B2.size; omega) (Nat.le_refl _) (Nat.le_refl _))
                have c3 := HA.out w3 T3
                have hS2 := dstart_any D3 a.on
                clear hS C2 D2 B2 T3 HA
                go_wp2_with fail
                refine hS2.mono ?_
                rintro e wz ⟨rfl, DZ, T4⟩
                have CZ := C3.two T4 (by omega) (by omega)
                have BZ : Below g w wz := B3.trans (T4.below (by have := B3.size; omega) (by omega) (by omega))
                clear hS2 C3 D3 B3 T4 c3
                generalize s.start a.on = t at *

                have hN := next_any okt CZ
                have HZ : Hid (∃ t : Ps, t.ok ∧ t.per = per ∧ t.told ≤ 65536 * min (gr + 1) 4 + 300 * (k + 1) ∧ Pa g t wz ∧ Pd q t wz ∧ Below g w wz) := ⟨t, okt, HPT.out, HTD.out, CZ, DZ, BZ⟩
                obtain ⟨y1, y2, y3, y4⟩ := okt
                have y2' := HPT.out
                cases hon : t.on
                · have hle : t.left = 0 := by simp [Ps.left, hon]
                  rw [hle, hon] at hN
                  clear CZ BZ
                  go_wp2_with fail
                  refine hN.mono ?_
                  rintro e w9 ⟨rfl, n9, rfl⟩
                  have D9 := DZ.drawn n9
                  obtain ⟨x0, x1, x2, x3, x4, _⟩ := D9.cells
                  rw [hon] at x2
                  clear D9 DZ hN
                  go_wp2_with fail
                  go_roundw
                  case rel =>
                    obtain ⟨t2, z1, z2, z3, z4, z5, z6⟩ := HZ.out
                    exact ⟨k + 1, gr + 1, by omega, by omega, by go_num, by go_num, ⟨t2, z1, z2, z3, z4.drawn _, z5.drawn _⟩, below_drawn z6 _⟩
                  case measure => simp [intOf]; omega
                · have hle : (t.left : Int) = (per : Int) - (t.went : Int) := by simp [Ps.left, hon]; omega
                  rw [hle, hon] at hN
                  clear CZ BZ
                  go_wp2_with fail
                  refine hN.mono ?_
                  rintro e w9 ⟨rfl, n9, rfl⟩
                  have D9 := DZ.drawn n9
                  obtain ⟨x0, x1, x2, x3, x4, _⟩ := D9.cells
                  rw [hon] at x2
                  have hwl : t.went < per := by omega
                  clear D9 DZ hN y4 hle
                  generalize t.went = tw at *
                  have s1 : (((per : Int) - (tw : Int)) != ((per : Int) - (tw : Int))) = false := by simp
                  go_wp2_with fail
                  go_roundw
                  case rel =>
                    obtain ⟨t2, z1, z2, z3, z4, z5, z6⟩ := HZ.out
                    exact ⟨k + 1, gr + 1, by omega, by omega, by go_num, by go_num, ⟨t2, z1, z2, z3, z4.drawn _, z5.drawn _⟩, below_drawn z6 _⟩
                  case measure => simp [intOf]; omega
              · have e1 : (a.kind == 1) = false := by simp [hk1]
                have HTD : Hid (s.told ≤ 65536 * min (gr + 1) 4 + 300 * (k + 1)) := Nat.le_trans (Nat.le_add_right _ _) HTB.out
                have HPT : Hid (s.per = per) := hper
                have okt := hok
                have CZ := C2
                have DZ := D2
                have BZ := B2
                clear hk0 hk1 AX C2 D2 B2 hper
                generalize X = wz at *
                generalize s = t at *

                have hN := next_any okt CZ
                have HZ : Hid (∃ t : Ps, t.ok ∧ t.per = per ∧ t.told ≤ 65536 * min (gr + 1) 4 + 300 * (k + 1) ∧ Pa g t wz ∧ Pd q t wz ∧ Below g w wz) := ⟨t, okt, HPT.out, HTD.out, CZ, DZ, BZ⟩
                obtain ⟨y1, y2, y3, y4⟩ := okt
                have y2' := HPT.out
                cases hon : t.on
                · have hle : t.left = 0 := by simp [Ps.left, hon]
                  rw [hle, hon] at hN
                  clear CZ BZ
                  go_wp2_with fail
                  refine hN.mono ?_
                  rintro e w9 ⟨rfl, n9, rfl⟩
                  have D9 := DZ.drawn n9
                  obtain ⟨x0, x1, x2, x3, x4, _⟩ := D9.cells
                  rw [hon] at x2
                  clear D9 DZ hN
                  go_wp2_with fail
                  go_roundw
                  case rel =>
                    obtain ⟨t2, z1, z2, z3, z4, z5, z6⟩ := HZ.out
                    exact ⟨k + 1, gr + 1, by omega, by omega, by go_num, by go_num, ⟨t2, z1, z2, z3, z4.drawn _, z5.drawn _⟩, below_drawn z6 _⟩
                  case measure => simp [intOf]; omega
                · have hle : (t.left : Int) = (per : Int) - (t.went : Int) := by simp [Ps.left, hon]; omega
                  rw [hle, hon] at hN
                  clear CZ BZ
                  go_wp2_with fail
                  refine hN.mono ?_
                  rintro e w9 ⟨rfl, n9, rfl⟩
                  have D9 := DZ.drawn n9
                  obtain ⟨x0, x1, x2, x3, x4, _⟩ := D9.cells
                  rw [hon] at x2
                  have hwl : t.went < per := by omega
                  clear D9 DZ hN y4 hle
                  generalize t.went = tw at *
                  have s1 : (((per : Int) - (tw : Int)) != ((per : Int) - (tw : Int))) = false := by simp
                  go_wp2_with fail
                  go_roundw
                  case rel =>
                    obtain ⟨t2, z1, z2, z3, z4, z5, z6⟩ := HZ.out
                    exact ⟨k + 1, gr + 1, by omega, by omega, by go_num, by go_num, ⟨t2, z1, z2, z3, z4.drawn _, z5.drawn _⟩, below_drawn z6 _⟩
                  case measure => simp [intOf]; omega
        · have d4 : decide ((4 : Int) < (gr : Int) + 1) = true := by simp; omega
          have hr3 : a.n % 300 < 300 := Nat.mod_lt _ (by omega)
          have e3 : (a.n : Int).tmod 300 = ((a.n % 300 : Nat) : Int) := rfl
          have HTB : Hid (s.told + min (a.n % 300) 65536 ≤ 65536 * min (gr + 1) 4 + 300 * (k + 1)) := by show _ ≤ _; omega
          as_aux_lemma =>

            obtain ⟨a0, a1, a2, af⟩ := AX.cells
            have af1 := af 1
            have AX1 := AX.set1 (a.n % 300)
            have T1 : Two p p X (X.setCell ⟨p, 1, none⟩ (.int .u64 ((a.n % 300 : Nat) : Int))) := (Two.refl _ _ _).at0 _ _
            have C3 := C2.two T1 (by omega) (by omega)
            have D3 := D2.two T1 (by omega) (by omega)
            have B3 : Below g w (X.setCell ⟨p, 1, none⟩ (.int .u64 ((a.n % 300 : Nat) : Int))) := B2.trans (T1.below (by have := B2.size; omega) (by omega) (by omega))
            have hpX2 := T1.size
            have HX : Hid (∃ Y, X.setCell ⟨p, 1, none⟩ (.int .u64 ((a.n % 300 : Nat) : Int)) = Y) := ⟨_, rfl⟩
            generalize hr9 : a.n % 300 = r9 at *
            clear hr9
            obtain ⟨Y, hY⟩ := HX.out
            rw [hY] at AX1 C3 D3 B3 hpX2
            clear AX C2 D2 B2 T1 HX
            go_upto_region 16 with fail
            have AX := AX1
            have C2 := C3
            have D2 := D3
            have B2 := B3
            have hpX : p < Y.heap.size := by omega
            clear AX1 C3 D3 B3 hpX2 a0 a1 a2 af af1 hY
            generalize Y = X at *
            obtain ⟨a0, a1, a2, af⟩ := AX.cells
            by_cases hk0 : a.kind = 0
            · have e0 : (a.kind == 0) = true := by simp [hk0]
              have HA : Hid (∀ w1, Two g g X w1 → w1.cell? ⟨p, 1, none⟩ = some (.int .u64 (r9 : Nat))) := fun w1 T2 => (AX.two T2 (by omega) (by omega)).cells.2.1
              have HD1 : Hid (∀ w1, Two g g X w1 → Pd q s w1) := fun w1 T2 => D2.two T2 (by omega) (by omega)
              have HEB := s.em_bound hok (r9)
              have HB2 : Hid (Below g w X) := B2
              have htl : s.told < 4611686018427387904 := by have := HTB.out; omega
              have HR : Hid (∀ w1 w2 v1, RowI X.heap.size v1 (s.em (min (r9) 65536)) w1 → Two q q w1 w2 → RowI X.heap.size v1 (s.em (min (r9) 65536)) w2) := fun w1 w2 v1 r t => r.two t (by omega)
              have hsm := fun (v1 v2 : Value) (B2 : Nat) (y : World) (r1 : RowI X.heap.size v1 (s.em (min (r9) 65536)) y) (r2 : RowI B2 v2 (s.em (min (r9) 65536)) y) => same_em r1 r2 HEB
              have HSM : Hid (∀ (v1 v2 : Value) (B2 : Nat) (y : World) (r1 : RowI X.heap.size v1 (s.em (min (r9) 65536)) y) (r2 : RowI B2 v2 (s.em (min (r9) 65536)) y), Calls Try.prog 11 #[v1, v2] y fun e w' => e = .returned (.bool true) ∧ Below y.heap.size y w') := hsm
              have okt := Ps.ok_tk hok (min (r9) 65536)
              have HPT : Hid ((s.tk (min (r9) 65536)).per = per) := (s.tk_per _).1.trans hper
              have HTD : Hid ((s.tk (min (r9) 65536)).told ≤ 65536 * min (gr + 1) 4 + 300 * (k + 1)) := Nat.le_trans (s.tk_bound hok (r9)) HTB.out
              clear hk0 hsm B2 AX HEB
              go_upto_region 18 with fail
              go_region_with (first | (go_at_call 12; refine (tick_any hok (by exact C2) (r9)).mono ?_; rintro e w1 ⟨v1, rfl, r1, U2, T2⟩; have T2' : Two g g X w1 := ⟨T2.os, T2.tape, T2.output, T2.size, T2.block⟩; have c1 := HA.out w1 T2'; have D3 := HD1.out w1 T2'; clear T2) | (go_at_call 13; refine (dtick_any hok (by assumption) (r9) htl).mono ?_; rintro e w2 ⟨v2, rfl, r2, D4, T4⟩; have T4' : Two q q w1 w2 := ⟨T4.os, T4.tape, T4.output, T4.size, T4.block⟩; have r3 := HR.out w1 w2 _ r1 T4'; clear T4) | (go_at_call 11; refine (HSM.out _ _ _ _ (by exact r3) (by exact r2)).mono ?_; rintro e wz ⟨rfl, B5⟩))
              all_goals
                have B5' : Below w2.heap.size w2 wz := ⟨B5.os, B5.tape, B5.output, B5.size, B5.block⟩
                have CZ := (U2.two T4' (by omega) (by omega)).below B5'
                have DZ := D4.below B5'
                have b9 : Below g w w2 := (HB2.out.trans (T2'.below (by have := HB2.out.size; omega) (Nat.le_refl _) (Nat.le_refl _))).trans (T4'.below (by have := HB2.out.size; have := T2'.size; omega) (by omega) (by omega))
                have BZ : Below g w wz := b9.trans (B5'.mono (by have := b9.size; omega))
                clear U2 T2' T4' D3 D4 HA HD1 HB2 r1 r2 r3 HR HSM B5 B5' b9 C2 D2 c1
                generalize s.tk (min (r9) 65536) = t at *

                have hN := next_any okt CZ
                have HZ : Hid (∃ t : Ps, t.ok ∧ t.per = per ∧ t.told ≤ 65536 * min (gr + 1) 4 + 300 * (k + 1) ∧ Pa g t wz ∧ Pd q t wz ∧ Below g w wz) := ⟨t, okt, HPT.out, HTD.out, CZ, DZ, BZ⟩
                obtain ⟨y1, y2, y3, y4⟩ := okt
                have y2' := HPT.out
                cases hon : t.on
                · have hle : t.left = 0 := by simp [Ps.left, hon]
                  rw [hle, hon] at hN
                  clear CZ BZ
                  go_wp2_with fail
                  refine hN.mono ?_
                  rintro e w9 ⟨rfl, n9, rfl⟩
                  have D9 := DZ.drawn n9
                  obtain ⟨x0, x1, x2, x3, x4, _⟩ := D9.cells
                  rw [hon] at x2
                  clear D9 DZ hN
                  go_wp2_with fail
                  go_roundw
                  case rel =>
                    obtain ⟨t2, z1, z2, z3, z4, z5, z6⟩ := HZ.out
                    exact ⟨k + 1, gr + 1, by omega, by omega, by go_num, by go_num, ⟨t2, z1, z2, z3, z4.drawn _, z5.drawn _⟩, below_drawn z6 _⟩
                  case measure => simp [intOf]; omega
                · have hle : (t.left : Int) = (per : Int) - (t.went : Int) := by simp [Ps.left, hon]; omega
                  rw [hle, hon] at hN
                  clear CZ BZ
                  go_wp2_with fail
                  refine hN.mono ?_
                  rintro e w9 ⟨rfl, n9, rfl⟩
                  have D9 := DZ.drawn n9
                  obtain ⟨x0, x1, x2, x3, x4, _⟩ := D9.cells
                  rw [hon] at x2
                  have hwl : t.went < per := by omega
                  clear D9 DZ hN y4 hle
                  generalize t.went = tw at *
                  have s1 : (((per : Int) - (tw : Int)) != ((per : Int) - (tw : Int))) = false := by simp
                  go_wp2_with fail
                  go_roundw
                  case rel =>
                    obtain ⟨t2, z1, z2, z3, z4, z5, z6⟩ := HZ.out
                    exact ⟨k + 1, gr + 1, by omega, by omega, by go_num, by go_num, ⟨t2, z1, z2, z3, z4.drawn _, z5.drawn _⟩, below_drawn z6 _⟩
                  case measure => simp [intOf]; omega
            · have e0 : (a.kind == 0) = false := by simp [hk0]
              by_cases hk1 : a.kind = 1
              · have e1 : (a.kind == 1) = true := by simp [hk1]
                have okt := Ps.ok_start hok a.on
                have HPT : Hid ((s.start a.on).per = per) := (s.start_per _).1.trans hper
                have HTD : Hid ((s.start a.on).told ≤ 65536 * min (gr + 1) 4 + 300 * (k + 1)) := Nat.le_trans (s.start_per a.on).2 (by have := HTB.out; omega)
                have hS := start_any hok C2 a.on
                have HA : Hid (∀ w1, Two g g X w1 → w1.cell? ⟨p, 2, none⟩ = some (.bool a.on)) := fun w1 T2 => (AX.two T2 (by omega) (by omega)).cells.2.2.1
                clear hk0 hk1 AX
                go_wp2_with fail
                refine hS.mono ?_
                rintro e w3 ⟨rfl, C3, T3⟩
                have D3 := D2.two T3 (by omega) (by omega)
                have B3 : Below g w w3 := B2.trans (T3.below (by have := B2.size; omega) (Nat.le_refl _) (Nat.le_refl _))
                have c3 := HA.out w3 T3
                have hS2 := dstart_any D3 a.on
                clear hS C2 D2 B2 T3 HA
                go_wp2_with fail
                refine hS2.mono ?_
                rintro e wz ⟨rfl, DZ, T4⟩
                have CZ := C3.two T4 (by omega) (by omega)
                have BZ : Below g w wz := B3.trans (T4.below (by have := B3.size; omega) (by omega) (by omega))
                clear hS2 C3 D3 B3 T4 c3
                generalize s.start a.on = t at *

                have hN := next_any okt CZ
                have HZ : Hid (∃ t : Ps, t.ok ∧ t.per = per ∧ t.told ≤ 65536 * min (gr + 1) 4 + 300 * (k + 1) ∧ Pa g t wz ∧ Pd q t wz ∧ Below g w wz) := ⟨t, okt, HPT.out, HTD.out, CZ, DZ, BZ⟩
                obtain ⟨y1, y2, y3, y4⟩ := okt
                have y2' := HPT.out
                cases hon : t.on
                · have hle : t.left = 0 := by simp [Ps.left, hon]
                  rw [hle, hon] at hN
                  clear CZ BZ
                  go_wp2_with fail
                  refine hN.mono ?_
                  rintro e w9 ⟨rfl, n9, rfl⟩
                  have D9 := DZ.drawn n9
                  obtain ⟨x0, x1, x2, x3, x4, _⟩ := D9.cells
                  rw [hon] at x2
                  clear D9 DZ hN
                  go_wp2_with fail
                  go_roundw
                  case rel =>
                    obtain ⟨t2, z1, z2, z3, z4, z5, z6⟩ := HZ.out
                    exact ⟨k + 1, gr + 1, by omega, by omega, by go_num, by go_num, ⟨t2, z1, z2, z3, z4.drawn _, z5.drawn _⟩, below_drawn z6 _⟩
                  case measure => simp [intOf]; omega
                · have hle : (t.left : Int) = (per : Int) - (t.went : Int) := by simp [Ps.left, hon]; omega
                  rw [hle, hon] at hN
                  clear CZ BZ
                  go_wp2_with fail
                  refine hN.mono ?_
                  rintro e w9 ⟨rfl, n9, rfl⟩
                  have D9 := DZ.drawn n9
                  obtain ⟨x0, x1, x2, x3, x4, _⟩ := D9.cells
                  rw [hon] at x2
                  have hwl : t.went < per := by omega
                  clear D9 DZ hN y4 hle
                  generalize t.went = tw at *
                  have s1 : (((per : Int) - (tw : Int)) != ((per : Int) - (tw : Int))) = false := by simp
                  go_wp2_with fail
                  go_roundw
                  case rel =>
                    obtain ⟨t2, z1, z2, z3, z4, z5, z6⟩ := HZ.out
                    exact ⟨k + 1, gr + 1, by omega, by omega, by go_num, by go_num, ⟨t2, z1, z2, z3, z4.drawn _, z5.drawn _⟩, below_drawn z6 _⟩
                  case measure => simp [intOf]; omega
              · have e1 : (a.kind == 1) = false := by simp [hk1]
                have HTD : Hid (s.told ≤ 65536 * min (gr + 1) 4 + 300 * (k + 1)) := Nat.le_trans (Nat.le_add_right _ _) HTB.out
                have HPT : Hid (s.per = per) := hper
                have okt := hok
                have CZ := C2
                have DZ := D2
                have BZ := B2
                clear hk0 hk1 AX C2 D2 B2 hper
                generalize X = wz at *
                generalize s = t at *

                have hN := next_any okt CZ
                have HZ : Hid (∃ t : Ps, t.ok ∧ t.per = per ∧ t.told ≤ 65536 * min (gr + 1) 4 + 300 * (k + 1) ∧ Pa g t wz ∧ Pd q t wz ∧ Below g w wz) := ⟨t, okt, HPT.out, HTD.out, CZ, DZ, BZ⟩
                obtain ⟨y1, y2, y3, y4⟩ := okt
                have y2' := HPT.out
                cases hon : t.on
                · have hle : t.left = 0 := by simp [Ps.left, hon]
                  rw [hle, hon] at hN
                  clear CZ BZ
                  go_wp2_with fail
                  refine hN.mono ?_
                  rintro e w9 ⟨rfl, n9, rfl⟩
                  have D9 := DZ.drawn n9
                  obtain ⟨x0, x1, x2, x3, x4, _⟩ := D9.cells
                  rw [hon] at x2
                  clear D9 DZ hN
                  go_wp2_with fail
                  go_roundw
                  case rel =>
                    obtain ⟨t2, z1, z2, z3, z4, z5, z6⟩ := HZ.out
                    exact ⟨k + 1, gr + 1, by omega, by omega, by go_num, by go_num, ⟨t2, z1, z2, z3, z4.drawn _, z5.drawn _⟩, below_drawn z6 _⟩
                  case measure => simp [intOf]; omega
                · have hle : (t.left : Int) = (per : Int) - (t.went : Int) := by simp [Ps.left, hon]; omega
                  rw [hle, hon] at hN
                  clear CZ BZ
                  go_wp2_with fail
                  refine hN.mono ?_
                  rintro e w9 ⟨rfl, n9, rfl⟩
                  have D9 := DZ.drawn n9
                  obtain ⟨x0, x1, x2, x3, x4, _⟩ := D9.cells
                  rw [hon] at x2
                  have hwl : t.went < per := by omega
                  clear D9 DZ hN y4 hle
                  generalize t.went = tw at *
                  have s1 : (((per : Int) - (tw : Int)) != ((per : Int) - (tw : Int))) = false := by simp
                  go_wp2_with fail
                  go_roundw
                  case rel =>
                    obtain ⟨t2, z1, z2, z3, z4, z5, z6⟩ := HZ.out
                    exact ⟨k + 1, gr + 1, by omega, by omega, by go_num, by go_num, ⟨t2, z1, z2, z3, z4.drawn _, z5.drawn _⟩, below_drawn z6 _⟩
                  case measure => simp [intOf]; omega
    · have HL := lives14_any wr
      have hd : decide ((k : Int) < (l.length : Int)) = false := by simp; omega
      go_wp2_with (go_at_call 10; refine HL.mono ?_; rintro e w8 ⟨rfl, B8⟩)
      go_ret
      exact ⟨rfl, by rw [hg]; exact B1.trans (B8.mono (by have := B1.size; omega))⟩
theorem ytel_int (z0 z1 : Int) (v : Value) (l : List A14) (h0 : 0 ≤ z0 ∧ z0 < 18446744073709551616) (h1 : -9223372036854775808 ≤ z1 ∧ z1 < 9223372036854775808) (hl : l.length ≤ 140737488351232) (w : World) (hB : Wide 3 A14.c w v l) :
    Calls Try.prog 3 #[.int .u64 z0, .int .i64 z1, v] w fun e w' => e = .returned (.bool true) ∧ Below w.heap.size w w' := by
  obtain ⟨per, rfl⟩ : ∃ p : Nat, z0 = p := ⟨z0.toNat, by omega⟩
  by_cases h : 1 ≤ per ∧ per ≤ 4294967296 ∧ ovO z1 = true
  · obtain ⟨ov, rfl, ho⟩ := ovO_nat h.2.2
    exact ytel_ok per ov v l w h.1 h.2.1 h.2.2 ho hl hB
  · exact ytel_bad per z1 v w h
end Go.Proofs.Ytnmjeomhmmfgmaa
