/- The law LssWaits returns true whatever address, number and frame come. -/
import Derived.Test.YthbmbabndhpdkaaLawLTak
namespace Go.Proofs.Ythbmbabndhpdkaa
open Go.RowKit
open Classical
set_option linter.unusedVariables false
set_option maxRecDepth 1000000
set_option linter.unusedSimpArgs false
theorem wait_none {s : Ls} {q : F8} (hm : s.mode = 0) (h : q.b0.toNat = 17 ∨ q.b0.toNat = 19 ∨ q.b0.toNat = 21 ∨ q.b0.toNat = 23 ∨ (90 ≤ q.b0.toNat ∧ q.b0.toNat ≤ 94)) : s.takeS q = s ∧ s.takeA q = (F8.nul, false) := by
  have h4 : ¬ q.b0.toNat = 4 := by omega
  have h76 : ¬ q.b0.toNat = 76 := by omega
  have h1 : ¬ s.mode = 1 := by omega
  have h64 : ¬ (64 ≤ q.b0.toNat ∧ q.b0.toNat < 68) := by omega
  have h81 : ¬ q.b0.toNat = 81 := by omega
  unfold Ls.takeS Ls.takeA Ls.waitS Ls.waitA
  rw [if_neg h4, if_neg h4, if_neg h76, if_neg h76, if_neg h1, if_neg h1, if_neg h64, if_neg h64, if_neg h81, if_neg h81]
  exact ⟨rfl, rfl⟩
/-- An address and a frame in boxes. -/
theorem box2 (w : World) (a : A4) (q : F8) : ∃ X B, (w.alloc (.cells a.arr 23)).alloc (.cells q.arr 34) = X ∧ w.heap.size = B ∧ Bc 23 B a.arr X ∧ Qb (B + 1) q X ∧ Below B w X ∧ X.heap.size = B + 2 := by
  obtain ⟨X, B, hX, hB, b, bl, sz⟩ := boxA w a
  have q0 := Qb.new X q
  rw [sz] at q0
  refine ⟨_, B, rfl, hB, ?_, ?_, ?_, ?_⟩
  · rw [hX]; exact Bc.alloc b _
  · rw [hX]; exact q0
  · rw [hX]; rw [← hB]; exact bl.alloc (by omega) _
  · rw [hX]; simp; omega
theorem lwai_bad (a : A4k) (id : Int) (h : ¬ (0 ≤ id ∧ id ≤ 127)) (q : F8) (w : World) : Calls Try.prog 7 #[.agg a.a.arr, .int .i64 id, .agg q.arr] w fun r w' => r = .returned (.bool true) ∧ Below w.heap.size w w' := by
  obtain ⟨X, B, hX, hq, bX, qX, B0, sX⟩ := box2 w a.a q
  have lX := load_a4 bX
  have hN := lnew_bad a.a id h X
  have HL : Hid (∀ y, Calls Try.prog 10 #[] y fun e w' => e = .returned (.bool true) ∧ Below y.heap.size y w') := fun y => lives19_any y
  have HB0 := hidOf2 B0
  have HX : Hid (X.heap.size = B + 2) := sX
  rw [hq]
  clear bX qX B0 h sX
  go_enter Try.func7, Try.ntmps7
  go_wp2_with (refine ldG lX rfl _ rfl rfl ?_)
  refine hN.mono ?_
  rintro e w1 ⟨rfl, B1⟩
  go_wp2_with fail
  refine (HL.out w1).mono ?_
  rintro e w3 ⟨rfl, B3⟩
  have K := HX.out
  go_wp2
  go_ret
  exact ⟨rfl, (HB0.out.trans (B1.mono (by omega))).trans (B3.mono (by have := B1.size; omega))⟩
set_option maxHeartbeats 4000000 in
theorem lwai_lo (a : A4k) (id : Int) (h : 0 ≤ id ∧ id ≤ 127) (q : F8) (hc : q.b0.toNat ≠ 17 ∧ q.b0.toNat ≠ 19 ∧ q.b0.toNat ≠ 21 ∧ q.b0.toNat ≠ 23 ∧ q.b0.toNat < 90) (w : World) : Calls Try.prog 7 #[.agg a.a.arr, .int .i64 id, .agg q.arr] w fun r w' => r = .returned (.bool true) ∧ Below w.heap.size w w' := by
  obtain ⟨X, B, hX, hq, bX, qX, B0, sX⟩ := box2 w a.a q
  have lX := load_a4 bX
  have hN := lnew_ok a.a id h X
  have HL : Hid (∀ y, Calls Try.prog 10 #[] y fun e w' => e = .returned (.bool true) ∧ Below y.heap.size y w') := fun y => lives19_any y
  obtain ⟨g, hg⟩ : ∃ g, X.heap.size + 1 = g := ⟨_, rfl⟩
  rw [hg] at hN
  have HB0 := hidOf2 B0
  have HQ := hidOf2 qX
  have HX : Hid (X.heap.size = B + 2 ∧ g = B + 3) := ⟨sX, by omega⟩
  have o0 := Ls.new_ok a.ok h
  rw [hq]
  obtain ⟨x1, x2, x3, x4, x5⟩ := hc
  have d17 : ((q.b0.toNat : Int) != 17) = true := by simp; omega
  have d19 : ((q.b0.toNat : Int) != 19) = true := by simp; omega
  have d21 : ((q.b0.toNat : Int) != 21) = true := by simp; omega
  have d23 : ((q.b0.toNat : Int) != 23) = true := by simp; omega
  have d90 : decide ((q.b0.toNat : Int) < 90) = true := by simp; omega
  generalize hM : q.b0.toNat = M at *
  have HM := hidOf2 hM
  clear bX qX B0 h sX hg x1 x2 x3 x4 x5 o0 hM
  go_enter Try.func7, Try.ntmps7
  go_wp2_with (refine ldG lX rfl _ rfl rfl ?_)
  refine hN.mono ?_
  rintro e w1 ⟨rfl, N1, B1⟩
  have u0 := (HQ.out.below B1).c0
  rw [HM.out] at u0
  have HB1 := hidOf2 B1
  clear N1 B1 hN
  go_wp2_with fail
  refine (HL.out w1).mono ?_
  rintro e w3 ⟨rfl, B3⟩
  have K := HX.out
  go_wp2
  go_ret
  exact ⟨rfl, (HB0.out.trans (HB1.out.mono (by omega))).trans (B3.mono (by have := HB1.out.size; omega))⟩
set_option maxHeartbeats 4000000 in
theorem lwai_hi (a : A4k) (id : Int) (h : 0 ≤ id ∧ id ≤ 127) (q : F8) (hc : q.b0.toNat ≠ 17 ∧ q.b0.toNat ≠ 19 ∧ q.b0.toNat ≠ 21 ∧ q.b0.toNat ≠ 23 ∧ 94 < q.b0.toNat) (w : World) : Calls Try.prog 7 #[.agg a.a.arr, .int .i64 id, .agg q.arr] w fun r w' => r = .returned (.bool true) ∧ Below w.heap.size w w' := by
  obtain ⟨X, B, hX, hq, bX, qX, B0, sX⟩ := box2 w a.a q
  have lX := load_a4 bX
  have hN := lnew_ok a.a id h X
  have HL : Hid (∀ y, Calls Try.prog 10 #[] y fun e w' => e = .returned (.bool true) ∧ Below y.heap.size y w') := fun y => lives19_any y
  obtain ⟨g, hg⟩ : ∃ g, X.heap.size + 1 = g := ⟨_, rfl⟩
  rw [hg] at hN
  have HB0 := hidOf2 B0
  have HQ := hidOf2 qX
  have HX : Hid (X.heap.size = B + 2 ∧ g = B + 3) := ⟨sX, by omega⟩
  have o0 := Ls.new_ok a.ok h
  rw [hq]
  obtain ⟨x1, x2, x3, x4, x5⟩ := hc
  have d17 : ((q.b0.toNat : Int) != 17) = true := by simp; omega
  have d19 : ((q.b0.toNat : Int) != 19) = true := by simp; omega
  have d21 : ((q.b0.toNat : Int) != 21) = true := by simp; omega
  have d23 : ((q.b0.toNat : Int) != 23) = true := by simp; omega
  have d90 : decide ((q.b0.toNat : Int) < 90) = false := by simp; omega
  have d94 : decide ((94 : Int) < (q.b0.toNat : Int)) = true := by simp; omega
  generalize hM : q.b0.toNat = M at *
  have HM := hidOf2 hM
  clear bX qX B0 h sX hg x1 x2 x3 x4 x5 o0 hM
  go_enter Try.func7, Try.ntmps7
  go_wp2_with (refine ldG lX rfl _ rfl rfl ?_)
  refine hN.mono ?_
  rintro e w1 ⟨rfl, N1, B1⟩
  have u0 := (HQ.out.below B1).c0
  rw [HM.out] at u0
  have HB1 := hidOf2 B1
  clear N1 B1 hN
  go_wp2_with fail
  refine (HL.out w1).mono ?_
  rintro e w3 ⟨rfl, B3⟩
  have K := HX.out
  go_wp2
  go_ret
  exact ⟨rfl, (HB0.out.trans (HB1.out.mono (by omega))).trans (B3.mono (by have := HB1.out.size; omega))⟩
set_option maxHeartbeats 4000000 in
theorem lwai17 (a : A4k) (id : Int) (h : 0 ≤ id ∧ id ≤ 127) (q : F8) (hc : q.b0.toNat = 17) (w : World) : Calls Try.prog 7 #[.agg a.a.arr, .int .i64 id, .agg q.arr] w fun r w' => r = .returned (.bool true) ∧ Below w.heap.size w w' := by
  obtain ⟨X, B, hX, hq, bX, qX, B0, sX⟩ := box2 w a.a q
  have lX := load_a4 bX
  have hN := lnew_ok a.a id h X
  have HL : Hid (∀ y, Calls Try.prog 10 #[] y fun e w' => e = .returned (.bool true) ∧ Below y.heap.size y w') := fun y => lives19_any y
  obtain ⟨g, hg⟩ : ∃ g, X.heap.size + 1 = g := ⟨_, rfl⟩
  rw [hg] at hN
  have HB0 := hidOf2 B0
  have HQ := hidOf2 qX
  have HX : Hid (X.heap.size = B + 2 ∧ g = B + 3) := ⟨sX, by omega⟩
  have o0 := Ls.new_ok a.ok h
  rw [hq]
  have HW := wait_none (s := Ls.new a.a id) (q := q) rfl (by omega)
  have HM : Hid (q.b0.toNat = 17) := hc
  have HT : Hid (∀ y, Sa g B none (Ls.new a.a id) y → B < y.heap.size → Calls Try.prog 15 #[.pointer (some ⟨g, 0, none⟩), .agg q.arr] y (PostF g B (Ls.new a.a id) (F8.nul, false) y)) := fun y hy hb => by
    have := take_any hy hb o0 q
    rw [HW.1, HW.2] at this
    exact this
  clear bX qX B0 h sX hg o0 hc HW
  go_enter Try.func7, Try.ntmps7
  go_wp2_with (refine ldG lX rfl _ rfl rfl ?_)
  refine hN.mono ?_
  rintro e w1 ⟨rfl, N1, B1⟩
  have K := HX.out
  have q1 := HQ.out.below B1
  have u0 := q1.c0
  rw [HM.out] at u0
  have l1 := q1.load
  have hT := HT.out w1 (N1 B (by omega)) (by have := B1.size; omega)
  have HB1 := hidOf2 B1
  have HBw : Hid (Below B w w1) := HB0.out.trans (HB1.out.mono (by omega))
  clear N1 B1 hN K HM q1
  go_upto_region 6 with fail
  go_wp2_with (refine ldG l1 rfl _ rfl rfl ?_)
  refine hT.mono ?_
  rintro e w2 ⟨rfl, ⟨p2, S2⟩, T2⟩
  obtain ⟨V, k2, hV, hk2, z2, q2, t2, l2⟩ := lay8 w2 F8.nul
  have K := HX.out
  have SV : Sa g B p2 (Ls.new a.a id) V := by rw [← hV]; exact (S2.alloc _).row z2 _
  have BV : Below B w V := (HBw.out.trans (T2.below (by have := HBw.out.size; have := HB1.out.size; omega) (by omega) (by omega))).trans (t2.below (by have := HBw.out.size; have := T2.size; have := HB1.out.size; omega) (by have := T2.size; have := HB1.out.size; omega) (by have := T2.size; have := HB1.out.size; omega))
  have hI : Calls Try.prog 17 #[.pointer (some ⟨g, 0, none⟩)] V fun e w' => e = .returned (.tuple #[.int .i64 id, .int .i64 id]) ∧ ∃ n, w' = V.drewN n := lid_any SV
  have hV' := hV
  unfold zA8 at hV'
  have HV := hidOf2 hV'
  have HSV := hidOf2 SV
  have HBV := hidOf2 BV
  have Hq2 := hidOf2 q2
  have zA : Qb k2 F8.nul (w2.alloc (.cells zA8 34)) := z2
  clear hT S2 T2 t2 l2 SV BV hV hV' q2 HBw HB1 l1 z2 u0 K
  go_wp2_with (first | (refine sdF (g := F8.nul) zA rfl _ _ rfl rfl rfl ?_))
  rw [HV.out]
  refine hI.mono ?_
  rintro e w4 ⟨rfl, m4, rfl⟩
  have hR : Calls Try.prog 21 #[.pointer (some ⟨g, 0, none⟩)] (V.drewN m4) fun e w' => e = .returned (.tuple #[.int .i64 0, .int .i64 0]) ∧ ∃ n, w' = (V.drewN m4).drewN n := lrate_any (HSV.out.drawn m4)
  go_wp2_with fail
  refine hR.mono ?_
  rintro e w5 ⟨rfl, m5, rfl⟩
  have hT3 := lstored_any ((HSV.out.drawn m4).drawn m5)
  have eT : (Ls.new a.a id).sto = .tuple #[.int .i64 0, .int .i64 0, .bool false] := rfl
  rw [eT] at hT3
  clear eT
  have hT4 : Calls Try.prog 18 #[.pointer (some ⟨g, 0, none⟩)] (V.drewN (m4 + m5)) fun e w' => e = .returned (.tuple #[.int .i64 0, .int .i64 0, .bool false]) ∧ ∃ n, w' = (V.drewN (m4 + m5)).drewN n := by
    have E : (V.drewN m4).drewN m5 = V.drewN (m4 + m5) := by simp [World.drewN, Nat.add_assoc]
    rw [← E]
    exact hT3
  go_wp2_with fail
  refine hT4.mono ?_
  rintro e w6 ⟨rfl, m6, rfl⟩
  obtain ⟨Y, hY⟩ : ∃ Y, V.drewN (m4 + m5 + m6) = Y := ⟨_, rfl⟩
  have SY : Sa g B p2 (Ls.new a.a id) Y := by rw [← hY]; exact HSV.out.drawn _
  have qY : Qb k2 F8.nul Y := by rw [← hY]; exact Qb.drawn Hq2.out _
  have BY : Below B w Y := by rw [← hY]; exact below_drawn HBV.out _
  have lY := qY.load
  have hMd := lmode_any SY
  have em : (Ls.new a.a id).mode = 0 := rfl
  rw [em] at hMd
  have HLY := HL.out Y
  have HBY := hidOf2 BY
  have E1 : (V.drewN (m4 + m5)).drewN m6 = Y := by rw [← hY]; simp [World.drewN, Nat.add_assoc]
  have HY := hidOf2 hY
  have HE1 := hidOf2 E1
  clear SY qY BY em hY hT3 hT4 hR hI E1
  go_upto_region 10 with fail
  first | rw [HY.out] | rw [HE1.out]
  go_wp2_with (first | (refine ldG lY rfl _ rfl rfl ?_) | (refine eqF F8.nul F8.nul rfl _ _ rfl rfl rfl ?_; simp only [decide_true]))
  refine hMd.mono ?_
  rintro e w7 ⟨rfl, hw7⟩
  rw [hw7]
  go_wp2_with fail
  refine HLY.mono ?_
  rintro e w8 ⟨rfl, B8⟩
  go_wp2
  go_ret
  exact ⟨rfl, HBY.out.trans (B8.mono (by have := HBY.out.size; omega))⟩
set_option maxHeartbeats 4000000 in
theorem lwai19 (a : A4k) (id : Int) (h : 0 ≤ id ∧ id ≤ 127) (q : F8) (hc : q.b0.toNat = 19) (w : World) : Calls Try.prog 7 #[.agg a.a.arr, .int .i64 id, .agg q.arr] w fun r w' => r = .returned (.bool true) ∧ Below w.heap.size w w' := by
  obtain ⟨X, B, hX, hq, bX, qX, B0, sX⟩ := box2 w a.a q
  have lX := load_a4 bX
  have hN := lnew_ok a.a id h X
  have HL : Hid (∀ y, Calls Try.prog 10 #[] y fun e w' => e = .returned (.bool true) ∧ Below y.heap.size y w') := fun y => lives19_any y
  obtain ⟨g, hg⟩ : ∃ g, X.heap.size + 1 = g := ⟨_, rfl⟩
  rw [hg] at hN
  have HB0 := hidOf2 B0
  have HQ := hidOf2 qX
  have HX : Hid (X.heap.size = B + 2 ∧ g = B + 3) := ⟨sX, by omega⟩
  have o0 := Ls.new_ok a.ok h
  rw [hq]
  have HW := wait_none (s := Ls.new a.a id) (q := q) rfl (by omega)
  have HM : Hid (q.b0.toNat = 19) := hc
  have HT : Hid (∀ y, Sa g B none (Ls.new a.a id) y → B < y.heap.size → Calls Try.prog 15 #[.pointer (some ⟨g, 0, none⟩), .agg q.arr] y (PostF g B (Ls.new a.a id) (F8.nul, false) y)) := fun y hy hb => by
    have := take_any hy hb o0 q
    rw [HW.1, HW.2] at this
    exact this
  clear bX qX B0 h sX hg o0 hc HW
  go_enter Try.func7, Try.ntmps7
  go_wp2_with (refine ldG lX rfl _ rfl rfl ?_)
  refine hN.mono ?_
  rintro e w1 ⟨rfl, N1, B1⟩
  have K := HX.out
  have q1 := HQ.out.below B1
  have u0 := q1.c0
  rw [HM.out] at u0
  have l1 := q1.load
  have hT := HT.out w1 (N1 B (by omega)) (by have := B1.size; omega)
  have HB1 := hidOf2 B1
  have HBw : Hid (Below B w w1) := HB0.out.trans (HB1.out.mono (by omega))
  clear N1 B1 hN K HM q1
  go_upto_region 6 with fail
  go_wp2_with (refine ldG l1 rfl _ rfl rfl ?_)
  refine hT.mono ?_
  rintro e w2 ⟨rfl, ⟨p2, S2⟩, T2⟩
  obtain ⟨V, k2, hV, hk2, z2, q2, t2, l2⟩ := lay8 w2 F8.nul
  have K := HX.out
  have SV : Sa g B p2 (Ls.new a.a id) V := by rw [← hV]; exact (S2.alloc _).row z2 _
  have BV : Below B w V := (HBw.out.trans (T2.below (by have := HBw.out.size; have := HB1.out.size; omega) (by omega) (by omega))).trans (t2.below (by have := HBw.out.size; have := T2.size; have := HB1.out.size; omega) (by have := T2.size; have := HB1.out.size; omega) (by have := T2.size; have := HB1.out.size; omega))
  have hI : Calls Try.prog 17 #[.pointer (some ⟨g, 0, none⟩)] V fun e w' => e = .returned (.tuple #[.int .i64 id, .int .i64 id]) ∧ ∃ n, w' = V.drewN n := lid_any SV
  have hV' := hV
  unfold zA8 at hV'
  have HV := hidOf2 hV'
  have HSV := hidOf2 SV
  have HBV := hidOf2 BV
  have Hq2 := hidOf2 q2
  have zA : Qb k2 F8.nul (w2.alloc (.cells zA8 34)) := z2
  clear hT S2 T2 t2 l2 SV BV hV hV' q2 HBw HB1 l1 z2 u0 K
  go_wp2_with (first | (refine sdF (g := F8.nul) zA rfl _ _ rfl rfl rfl ?_))
  rw [HV.out]
  refine hI.mono ?_
  rintro e w4 ⟨rfl, m4, rfl⟩
  have hR : Calls Try.prog 21 #[.pointer (some ⟨g, 0, none⟩)] (V.drewN m4) fun e w' => e = .returned (.tuple #[.int .i64 0, .int .i64 0]) ∧ ∃ n, w' = (V.drewN m4).drewN n := lrate_any (HSV.out.drawn m4)
  go_wp2_with fail
  refine hR.mono ?_
  rintro e w5 ⟨rfl, m5, rfl⟩
  have hT3 := lstored_any ((HSV.out.drawn m4).drawn m5)
  have eT : (Ls.new a.a id).sto = .tuple #[.int .i64 0, .int .i64 0, .bool false] := rfl
  rw [eT] at hT3
  clear eT
  have hT4 : Calls Try.prog 18 #[.pointer (some ⟨g, 0, none⟩)] (V.drewN (m4 + m5)) fun e w' => e = .returned (.tuple #[.int .i64 0, .int .i64 0, .bool false]) ∧ ∃ n, w' = (V.drewN (m4 + m5)).drewN n := by
    have E : (V.drewN m4).drewN m5 = V.drewN (m4 + m5) := by simp [World.drewN, Nat.add_assoc]
    rw [← E]
    exact hT3
  go_wp2_with fail
  refine hT4.mono ?_
  rintro e w6 ⟨rfl, m6, rfl⟩
  obtain ⟨Y, hY⟩ : ∃ Y, V.drewN (m4 + m5 + m6) = Y := ⟨_, rfl⟩
  have SY : Sa g B p2 (Ls.new a.a id) Y := by rw [← hY]; exact HSV.out.drawn _
  have qY : Qb k2 F8.nul Y := by rw [← hY]; exact Qb.drawn Hq2.out _
  have BY : Below B w Y := by rw [← hY]; exact below_drawn HBV.out _
  have lY := qY.load
  have hMd := lmode_any SY
  have em : (Ls.new a.a id).mode = 0 := rfl
  rw [em] at hMd
  have HLY := HL.out Y
  have HBY := hidOf2 BY
  have E1 : (V.drewN (m4 + m5)).drewN m6 = Y := by rw [← hY]; simp [World.drewN, Nat.add_assoc]
  have HY := hidOf2 hY
  have HE1 := hidOf2 E1
  clear SY qY BY em hY hT3 hT4 hR hI E1
  go_upto_region 10 with fail
  first | rw [HY.out] | rw [HE1.out]
  go_wp2_with (first | (refine ldG lY rfl _ rfl rfl ?_) | (refine eqF F8.nul F8.nul rfl _ _ rfl rfl rfl ?_; simp only [decide_true]))
  refine hMd.mono ?_
  rintro e w7 ⟨rfl, hw7⟩
  rw [hw7]
  go_wp2_with fail
  refine HLY.mono ?_
  rintro e w8 ⟨rfl, B8⟩
  go_wp2
  go_ret
  exact ⟨rfl, HBY.out.trans (B8.mono (by have := HBY.out.size; omega))⟩
set_option maxHeartbeats 4000000 in
theorem lwai21 (a : A4k) (id : Int) (h : 0 ≤ id ∧ id ≤ 127) (q : F8) (hc : q.b0.toNat = 21) (w : World) : Calls Try.prog 7 #[.agg a.a.arr, .int .i64 id, .agg q.arr] w fun r w' => r = .returned (.bool true) ∧ Below w.heap.size w w' := by
  obtain ⟨X, B, hX, hq, bX, qX, B0, sX⟩ := box2 w a.a q
  have lX := load_a4 bX
  have hN := lnew_ok a.a id h X
  have HL : Hid (∀ y, Calls Try.prog 10 #[] y fun e w' => e = .returned (.bool true) ∧ Below y.heap.size y w') := fun y => lives19_any y
  obtain ⟨g, hg⟩ : ∃ g, X.heap.size + 1 = g := ⟨_, rfl⟩
  rw [hg] at hN
  have HB0 := hidOf2 B0
  have HQ := hidOf2 qX
  have HX : Hid (X.heap.size = B + 2 ∧ g = B + 3) := ⟨sX, by omega⟩
  have o0 := Ls.new_ok a.ok h
  rw [hq]
  have HW := wait_none (s := Ls.new a.a id) (q := q) rfl (by omega)
  have HM : Hid (q.b0.toNat = 21) := hc
  have HT : Hid (∀ y, Sa g B none (Ls.new a.a id) y → B < y.heap.size → Calls Try.prog 15 #[.pointer (some ⟨g, 0, none⟩), .agg q.arr] y (PostF g B (Ls.new a.a id) (F8.nul, false) y)) := fun y hy hb => by
    have := take_any hy hb o0 q
    rw [HW.1, HW.2] at this
    exact this
  clear bX qX B0 h sX hg o0 hc HW
  go_enter Try.func7, Try.ntmps7
  go_wp2_with (refine ldG lX rfl _ rfl rfl ?_)
  refine hN.mono ?_
  rintro e w1 ⟨rfl, N1, B1⟩
  have K := HX.out
  have q1 := HQ.out.below B1
  have u0 := q1.c0
  rw [HM.out] at u0
  have l1 := q1.load
  have hT := HT.out w1 (N1 B (by omega)) (by have := B1.size; omega)
  have HB1 := hidOf2 B1
  have HBw : Hid (Below B w w1) := HB0.out.trans (HB1.out.mono (by omega))
  clear N1 B1 hN K HM q1
  go_upto_region 6 with fail
  go_wp2_with (refine ldG l1 rfl _ rfl rfl ?_)
  refine hT.mono ?_
  rintro e w2 ⟨rfl, ⟨p2, S2⟩, T2⟩
  obtain ⟨V, k2, hV, hk2, z2, q2, t2, l2⟩ := lay8 w2 F8.nul
  have K := HX.out
  have SV : Sa g B p2 (Ls.new a.a id) V := by rw [← hV]; exact (S2.alloc _).row z2 _
  have BV : Below B w V := (HBw.out.trans (T2.below (by have := HBw.out.size; have := HB1.out.size; omega) (by omega) (by omega))).trans (t2.below (by have := HBw.out.size; have := T2.size; have := HB1.out.size; omega) (by have := T2.size; have := HB1.out.size; omega) (by have := T2.size; have := HB1.out.size; omega))
  have hI : Calls Try.prog 17 #[.pointer (some ⟨g, 0, none⟩)] V fun e w' => e = .returned (.tuple #[.int .i64 id, .int .i64 id]) ∧ ∃ n, w' = V.drewN n := lid_any SV
  have hV' := hV
  unfold zA8 at hV'
  have HV := hidOf2 hV'
  have HSV := hidOf2 SV
  have HBV := hidOf2 BV
  have Hq2 := hidOf2 q2
  have zA : Qb k2 F8.nul (w2.alloc (.cells zA8 34)) := z2
  clear hT S2 T2 t2 l2 SV BV hV hV' q2 HBw HB1 l1 z2 u0 K
  go_wp2_with (first | (refine sdF (g := F8.nul) zA rfl _ _ rfl rfl rfl ?_))
  rw [HV.out]
  refine hI.mono ?_
  rintro e w4 ⟨rfl, m4, rfl⟩
  have hR : Calls Try.prog 21 #[.pointer (some ⟨g, 0, none⟩)] (V.drewN m4) fun e w' => e = .returned (.tuple #[.int .i64 0, .int .i64 0]) ∧ ∃ n, w' = (V.drewN m4).drewN n := lrate_any (HSV.out.drawn m4)
  go_wp2_with fail
  refine hR.mono ?_
  rintro e w5 ⟨rfl, m5, rfl⟩
  have hT3 := lstored_any ((HSV.out.drawn m4).drawn m5)
  have eT : (Ls.new a.a id).sto = .tuple #[.int .i64 0, .int .i64 0, .bool false] := rfl
  rw [eT] at hT3
  clear eT
  have hT4 : Calls Try.prog 18 #[.pointer (some ⟨g, 0, none⟩)] (V.drewN (m4 + m5)) fun e w' => e = .returned (.tuple #[.int .i64 0, .int .i64 0, .bool false]) ∧ ∃ n, w' = (V.drewN (m4 + m5)).drewN n := by
    have E : (V.drewN m4).drewN m5 = V.drewN (m4 + m5) := by simp [World.drewN, Nat.add_assoc]
    rw [← E]
    exact hT3
  go_wp2_with fail
  refine hT4.mono ?_
  rintro e w6 ⟨rfl, m6, rfl⟩
  obtain ⟨Y, hY⟩ : ∃ Y, V.drewN (m4 + m5 + m6) = Y := ⟨_, rfl⟩
  have SY : Sa g B p2 (Ls.new a.a id) Y := by rw [← hY]; exact HSV.out.drawn _
  have qY : Qb k2 F8.nul Y := by rw [← hY]; exact Qb.drawn Hq2.out _
  have BY : Below B w Y := by rw [← hY]; exact below_drawn HBV.out _
  have lY := qY.load
  have hMd := lmode_any SY
  have em : (Ls.new a.a id).mode = 0 := rfl
  rw [em] at hMd
  have HLY := HL.out Y
  have HBY := hidOf2 BY
  have E1 : (V.drewN (m4 + m5)).drewN m6 = Y := by rw [← hY]; simp [World.drewN, Nat.add_assoc]
  have HY := hidOf2 hY
  have HE1 := hidOf2 E1
  clear SY qY BY em hY hT3 hT4 hR hI E1
  go_upto_region 10 with fail
  first | rw [HY.out] | rw [HE1.out]
  go_wp2_with (first | (refine ldG lY rfl _ rfl rfl ?_) | (refine eqF F8.nul F8.nul rfl _ _ rfl rfl rfl ?_; simp only [decide_true]))
  refine hMd.mono ?_
  rintro e w7 ⟨rfl, hw7⟩
  rw [hw7]
  go_wp2_with fail
  refine HLY.mono ?_
  rintro e w8 ⟨rfl, B8⟩
  go_wp2
  go_ret
  exact ⟨rfl, HBY.out.trans (B8.mono (by have := HBY.out.size; omega))⟩
set_option maxHeartbeats 4000000 in
theorem lwai23 (a : A4k) (id : Int) (h : 0 ≤ id ∧ id ≤ 127) (q : F8) (hc : q.b0.toNat = 23) (w : World) : Calls Try.prog 7 #[.agg a.a.arr, .int .i64 id, .agg q.arr] w fun r w' => r = .returned (.bool true) ∧ Below w.heap.size w w' := by
  obtain ⟨X, B, hX, hq, bX, qX, B0, sX⟩ := box2 w a.a q
  have lX := load_a4 bX
  have hN := lnew_ok a.a id h X
  have HL : Hid (∀ y, Calls Try.prog 10 #[] y fun e w' => e = .returned (.bool true) ∧ Below y.heap.size y w') := fun y => lives19_any y
  obtain ⟨g, hg⟩ : ∃ g, X.heap.size + 1 = g := ⟨_, rfl⟩
  rw [hg] at hN
  have HB0 := hidOf2 B0
  have HQ := hidOf2 qX
  have HX : Hid (X.heap.size = B + 2 ∧ g = B + 3) := ⟨sX, by omega⟩
  have o0 := Ls.new_ok a.ok h
  rw [hq]
  have HW := wait_none (s := Ls.new a.a id) (q := q) rfl (by omega)
  have HM : Hid (q.b0.toNat = 23) := hc
  have HT : Hid (∀ y, Sa g B none (Ls.new a.a id) y → B < y.heap.size → Calls Try.prog 15 #[.pointer (some ⟨g, 0, none⟩), .agg q.arr] y (PostF g B (Ls.new a.a id) (F8.nul, false) y)) := fun y hy hb => by
    have := take_any hy hb o0 q
    rw [HW.1, HW.2] at this
    exact this
  clear bX qX B0 h sX hg o0 hc HW
  go_enter Try.func7, Try.ntmps7
  go_wp2_with (refine ldG lX rfl _ rfl rfl ?_)
  refine hN.mono ?_
  rintro e w1 ⟨rfl, N1, B1⟩
  have K := HX.out
  have q1 := HQ.out.below B1
  have u0 := q1.c0
  rw [HM.out] at u0
  have l1 := q1.load
  have hT := HT.out w1 (N1 B (by omega)) (by have := B1.size; omega)
  have HB1 := hidOf2 B1
  have HBw : Hid (Below B w w1) := HB0.out.trans (HB1.out.mono (by omega))
  clear N1 B1 hN K HM q1
  go_upto_region 6 with fail
  go_wp2_with (refine ldG l1 rfl _ rfl rfl ?_)
  refine hT.mono ?_
  rintro e w2 ⟨rfl, ⟨p2, S2⟩, T2⟩
  obtain ⟨V, k2, hV, hk2, z2, q2, t2, l2⟩ := lay8 w2 F8.nul
  have K := HX.out
  have SV : Sa g B p2 (Ls.new a.a id) V := by rw [← hV]; exact (S2.alloc _).row z2 _
  have BV : Below B w V := (HBw.out.trans (T2.below (by have := HBw.out.size; have := HB1.out.size; omega) (by omega) (by omega))).trans (t2.below (by have := HBw.out.size; have := T2.size; have := HB1.out.size; omega) (by have := T2.size; have := HB1.out.size; omega) (by have := T2.size; have := HB1.out.size; omega))
  have hI : Calls Try.prog 17 #[.pointer (some ⟨g, 0, none⟩)] V fun e w' => e = .returned (.tuple #[.int .i64 id, .int .i64 id]) ∧ ∃ n, w' = V.drewN n := lid_any SV
  have hV' := hV
  unfold zA8 at hV'
  have HV := hidOf2 hV'
  have HSV := hidOf2 SV
  have HBV := hidOf2 BV
  have Hq2 := hidOf2 q2
  have zA : Qb k2 F8.nul (w2.alloc (.cells zA8 34)) := z2
  clear hT S2 T2 t2 l2 SV BV hV hV' q2 HBw HB1 l1 z2 u0 K
  go_wp2_with (first | (refine sdF (g := F8.nul) zA rfl _ _ rfl rfl rfl ?_))
  rw [HV.out]
  refine hI.mono ?_
  rintro e w4 ⟨rfl, m4, rfl⟩
  have hR : Calls Try.prog 21 #[.pointer (some ⟨g, 0, none⟩)] (V.drewN m4) fun e w' => e = .returned (.tuple #[.int .i64 0, .int .i64 0]) ∧ ∃ n, w' = (V.drewN m4).drewN n := lrate_any (HSV.out.drawn m4)
  go_wp2_with fail
  refine hR.mono ?_
  rintro e w5 ⟨rfl, m5, rfl⟩
  have hT3 := lstored_any ((HSV.out.drawn m4).drawn m5)
  have eT : (Ls.new a.a id).sto = .tuple #[.int .i64 0, .int .i64 0, .bool false] := rfl
  rw [eT] at hT3
  clear eT
  have hT4 : Calls Try.prog 18 #[.pointer (some ⟨g, 0, none⟩)] (V.drewN (m4 + m5)) fun e w' => e = .returned (.tuple #[.int .i64 0, .int .i64 0, .bool false]) ∧ ∃ n, w' = (V.drewN (m4 + m5)).drewN n := by
    have E : (V.drewN m4).drewN m5 = V.drewN (m4 + m5) := by simp [World.drewN, Nat.add_assoc]
    rw [← E]
    exact hT3
  go_wp2_with fail
  refine hT4.mono ?_
  rintro e w6 ⟨rfl, m6, rfl⟩
  obtain ⟨Y, hY⟩ : ∃ Y, V.drewN (m4 + m5 + m6) = Y := ⟨_, rfl⟩
  have SY : Sa g B p2 (Ls.new a.a id) Y := by rw [← hY]; exact HSV.out.drawn _
  have qY : Qb k2 F8.nul Y := by rw [← hY]; exact Qb.drawn Hq2.out _
  have BY : Below B w Y := by rw [← hY]; exact below_drawn HBV.out _
  have lY := qY.load
  have hMd := lmode_any SY
  have em : (Ls.new a.a id).mode = 0 := rfl
  rw [em] at hMd
  have HLY := HL.out Y
  have HBY := hidOf2 BY
  have E1 : (V.drewN (m4 + m5)).drewN m6 = Y := by rw [← hY]; simp [World.drewN, Nat.add_assoc]
  have HY := hidOf2 hY
  have HE1 := hidOf2 E1
  clear SY qY BY em hY hT3 hT4 hR hI E1
  go_upto_region 10 with fail
  first | rw [HY.out] | rw [HE1.out]
  go_wp2_with (first | (refine ldG lY rfl _ rfl rfl ?_) | (refine eqF F8.nul F8.nul rfl _ _ rfl rfl rfl ?_; simp only [decide_true]))
  refine hMd.mono ?_
  rintro e w7 ⟨rfl, hw7⟩
  rw [hw7]
  go_wp2_with fail
  refine HLY.mono ?_
  rintro e w8 ⟨rfl, B8⟩
  go_wp2
  go_ret
  exact ⟨rfl, HBY.out.trans (B8.mono (by have := HBY.out.size; omega))⟩
set_option maxHeartbeats 4000000 in
theorem lwai90 (a : A4k) (id : Int) (h : 0 ≤ id ∧ id ≤ 127) (q : F8) (hc : q.b0.toNat = 90) (w : World) : Calls Try.prog 7 #[.agg a.a.arr, .int .i64 id, .agg q.arr] w fun r w' => r = .returned (.bool true) ∧ Below w.heap.size w w' := by
  obtain ⟨X, B, hX, hq, bX, qX, B0, sX⟩ := box2 w a.a q
  have lX := load_a4 bX
  have hN := lnew_ok a.a id h X
  have HL : Hid (∀ y, Calls Try.prog 10 #[] y fun e w' => e = .returned (.bool true) ∧ Below y.heap.size y w') := fun y => lives19_any y
  obtain ⟨g, hg⟩ : ∃ g, X.heap.size + 1 = g := ⟨_, rfl⟩
  rw [hg] at hN
  have HB0 := hidOf2 B0
  have HQ := hidOf2 qX
  have HX : Hid (X.heap.size = B + 2 ∧ g = B + 3) := ⟨sX, by omega⟩
  have o0 := Ls.new_ok a.ok h
  rw [hq]
  have HW := wait_none (s := Ls.new a.a id) (q := q) rfl (by omega)
  have HM : Hid (q.b0.toNat = 90) := hc
  have HT : Hid (∀ y, Sa g B none (Ls.new a.a id) y → B < y.heap.size → Calls Try.prog 15 #[.pointer (some ⟨g, 0, none⟩), .agg q.arr] y (PostF g B (Ls.new a.a id) (F8.nul, false) y)) := fun y hy hb => by
    have := take_any hy hb o0 q
    rw [HW.1, HW.2] at this
    exact this
  clear bX qX B0 h sX hg o0 hc HW
  go_enter Try.func7, Try.ntmps7
  go_wp2_with (refine ldG lX rfl _ rfl rfl ?_)
  refine hN.mono ?_
  rintro e w1 ⟨rfl, N1, B1⟩
  have K := HX.out
  have q1 := HQ.out.below B1
  have u0 := q1.c0
  rw [HM.out] at u0
  have l1 := q1.load
  have hT := HT.out w1 (N1 B (by omega)) (by have := B1.size; omega)
  have HB1 := hidOf2 B1
  have HBw : Hid (Below B w w1) := HB0.out.trans (HB1.out.mono (by omega))
  clear N1 B1 hN K HM q1
  go_upto_region 6 with fail
  go_wp2_with (refine ldG l1 rfl _ rfl rfl ?_)
  refine hT.mono ?_
  rintro e w2 ⟨rfl, ⟨p2, S2⟩, T2⟩
  obtain ⟨V, k2, hV, hk2, z2, q2, t2, l2⟩ := lay8 w2 F8.nul
  have K := HX.out
  have SV : Sa g B p2 (Ls.new a.a id) V := by rw [← hV]; exact (S2.alloc _).row z2 _
  have BV : Below B w V := (HBw.out.trans (T2.below (by have := HBw.out.size; have := HB1.out.size; omega) (by omega) (by omega))).trans (t2.below (by have := HBw.out.size; have := T2.size; have := HB1.out.size; omega) (by have := T2.size; have := HB1.out.size; omega) (by have := T2.size; have := HB1.out.size; omega))
  have hI : Calls Try.prog 17 #[.pointer (some ⟨g, 0, none⟩)] V fun e w' => e = .returned (.tuple #[.int .i64 id, .int .i64 id]) ∧ ∃ n, w' = V.drewN n := lid_any SV
  have hV' := hV
  unfold zA8 at hV'
  have HV := hidOf2 hV'
  have HSV := hidOf2 SV
  have HBV := hidOf2 BV
  have Hq2 := hidOf2 q2
  have zA : Qb k2 F8.nul (w2.alloc (.cells zA8 34)) := z2
  clear hT S2 T2 t2 l2 SV BV hV hV' q2 HBw HB1 l1 z2 u0 K
  go_wp2_with (first | (refine sdF (g := F8.nul) zA rfl _ _ rfl rfl rfl ?_))
  rw [HV.out]
  refine hI.mono ?_
  rintro e w4 ⟨rfl, m4, rfl⟩
  have hR : Calls Try.prog 21 #[.pointer (some ⟨g, 0, none⟩)] (V.drewN m4) fun e w' => e = .returned (.tuple #[.int .i64 0, .int .i64 0]) ∧ ∃ n, w' = (V.drewN m4).drewN n := lrate_any (HSV.out.drawn m4)
  go_wp2_with fail
  refine hR.mono ?_
  rintro e w5 ⟨rfl, m5, rfl⟩
  have hT3 := lstored_any ((HSV.out.drawn m4).drawn m5)
  have eT : (Ls.new a.a id).sto = .tuple #[.int .i64 0, .int .i64 0, .bool false] := rfl
  rw [eT] at hT3
  clear eT
  have hT4 : Calls Try.prog 18 #[.pointer (some ⟨g, 0, none⟩)] (V.drewN (m4 + m5)) fun e w' => e = .returned (.tuple #[.int .i64 0, .int .i64 0, .bool false]) ∧ ∃ n, w' = (V.drewN (m4 + m5)).drewN n := by
    have E : (V.drewN m4).drewN m5 = V.drewN (m4 + m5) := by simp [World.drewN, Nat.add_assoc]
    rw [← E]
    exact hT3
  go_wp2_with fail
  refine hT4.mono ?_
  rintro e w6 ⟨rfl, m6, rfl⟩
  obtain ⟨Y, hY⟩ : ∃ Y, V.drewN (m4 + m5 + m6) = Y := ⟨_, rfl⟩
  have SY : Sa g B p2 (Ls.new a.a id) Y := by rw [← hY]; exact HSV.out.drawn _
  have qY : Qb k2 F8.nul Y := by rw [← hY]; exact Qb.drawn Hq2.out _
  have BY : Below B w Y := by rw [← hY]; exact below_drawn HBV.out _
  have lY := qY.load
  have hMd := lmode_any SY
  have em : (Ls.new a.a id).mode = 0 := rfl
  rw [em] at hMd
  have HLY := HL.out Y
  have HBY := hidOf2 BY
  have E1 : (V.drewN (m4 + m5)).drewN m6 = Y := by rw [← hY]; simp [World.drewN, Nat.add_assoc]
  have HY := hidOf2 hY
  have HE1 := hidOf2 E1
  clear SY qY BY em hY hT3 hT4 hR hI E1
  go_upto_region 10 with fail
  first | rw [HY.out] | rw [HE1.out]
  go_wp2_with (first | (refine ldG lY rfl _ rfl rfl ?_) | (refine eqF F8.nul F8.nul rfl _ _ rfl rfl rfl ?_; simp only [decide_true]))
  refine hMd.mono ?_
  rintro e w7 ⟨rfl, hw7⟩
  rw [hw7]
  go_wp2_with fail
  refine HLY.mono ?_
  rintro e w8 ⟨rfl, B8⟩
  go_wp2
  go_ret
  exact ⟨rfl, HBY.out.trans (B8.mono (by have := HBY.out.size; omega))⟩
set_option maxHeartbeats 4000000 in
theorem lwai91 (a : A4k) (id : Int) (h : 0 ≤ id ∧ id ≤ 127) (q : F8) (hc : q.b0.toNat = 91) (w : World) : Calls Try.prog 7 #[.agg a.a.arr, .int .i64 id, .agg q.arr] w fun r w' => r = .returned (.bool true) ∧ Below w.heap.size w w' := by
  obtain ⟨X, B, hX, hq, bX, qX, B0, sX⟩ := box2 w a.a q
  have lX := load_a4 bX
  have hN := lnew_ok a.a id h X
  have HL : Hid (∀ y, Calls Try.prog 10 #[] y fun e w' => e = .returned (.bool true) ∧ Below y.heap.size y w') := fun y => lives19_any y
  obtain ⟨g, hg⟩ : ∃ g, X.heap.size + 1 = g := ⟨_, rfl⟩
  rw [hg] at hN
  have HB0 := hidOf2 B0
  have HQ := hidOf2 qX
  have HX : Hid (X.heap.size = B + 2 ∧ g = B + 3) := ⟨sX, by omega⟩
  have o0 := Ls.new_ok a.ok h
  rw [hq]
  have HW := wait_none (s := Ls.new a.a id) (q := q) rfl (by omega)
  have HM : Hid (q.b0.toNat = 91) := hc
  have HT : Hid (∀ y, Sa g B none (Ls.new a.a id) y → B < y.heap.size → Calls Try.prog 15 #[.pointer (some ⟨g, 0, none⟩), .agg q.arr] y (PostF g B (Ls.new a.a id) (F8.nul, false) y)) := fun y hy hb => by
    have := take_any hy hb o0 q
    rw [HW.1, HW.2] at this
    exact this
  clear bX qX B0 h sX hg o0 hc HW
  go_enter Try.func7, Try.ntmps7
  go_wp2_with (refine ldG lX rfl _ rfl rfl ?_)
  refine hN.mono ?_
  rintro e w1 ⟨rfl, N1, B1⟩
  have K := HX.out
  have q1 := HQ.out.below B1
  have u0 := q1.c0
  rw [HM.out] at u0
  have l1 := q1.load
  have hT := HT.out w1 (N1 B (by omega)) (by have := B1.size; omega)
  have HB1 := hidOf2 B1
  have HBw : Hid (Below B w w1) := HB0.out.trans (HB1.out.mono (by omega))
  clear N1 B1 hN K HM q1
  go_upto_region 6 with fail
  go_wp2_with (refine ldG l1 rfl _ rfl rfl ?_)
  refine hT.mono ?_
  rintro e w2 ⟨rfl, ⟨p2, S2⟩, T2⟩
  obtain ⟨V, k2, hV, hk2, z2, q2, t2, l2⟩ := lay8 w2 F8.nul
  have K := HX.out
  have SV : Sa g B p2 (Ls.new a.a id) V := by rw [← hV]; exact (S2.alloc _).row z2 _
  have BV : Below B w V := (HBw.out.trans (T2.below (by have := HBw.out.size; have := HB1.out.size; omega) (by omega) (by omega))).trans (t2.below (by have := HBw.out.size; have := T2.size; have := HB1.out.size; omega) (by have := T2.size; have := HB1.out.size; omega) (by have := T2.size; have := HB1.out.size; omega))
  have hI : Calls Try.prog 17 #[.pointer (some ⟨g, 0, none⟩)] V fun e w' => e = .returned (.tuple #[.int .i64 id, .int .i64 id]) ∧ ∃ n, w' = V.drewN n := lid_any SV
  have hV' := hV
  unfold zA8 at hV'
  have HV := hidOf2 hV'
  have HSV := hidOf2 SV
  have HBV := hidOf2 BV
  have Hq2 := hidOf2 q2
  have zA : Qb k2 F8.nul (w2.alloc (.cells zA8 34)) := z2
  clear hT S2 T2 t2 l2 SV BV hV hV' q2 HBw HB1 l1 z2 u0 K
  go_wp2_with (first | (refine sdF (g := F8.nul) zA rfl _ _ rfl rfl rfl ?_))
  rw [HV.out]
  refine hI.mono ?_
  rintro e w4 ⟨rfl, m4, rfl⟩
  have hR : Calls Try.prog 21 #[.pointer (some ⟨g, 0, none⟩)] (V.drewN m4) fun e w' => e = .returned (.tuple #[.int .i64 0, .int .i64 0]) ∧ ∃ n, w' = (V.drewN m4).drewN n := lrate_any (HSV.out.drawn m4)
  go_wp2_with fail
  refine hR.mono ?_
  rintro e w5 ⟨rfl, m5, rfl⟩
  have hT3 := lstored_any ((HSV.out.drawn m4).drawn m5)
  have eT : (Ls.new a.a id).sto = .tuple #[.int .i64 0, .int .i64 0, .bool false] := rfl
  rw [eT] at hT3
  clear eT
  have hT4 : Calls Try.prog 18 #[.pointer (some ⟨g, 0, none⟩)] (V.drewN (m4 + m5)) fun e w' => e = .returned (.tuple #[.int .i64 0, .int .i64 0, .bool false]) ∧ ∃ n, w' = (V.drewN (m4 + m5)).drewN n := by
    have E : (V.drewN m4).drewN m5 = V.drewN (m4 + m5) := by simp [World.drewN, Nat.add_assoc]
    rw [← E]
    exact hT3
  go_wp2_with fail
  refine hT4.mono ?_
  rintro e w6 ⟨rfl, m6, rfl⟩
  obtain ⟨Y, hY⟩ : ∃ Y, V.drewN (m4 + m5 + m6) = Y := ⟨_, rfl⟩
  have SY : Sa g B p2 (Ls.new a.a id) Y := by rw [← hY]; exact HSV.out.drawn _
  have qY : Qb k2 F8.nul Y := by rw [← hY]; exact Qb.drawn Hq2.out _
  have BY : Below B w Y := by rw [← hY]; exact below_drawn HBV.out _
  have lY := qY.load
  have hMd := lmode_any SY
  have em : (Ls.new a.a id).mode = 0 := rfl
  rw [em] at hMd
  have HLY := HL.out Y
  have HBY := hidOf2 BY
  have E1 : (V.drewN (m4 + m5)).drewN m6 = Y := by rw [← hY]; simp [World.drewN, Nat.add_assoc]
  have HY := hidOf2 hY
  have HE1 := hidOf2 E1
  clear SY qY BY em hY hT3 hT4 hR hI E1
  go_upto_region 10 with fail
  first | rw [HY.out] | rw [HE1.out]
  go_wp2_with (first | (refine ldG lY rfl _ rfl rfl ?_) | (refine eqF F8.nul F8.nul rfl _ _ rfl rfl rfl ?_; simp only [decide_true]))
  refine hMd.mono ?_
  rintro e w7 ⟨rfl, hw7⟩
  rw [hw7]
  go_wp2_with fail
  refine HLY.mono ?_
  rintro e w8 ⟨rfl, B8⟩
  go_wp2
  go_ret
  exact ⟨rfl, HBY.out.trans (B8.mono (by have := HBY.out.size; omega))⟩
set_option maxHeartbeats 4000000 in
theorem lwai92 (a : A4k) (id : Int) (h : 0 ≤ id ∧ id ≤ 127) (q : F8) (hc : q.b0.toNat = 92) (w : World) : Calls Try.prog 7 #[.agg a.a.arr, .int .i64 id, .agg q.arr] w fun r w' => r = .returned (.bool true) ∧ Below w.heap.size w w' := by
  obtain ⟨X, B, hX, hq, bX, qX, B0, sX⟩ := box2 w a.a q
  have lX := load_a4 bX
  have hN := lnew_ok a.a id h X
  have HL : Hid (∀ y, Calls Try.prog 10 #[] y fun e w' => e = .returned (.bool true) ∧ Below y.heap.size y w') := fun y => lives19_any y
  obtain ⟨g, hg⟩ : ∃ g, X.heap.size + 1 = g := ⟨_, rfl⟩
  rw [hg] at hN
  have HB0 := hidOf2 B0
  have HQ := hidOf2 qX
  have HX : Hid (X.heap.size = B + 2 ∧ g = B + 3) := ⟨sX, by omega⟩
  have o0 := Ls.new_ok a.ok h
  rw [hq]
  have HW := wait_none (s := Ls.new a.a id) (q := q) rfl (by omega)
  have HM : Hid (q.b0.toNat = 92) := hc
  have HT : Hid (∀ y, Sa g B none (Ls.new a.a id) y → B < y.heap.size → Calls Try.prog 15 #[.pointer (some ⟨g, 0, none⟩), .agg q.arr] y (PostF g B (Ls.new a.a id) (F8.nul, false) y)) := fun y hy hb => by
    have := take_any hy hb o0 q
    rw [HW.1, HW.2] at this
    exact this
  clear bX qX B0 h sX hg o0 hc HW
  go_enter Try.func7, Try.ntmps7
  go_wp2_with (refine ldG lX rfl _ rfl rfl ?_)
  refine hN.mono ?_
  rintro e w1 ⟨rfl, N1, B1⟩
  have K := HX.out
  have q1 := HQ.out.below B1
  have u0 := q1.c0
  rw [HM.out] at u0
  have l1 := q1.load
  have hT := HT.out w1 (N1 B (by omega)) (by have := B1.size; omega)
  have HB1 := hidOf2 B1
  have HBw : Hid (Below B w w1) := HB0.out.trans (HB1.out.mono (by omega))
  clear N1 B1 hN K HM q1
  go_upto_region 6 with fail
  go_wp2_with (refine ldG l1 rfl _ rfl rfl ?_)
  refine hT.mono ?_
  rintro e w2 ⟨rfl, ⟨p2, S2⟩, T2⟩
  obtain ⟨V, k2, hV, hk2, z2, q2, t2, l2⟩ := lay8 w2 F8.nul
  have K := HX.out
  have SV : Sa g B p2 (Ls.new a.a id) V := by rw [← hV]; exact (S2.alloc _).row z2 _
  have BV : Below B w V := (HBw.out.trans (T2.below (by have := HBw.out.size; have := HB1.out.size; omega) (by omega) (by omega))).trans (t2.below (by have := HBw.out.size; have := T2.size; have := HB1.out.size; omega) (by have := T2.size; have := HB1.out.size; omega) (by have := T2.size; have := HB1.out.size; omega))
  have hI : Calls Try.prog 17 #[.pointer (some ⟨g, 0, none⟩)] V fun e w' => e = .returned (.tuple #[.int .i64 id, .int .i64 id]) ∧ ∃ n, w' = V.drewN n := lid_any SV
  have hV' := hV
  unfold zA8 at hV'
  have HV := hidOf2 hV'
  have HSV := hidOf2 SV
  have HBV := hidOf2 BV
  have Hq2 := hidOf2 q2
  have zA : Qb k2 F8.nul (w2.alloc (.cells zA8 34)) := z2
  clear hT S2 T2 t2 l2 SV BV hV hV' q2 HBw HB1 l1 z2 u0 K
  go_wp2_with (first | (refine sdF (g := F8.nul) zA rfl _ _ rfl rfl rfl ?_))
  rw [HV.out]
  refine hI.mono ?_
  rintro e w4 ⟨rfl, m4, rfl⟩
  have hR : Calls Try.prog 21 #[.pointer (some ⟨g, 0, none⟩)] (V.drewN m4) fun e w' => e = .returned (.tuple #[.int .i64 0, .int .i64 0]) ∧ ∃ n, w' = (V.drewN m4).drewN n := lrate_any (HSV.out.drawn m4)
  go_wp2_with fail
  refine hR.mono ?_
  rintro e w5 ⟨rfl, m5, rfl⟩
  have hT3 := lstored_any ((HSV.out.drawn m4).drawn m5)
  have eT : (Ls.new a.a id).sto = .tuple #[.int .i64 0, .int .i64 0, .bool false] := rfl
  rw [eT] at hT3
  clear eT
  have hT4 : Calls Try.prog 18 #[.pointer (some ⟨g, 0, none⟩)] (V.drewN (m4 + m5)) fun e w' => e = .returned (.tuple #[.int .i64 0, .int .i64 0, .bool false]) ∧ ∃ n, w' = (V.drewN (m4 + m5)).drewN n := by
    have E : (V.drewN m4).drewN m5 = V.drewN (m4 + m5) := by simp [World.drewN, Nat.add_assoc]
    rw [← E]
    exact hT3
  go_wp2_with fail
  refine hT4.mono ?_
  rintro e w6 ⟨rfl, m6, rfl⟩
  obtain ⟨Y, hY⟩ : ∃ Y, V.drewN (m4 + m5 + m6) = Y := ⟨_, rfl⟩
  have SY : Sa g B p2 (Ls.new a.a id) Y := by rw [← hY]; exact HSV.out.drawn _
  have qY : Qb k2 F8.nul Y := by rw [← hY]; exact Qb.drawn Hq2.out _
  have BY : Below B w Y := by rw [← hY]; exact below_drawn HBV.out _
  have lY := qY.load
  have hMd := lmode_any SY
  have em : (Ls.new a.a id).mode = 0 := rfl
  rw [em] at hMd
  have HLY := HL.out Y
  have HBY := hidOf2 BY
  have E1 : (V.drewN (m4 + m5)).drewN m6 = Y := by rw [← hY]; simp [World.drewN, Nat.add_assoc]
  have HY := hidOf2 hY
  have HE1 := hidOf2 E1
  clear SY qY BY em hY hT3 hT4 hR hI E1
  go_upto_region 10 with fail
  first | rw [HY.out] | rw [HE1.out]
  go_wp2_with (first | (refine ldG lY rfl _ rfl rfl ?_) | (refine eqF F8.nul F8.nul rfl _ _ rfl rfl rfl ?_; simp only [decide_true]))
  refine hMd.mono ?_
  rintro e w7 ⟨rfl, hw7⟩
  rw [hw7]
  go_wp2_with fail
  refine HLY.mono ?_
  rintro e w8 ⟨rfl, B8⟩
  go_wp2
  go_ret
  exact ⟨rfl, HBY.out.trans (B8.mono (by have := HBY.out.size; omega))⟩
set_option maxHeartbeats 4000000 in
theorem lwai93 (a : A4k) (id : Int) (h : 0 ≤ id ∧ id ≤ 127) (q : F8) (hc : q.b0.toNat = 93) (w : World) : Calls Try.prog 7 #[.agg a.a.arr, .int .i64 id, .agg q.arr] w fun r w' => r = .returned (.bool true) ∧ Below w.heap.size w w' := by
  obtain ⟨X, B, hX, hq, bX, qX, B0, sX⟩ := box2 w a.a q
  have lX := load_a4 bX
  have hN := lnew_ok a.a id h X
  have HL : Hid (∀ y, Calls Try.prog 10 #[] y fun e w' => e = .returned (.bool true) ∧ Below y.heap.size y w') := fun y => lives19_any y
  obtain ⟨g, hg⟩ : ∃ g, X.heap.size + 1 = g := ⟨_, rfl⟩
  rw [hg] at hN
  have HB0 := hidOf2 B0
  have HQ := hidOf2 qX
  have HX : Hid (X.heap.size = B + 2 ∧ g = B + 3) := ⟨sX, by omega⟩
  have o0 := Ls.new_ok a.ok h
  rw [hq]
  have HW := wait_none (s := Ls.new a.a id) (q := q) rfl (by omega)
  have HM : Hid (q.b0.toNat = 93) := hc
  have HT : Hid (∀ y, Sa g B none (Ls.new a.a id) y → B < y.heap.size → Calls Try.prog 15 #[.pointer (some ⟨g, 0, none⟩), .agg q.arr] y (PostF g B (Ls.new a.a id) (F8.nul, false) y)) := fun y hy hb => by
    have := take_any hy hb o0 q
    rw [HW.1, HW.2] at this
    exact this
  clear bX qX B0 h sX hg o0 hc HW
  go_enter Try.func7, Try.ntmps7
  go_wp2_with (refine ldG lX rfl _ rfl rfl ?_)
  refine hN.mono ?_
  rintro e w1 ⟨rfl, N1, B1⟩
  have K := HX.out
  have q1 := HQ.out.below B1
  have u0 := q1.c0
  rw [HM.out] at u0
  have l1 := q1.load
  have hT := HT.out w1 (N1 B (by omega)) (by have := B1.size; omega)
  have HB1 := hidOf2 B1
  have HBw : Hid (Below B w w1) := HB0.out.trans (HB1.out.mono (by omega))
  clear N1 B1 hN K HM q1
  go_upto_region 6 with fail
  go_wp2_with (refine ldG l1 rfl _ rfl rfl ?_)
  refine hT.mono ?_
  rintro e w2 ⟨rfl, ⟨p2, S2⟩, T2⟩
  obtain ⟨V, k2, hV, hk2, z2, q2, t2, l2⟩ := lay8 w2 F8.nul
  have K := HX.out
  have SV : Sa g B p2 (Ls.new a.a id) V := by rw [← hV]; exact (S2.alloc _).row z2 _
  have BV : Below B w V := (HBw.out.trans (T2.below (by have := HBw.out.size; have := HB1.out.size; omega) (by omega) (by omega))).trans (t2.below (by have := HBw.out.size; have := T2.size; have := HB1.out.size; omega) (by have := T2.size; have := HB1.out.size; omega) (by have := T2.size; have := HB1.out.size; omega))
  have hI : Calls Try.prog 17 #[.pointer (some ⟨g, 0, none⟩)] V fun e w' => e = .returned (.tuple #[.int .i64 id, .int .i64 id]) ∧ ∃ n, w' = V.drewN n := lid_any SV
  have hV' := hV
  unfold zA8 at hV'
  have HV := hidOf2 hV'
  have HSV := hidOf2 SV
  have HBV := hidOf2 BV
  have Hq2 := hidOf2 q2
  have zA : Qb k2 F8.nul (w2.alloc (.cells zA8 34)) := z2
  clear hT S2 T2 t2 l2 SV BV hV hV' q2 HBw HB1 l1 z2 u0 K
  go_wp2_with (first | (refine sdF (g := F8.nul) zA rfl _ _ rfl rfl rfl ?_))
  rw [HV.out]
  refine hI.mono ?_
  rintro e w4 ⟨rfl, m4, rfl⟩
  have hR : Calls Try.prog 21 #[.pointer (some ⟨g, 0, none⟩)] (V.drewN m4) fun e w' => e = .returned (.tuple #[.int .i64 0, .int .i64 0]) ∧ ∃ n, w' = (V.drewN m4).drewN n := lrate_any (HSV.out.drawn m4)
  go_wp2_with fail
  refine hR.mono ?_
  rintro e w5 ⟨rfl, m5, rfl⟩
  have hT3 := lstored_any ((HSV.out.drawn m4).drawn m5)
  have eT : (Ls.new a.a id).sto = .tuple #[.int .i64 0, .int .i64 0, .bool false] := rfl
  rw [eT] at hT3
  clear eT
  have hT4 : Calls Try.prog 18 #[.pointer (some ⟨g, 0, none⟩)] (V.drewN (m4 + m5)) fun e w' => e = .returned (.tuple #[.int .i64 0, .int .i64 0, .bool false]) ∧ ∃ n, w' = (V.drewN (m4 + m5)).drewN n := by
    have E : (V.drewN m4).drewN m5 = V.drewN (m4 + m5) := by simp [World.drewN, Nat.add_assoc]
    rw [← E]
    exact hT3
  go_wp2_with fail
  refine hT4.mono ?_
  rintro e w6 ⟨rfl, m6, rfl⟩
  obtain ⟨Y, hY⟩ : ∃ Y, V.drewN (m4 + m5 + m6) = Y := ⟨_, rfl⟩
  have SY : Sa g B p2 (Ls.new a.a id) Y := by rw [← hY]; exact HSV.out.drawn _
  have qY : Qb k2 F8.nul Y := by rw [← hY]; exact Qb.drawn Hq2.out _
  have BY : Below B w Y := by rw [← hY]; exact below_drawn HBV.out _
  have lY := qY.load
  have hMd := lmode_any SY
  have em : (Ls.new a.a id).mode = 0 := rfl
  rw [em] at hMd
  have HLY := HL.out Y
  have HBY := hidOf2 BY
  have E1 : (V.drewN (m4 + m5)).drewN m6 = Y := by rw [← hY]; simp [World.drewN, Nat.add_assoc]
  have HY := hidOf2 hY
  have HE1 := hidOf2 E1
  clear SY qY BY em hY hT3 hT4 hR hI E1
  go_upto_region 10 with fail
  first | rw [HY.out] | rw [HE1.out]
  go_wp2_with (first | (refine ldG lY rfl _ rfl rfl ?_) | (refine eqF F8.nul F8.nul rfl _ _ rfl rfl rfl ?_; simp only [decide_true]))
  refine hMd.mono ?_
  rintro e w7 ⟨rfl, hw7⟩
  rw [hw7]
  go_wp2_with fail
  refine HLY.mono ?_
  rintro e w8 ⟨rfl, B8⟩
  go_wp2
  go_ret
  exact ⟨rfl, HBY.out.trans (B8.mono (by have := HBY.out.size; omega))⟩
set_option maxHeartbeats 4000000 in
theorem lwai94 (a : A4k) (id : Int) (h : 0 ≤ id ∧ id ≤ 127) (q : F8) (hc : q.b0.toNat = 94) (w : World) : Calls Try.prog 7 #[.agg a.a.arr, .int .i64 id, .agg q.arr] w fun r w' => r = .returned (.bool true) ∧ Below w.heap.size w w' := by
  obtain ⟨X, B, hX, hq, bX, qX, B0, sX⟩ := box2 w a.a q
  have lX := load_a4 bX
  have hN := lnew_ok a.a id h X
  have HL : Hid (∀ y, Calls Try.prog 10 #[] y fun e w' => e = .returned (.bool true) ∧ Below y.heap.size y w') := fun y => lives19_any y
  obtain ⟨g, hg⟩ : ∃ g, X.heap.size + 1 = g := ⟨_, rfl⟩
  rw [hg] at hN
  have HB0 := hidOf2 B0
  have HQ := hidOf2 qX
  have HX : Hid (X.heap.size = B + 2 ∧ g = B + 3) := ⟨sX, by omega⟩
  have o0 := Ls.new_ok a.ok h
  rw [hq]
  have HW := wait_none (s := Ls.new a.a id) (q := q) rfl (by omega)
  have HM : Hid (q.b0.toNat = 94) := hc
  have HT : Hid (∀ y, Sa g B none (Ls.new a.a id) y → B < y.heap.size → Calls Try.prog 15 #[.pointer (some ⟨g, 0, none⟩), .agg q.arr] y (PostF g B (Ls.new a.a id) (F8.nul, false) y)) := fun y hy hb => by
    have := take_any hy hb o0 q
    rw [HW.1, HW.2] at this
    exact this
  clear bX qX B0 h sX hg o0 hc HW
  go_enter Try.func7, Try.ntmps7
  go_wp2_with (refine ldG lX rfl _ rfl rfl ?_)
  refine hN.mono ?_
  rintro e w1 ⟨rfl, N1, B1⟩
  have K := HX.out
  have q1 := HQ.out.below B1
  have u0 := q1.c0
  rw [HM.out] at u0
  have l1 := q1.load
  have hT := HT.out w1 (N1 B (by omega)) (by have := B1.size; omega)
  have HB1 := hidOf2 B1
  have HBw : Hid (Below B w w1) := HB0.out.trans (HB1.out.mono (by omega))
  clear N1 B1 hN K HM q1
  go_upto_region 6 with fail
  go_wp2_with (refine ldG l1 rfl _ rfl rfl ?_)
  refine hT.mono ?_
  rintro e w2 ⟨rfl, ⟨p2, S2⟩, T2⟩
  obtain ⟨V, k2, hV, hk2, z2, q2, t2, l2⟩ := lay8 w2 F8.nul
  have K := HX.out
  have SV : Sa g B p2 (Ls.new a.a id) V := by rw [← hV]; exact (S2.alloc _).row z2 _
  have BV : Below B w V := (HBw.out.trans (T2.below (by have := HBw.out.size; have := HB1.out.size; omega) (by omega) (by omega))).trans (t2.below (by have := HBw.out.size; have := T2.size; have := HB1.out.size; omega) (by have := T2.size; have := HB1.out.size; omega) (by have := T2.size; have := HB1.out.size; omega))
  have hI : Calls Try.prog 17 #[.pointer (some ⟨g, 0, none⟩)] V fun e w' => e = .returned (.tuple #[.int .i64 id, .int .i64 id]) ∧ ∃ n, w' = V.drewN n := lid_any SV
  have hV' := hV
  unfold zA8 at hV'
  have HV := hidOf2 hV'
  have HSV := hidOf2 SV
  have HBV := hidOf2 BV
  have Hq2 := hidOf2 q2
  have zA : Qb k2 F8.nul (w2.alloc (.cells zA8 34)) := z2
  clear hT S2 T2 t2 l2 SV BV hV hV' q2 HBw HB1 l1 z2 u0 K
  go_wp2_with (first | (refine sdF (g := F8.nul) zA rfl _ _ rfl rfl rfl ?_))
  rw [HV.out]
  refine hI.mono ?_
  rintro e w4 ⟨rfl, m4, rfl⟩
  have hR : Calls Try.prog 21 #[.pointer (some ⟨g, 0, none⟩)] (V.drewN m4) fun e w' => e = .returned (.tuple #[.int .i64 0, .int .i64 0]) ∧ ∃ n, w' = (V.drewN m4).drewN n := lrate_any (HSV.out.drawn m4)
  go_wp2_with fail
  refine hR.mono ?_
  rintro e w5 ⟨rfl, m5, rfl⟩
  have hT3 := lstored_any ((HSV.out.drawn m4).drawn m5)
  have eT : (Ls.new a.a id).sto = .tuple #[.int .i64 0, .int .i64 0, .bool false] := rfl
  rw [eT] at hT3
  clear eT
  have hT4 : Calls Try.prog 18 #[.pointer (some ⟨g, 0, none⟩)] (V.drewN (m4 + m5)) fun e w' => e = .returned (.tuple #[.int .i64 0, .int .i64 0, .bool false]) ∧ ∃ n, w' = (V.drewN (m4 + m5)).drewN n := by
    have E : (V.drewN m4).drewN m5 = V.drewN (m4 + m5) := by simp [World.drewN, Nat.add_assoc]
    rw [← E]
    exact hT3
  go_wp2_with fail
  refine hT4.mono ?_
  rintro e w6 ⟨rfl, m6, rfl⟩
  obtain ⟨Y, hY⟩ : ∃ Y, V.drewN (m4 + m5 + m6) = Y := ⟨_, rfl⟩
  have SY : Sa g B p2 (Ls.new a.a id) Y := by rw [← hY]; exact HSV.out.drawn _
  have qY : Qb k2 F8.nul Y := by rw [← hY]; exact Qb.drawn Hq2.out _
  have BY : Below B w Y := by rw [← hY]; exact below_drawn HBV.out _
  have lY := qY.load
  have hMd := lmode_any SY
  have em : (Ls.new a.a id).mode = 0 := rfl
  rw [em] at hMd
  have HLY := HL.out Y
  have HBY := hidOf2 BY
  have E1 : (V.drewN (m4 + m5)).drewN m6 = Y := by rw [← hY]; simp [World.drewN, Nat.add_assoc]
  have HY := hidOf2 hY
  have HE1 := hidOf2 E1
  clear SY qY BY em hY hT3 hT4 hR hI E1
  go_upto_region 10 with fail
  first | rw [HY.out] | rw [HE1.out]
  go_wp2_with (first | (refine ldG lY rfl _ rfl rfl ?_) | (refine eqF F8.nul F8.nul rfl _ _ rfl rfl rfl ?_; simp only [decide_true]))
  refine hMd.mono ?_
  rintro e w7 ⟨rfl, hw7⟩
  rw [hw7]
  go_wp2_with fail
  refine HLY.mono ?_
  rintro e w8 ⟨rfl, B8⟩
  go_wp2
  go_ret
  exact ⟨rfl, HBY.out.trans (B8.mono (by have := HBY.out.size; omega))⟩
theorem lwai_walk (a : A4k) (id : Int) (q : F8) (w : World) : Calls Try.prog 7 #[.agg a.a.arr, .int .i64 id, .agg q.arr] w fun r w' => r = .returned (.bool true) ∧ Below w.heap.size w w' := by
  by_cases h : 0 ≤ id ∧ id ≤ 127
  · by_cases h17 : q.b0.toNat = 17
    · exact lwai17 a id h q h17 w
    by_cases h19 : q.b0.toNat = 19
    · exact lwai19 a id h q h19 w
    by_cases h21 : q.b0.toNat = 21
    · exact lwai21 a id h q h21 w
    by_cases h23 : q.b0.toNat = 23
    · exact lwai23 a id h q h23 w
    by_cases h90 : q.b0.toNat = 90
    · exact lwai90 a id h q h90 w
    by_cases h91 : q.b0.toNat = 91
    · exact lwai91 a id h q h91 w
    by_cases h92 : q.b0.toNat = 92
    · exact lwai92 a id h q h92 w
    by_cases h93 : q.b0.toNat = 93
    · exact lwai93 a id h q h93 w
    by_cases h94 : q.b0.toNat = 94
    · exact lwai94 a id h q h94 w
    by_cases hl : q.b0.toNat < 90
    · exact lwai_lo a id h q ⟨h17, h19, h21, h23, hl⟩ w
    · exact lwai_hi a id h q ⟨h17, h19, h21, h23, by omega⟩ w
  · exact lwai_bad a id h q w
end Go.Proofs.Ythbmbabndhpdkaa
