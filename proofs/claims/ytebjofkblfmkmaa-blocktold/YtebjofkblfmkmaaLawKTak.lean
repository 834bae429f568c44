/- BlockTakes: a receiver answers whatever frames come as the document says. -/
import Derived.Test.YtebjofkblfmkmaaBkJ2
import Derived.Test.YtebjofkblfmkmaaBkL1
import Derived.Test.YtebjofkblfmkmaaBkOr
import Derived.Deep.DeepCutAuto
namespace Go.Proofs.Ytebjofkblfmkmaa
open Go.RowKit Go.Proofs.Ty Go.Proofs.Bits
set_option linter.unusedVariables false
set_option maxRecDepth 1000000
set_option linter.unusedSimpArgs false
theorem opE {w : World} {ops : Array Oper} {rest : List Oper} {o : Oper} {a : Act} {Q : Exit → Act → World → Prop} {v : Value} (hgd : Region.wanted o (yielded ops a.tmps) = true) (hr : (execOp a.eval o).run Try.prog w = .ok (.value v) w)
    (hh : wpList Try.prog ops Q rest (a.put o.dst v) w) : wpList Try.prog ops Q (o :: rest) a w := by
  refine BigFrame.wpList_want hgd fun K hK => ?_
  have h2 := hK _ _ hh
  unfold Oper.wp
  rw [hr]
  exact h2
theorem exec_convS {a : Act} {o : Oper} {x : Operand} {t u : TypeId} {v r : Value} {w : World} (ho : o.op = .convert t u x) (hx : a.eval x = v) (hr : (convert t u v).run Try.prog w = .ok r w) : (execOp a.eval o).run Try.prog w = .ok (.value r) w := by
  unfold execOp
  simp only [ho, hx, Sem.run_bind, hr, Result.andThen_ok]
  rfl
theorem exec_eqSt {a : Act} {o : Oper} {x y : Operand} {s : ByteArray} (ho : o.op = .binOp .eql 9 x y 9) (hx : a.eval x = .string s) (hy : a.eval y = .string s) (w : World) : (execOp a.eval o).run Try.prog w = .ok (.value (.bool true)) w := by
  unfold execOp
  simp only [ho, hx, hy]
  simp [go_sem, run_underlying Try.underlying9]
theorem exec_eqU {a : Act} {o : Oper} {x y : Operand} {m : Int} (ho : o.op = .binOp .eql 32 x y 32) (hx : a.eval x = .int .u32 m) (hy : a.eval y = .int .u32 m) (w : World) : (execOp a.eval o).run Try.prog w = .ok (.value (.bool true)) w := by
  unfold execOp
  simp only [ho, hx, hy]
  simp [go_sem, run_underlying Try.underlying32]
theorem enLV : ∀ args x, (callFunc 7 args).run Try.prog x = .ok (.enter 7 args) x := fun _ _ => by rfl
set_option maxHeartbeats 16000000 in
theorem ktak_walk (z : Int) (hz : -9223372036854775808 ≤ z ∧ z < 9223372036854775808) (w : World) (va : Value) (la : List F8) (hWa : Wide 8 F8.c w va la) (hcap : ∀ ao n cap, va = .slice ao n cap → n ≤ cap) (hla : la.length * 8 ≤ 140737488351232) (vb : Value) (lb : List Bool) (hWb : Wide 1 boC w vb lb) (hlb : lb.length ≤ 140737488351232) :
    Calls Try.prog 4 #[.int .i64 z, va, vb] w fun e w' => e = .returned (.bool true) ∧ Below w.heap.size w w' := by
  have HLV := hidOf2 lives12_any
  obtain ⟨aa, ca, hva⟩ : ∃ ao cap, va = .slice ao la.length cap := by obtain ⟨ao, cap, h, _⟩ := hWa; exact ⟨ao, cap, h⟩
  obtain ⟨na, hna⟩ : ∃ n, la.length = n := ⟨_, rfl⟩
  have HNA := hidOf2 hna
  rw [hna] at hva hla
  subst hva
  have hca := hcap _ _ _ rfl
  have HWA := hidOf2 hWa
  obtain ⟨ab, cb, hvb⟩ : ∃ ao cap, vb = .slice ao lb.length cap := by obtain ⟨ao, cap, h, _⟩ := hWb; exact ⟨ao, cap, h⟩
  obtain ⟨nb, hnb⟩ : ∃ n, lb.length = n := ⟨_, rfl⟩
  have HNB := hidOf2 hnb
  rw [hnb] at hvb hlb
  subst hvb
  have HWB : Hid (∀ y, Below w.heap.size w y → ∀ k, k < nb → ∃ b off bb, ab = some ⟨b, off, none⟩ ∧ y.cell? ⟨b, off + k, none⟩ = some (.bool bb)) := fun y hy k hk => by
    obtain ⟨ao', cap', he, _, hc⟩ := hWb
    injection he with he
    obtain ⟨b, off, ha, hlt, hr⟩ := hc k (by rw [HNB.out]; exact hk)
    have := hr 0 _ rfl
    rw [Nat.mul_one, Nat.add_zero] at this
    exact ⟨b, off, _, he.trans ha, (hy.cell (p := ⟨b, off + k, none⟩) hlt).trans this⟩
  clear hna hWa hcap hnb hWb
  by_cases hbad : ¬ (1 ≤ z ∧ z ≤ 127)
  · have hNR := NewReceiver_bad z hbad w
    have hV := HLV.out w
    by_cases h1 : z < 1
    · have d1 : decide (z < 1) = true := by simp; omega
      go_enter Try.func4, Try.ntmps4
      go_wp2_with (first | (go_at_call 14; refine hNR.mono ?_; rintro e w3 ⟨rfl, hw3⟩; rw [hw3]; clear hw3 w3) | (go_at_call 7; refine hV.mono ?_; rintro e w4 ⟨rfl, b4⟩))
      go_ret
      exact ⟨rfl, b4⟩
    · have d1 : decide (z < 1) = false := by simp; omega
      have d2 : decide (127 < z) = true := by simp; omega
      go_enter Try.func4, Try.ntmps4
      go_wp2_with (first | (go_at_call 14; refine hNR.mono ?_; rintro e w3 ⟨rfl, hw3⟩; rw [hw3]; clear hw3 w3) | (go_at_call 7; refine hV.mono ?_; rintro e w4 ⟨rfl, b4⟩))
      go_ret
      exact ⟨rfl, b4⟩
  · obtain ⟨size, rfl⟩ : ∃ n : Nat, z = (n : Int) := ⟨z.toNat, by omega⟩
    have h1 : 1 ≤ size := by omega
    have h2 : size ≤ 127 := by omega
    have d1 : decide ((size : Int) < 1) = false := by simp; omega
    have d2 : decide (127 < (size : Int)) = false := by simp; omega
    have hNR := NewReceiver_any size h1 h2 w
    obtain ⟨R, hR⟩ : ∃ R, w.heap.size = R := ⟨_, rfl⟩
    rw [hR] at hNR
    clear hbad
    go_enter Try.func4, Try.ntmps4
    go_upto_region 6 with (first | (go_at_call 14; refine hNR.mono ?_; rintro e w3 ⟨rfl, r3, b3⟩; have HR3 := hidOf2 r3; have HB3 := hidOf2 b3; clear r3 b3))
    have HX : Hid (∀ Z, Z = w3.alloc (.cells #[.int .i64 (size : Int), .int .i64 0, .int .i64 0, .int .u8 0, .int .u8 0, .int .u8 0, .int .u8 0, .int .u8 0, .int .u8 0, .int .u8 0, .int .u8 0, .slice none 0 0, .int .u32 0] 47) → Bt w R w3.heap.size (Rc.new size) (Rc.new size) (.slice none 0 0) (.slice none 0 0) Z) := fun Z hZ => by
      subst hZ
      have bz : Below w3.heap.size w3 (w3.alloc (.cells #[.int .i64 (size : Int), .int .i64 0, .int .i64 0, .int .u8 0, .int .u8 0, .int .u8 0, .int .u8 0, .int .u8 0, .int .u8 0, .int .u8 0, .int .u8 0, .slice none 0 0, .int .u32 0] 47)) := (Below.refl _ _).alloc (Nat.le_refl _) _
      have HB3' : Below w.heap.size w w3 := by rw [hR]; exact HB3.out
      refine ⟨HR3.out.below bz, ⟨size, 0, 0, F8.nul, 0, ⟨?_, Bytes.nil _, (fun ao n c e => by injection e; omega), (fun b e => by cases e)⟩, ⟨rfl, fun _ => ⟨rfl, rfl, rfl⟩, fun _ => rfl, (fun h => by simp [Rc.new] at h), (fun h => by simp [Rc.new] at h)⟩⟩, (fun b e => by cases e), HB3'.trans (bz.mono HB3'.size), (fun b hb => by simp [rB, Value.ownBlock] at hb; omega), HB3'.size⟩
      rw [heap_alloc_new]
      simp [drA, F8.nul]
    go_upto_region 7 with fail
    obtain ⟨W, hW⟩ : ∃ W, w3.alloc (.cells #[.int .i64 (size : Int), .int .i64 0, .int .i64 0, .int .u8 0, .int .u8 0, .int .u8 0, .int .u8 0, .int .u8 0, .int .u8 0, .int .u8 0, .int .u8 0, .slice none 0 0, .int .u32 0] 47) = W := ⟨_, rfl⟩
    rw [hW]
    have hW0 := HX.out W hW.symm
    obtain ⟨D, hD⟩ : ∃ D, w3.heap.size = D := ⟨_, rfl⟩
    rw [hD] at hW0
    try rw [hD]
    have H7 := hidOf2 hW0
    have HOK := hidOf2 (Rc.new_ok size h1 h2)
    clear HX hW hW0 HR3 HB3 hNR hD hR
    go_upto_if 49 with fail
    go_cut [1] (fun s2 wx => wx = W ∧ ∃ (A : List F8) (ap : Option Addr) (m cq : Nat), s2 = .slice ap m cq ∧ A.length = m ∧ m ≤ 20000 ∧ Wide 8 F8.c w (.slice ap m cq) A)
    case first =>
      by_cases h3 : 20000 < na
      · have d3 : decide ((20000 : Int) < (na : Int)) = true := by simp; omega
        have hc3 : 20000 ≤ ca := by omega
        go_wp2_with fail
        go_meet
        case rel => exact ⟨rfl, la.take 20000, aa, 20000, ca, rfl, by rw [List.length_take, HNA.out]; omega, by omega, wide_take HWA.out 20000 (by omega)⟩
      · have d3 : decide ((20000 : Int) < (na : Int)) = false := by simp; omega
        go_wp2_with fail
        go_meet
        case rel => exact ⟨rfl, la, aa, na, ca, rfl, HNA.out, by omega, HWA.out⟩
    case rest =>
    obtain ⟨hwx, A, ap, m, cq, rfl, hAm, hm3, hWA2⟩ := hcut
    rw [hwx]
    clear hwx
    have HAM := hidOf2 hAm
    have HA2 : Hid (∀ k (hk : k < A.length), ∃ b off, ap = some ⟨b, off, none⟩ ∧ ∀ y', Below w.heap.size w y' → y'.rangeAt b (off + k * 8) A[k].c) := fun k hk => by
      obtain ⟨ao', cap', he, _, hc⟩ := hWA2
      injection he with he
      obtain ⟨b, off, ha, hlt, hr⟩ := hc k hk
      exact ⟨b, off, he.trans ha, fun y' hy' j u hj => (hy'.cell (p := ⟨b, off + k * 8 + j, none⟩) hlt).trans (hr j u hj)⟩
    clear hAm hWA2 HWA HNA hla hca
    go_upto_region 10 with fail
    go_loopw [10] (fun iv wr => ∃ (k : Nat) (r : Rc) (u v : Value), k ≤ m ∧ iv = .int .i64 k ∧ Hid (r.Ok) ∧ Hid (Bt w R D r r u v wr)) (fun iv _ => m - (intOf iv).toNat)
    case atStart => exact ⟨0, _, _, _, by omega, rfl, HOK, H7⟩
    case round =>
      obtain ⟨k, r, u, v, hk, rfl, HSO, HBT⟩ := hrel
      clear H7 HOK
      by_cases hkm : k < m
      · have d3 : decide ((k : Int) < (m : Int)) = true := by simp; omega
        obtain ⟨b, off, hap, hrg⟩ := HA2.out k (by rw [HAM.out]; exact hkm)
        obtain ⟨fa, hfa⟩ : ∃ f, A[k]'(by rw [HAM.out]; exact hkm) = f := ⟨_, rfl⟩
        rw [hfa] at hrg
        subst hap
        obtain ⟨oa, r2, hrf⟩ : ∃ a r2, rFeed r fa = (a, r2) := ⟨_, _, rfl⟩
        have HOK2 : Hid r2.Ok := by have := rFeed_ok r fa HSO.out; rw [hrf] at this; exact this
        have HRG := hidOf2 hrg
        have HRF := hidOf2 hrf
        have lf := load_mid8 (HRG.out wr HBT.out.old)
        have hF1 := HBT.out.feed1 HSO.out fa oa hrf
        clear hrg hfa hrf
        obtain ⟨ga, hga⟩ : ∃ f, oa.getD F8.nul = f := ⟨_, rfl⟩
        obtain ⟨bi, hbi⟩ : ∃ f, oa.isSome = f := ⟨_, rfl⟩
        have HGA := hidOf2 (And.intro hga hbi)
        rw [hga, hbi] at hF1
        clear hga hbi
        have hbx : (bi != bi) = false := by simp
        go_upto_region 13 with (first | (refine opE rfl (exec_idxF rfl rfl rfl hkm _) ?_) | (refine ldG lf rfl _ rfl rfl ?_) | (go_at_call 15; refine hF1.mono ?_; rintro e w1 ⟨rfl, u1, t1, k1⟩; obtain ⟨za, hza⟩ : ∃ z, w1.heap.size = z := ⟨_, rfl⟩; have z0 : Qb za F8.nul (w1.alloc (.cells zA8 30)) := by { rw [← hza]; exact heap_alloc_new w1 _ }; have HT1 := hidOf2 t1; clear t1 k1) | (refine sdF (g := ga) z0 rfl _ _ rfl rfl rfl ?_))
        change Code.wp Try.prog _ _ _ ((w1.alloc (.cells zA8 30)).setRow za ga.arr)
        obtain ⟨V, hV⟩ : ∃ V, (w1.alloc (.cells zA8 30)).setRow za ga.arr = V := ⟨_, rfl⟩
        rw [hV]
        have bV : Below w1.heap.size w1 V := by rw [← hV]; exact below_row ((Below.refl _ _).alloc (Nat.le_refl _) _) (by omega) (by rw [size_alloc]; omega) _
        have qV : Qb za ga V := by rw [← hV]; exact z0.row ga
        have tV := HT1.out.below bV
        have hzw : w.heap.size ≤ za := by rw [← hza]; exact HT1.out.old.size
        have HQV := hidOf2 qV
        have HTV := hidOf2 tV
        have lf := load_mid8 (HRG.out V tV.old)
        have hF2 := tV.feed2 HSO.out fa oa HRF.out
        rw [HGA.out.1, HGA.out.2] at hF2
        clear hV z0 bV qV tV HT1 hza hF1 HBT
        go_upto_region 14 with (first | (refine opE rfl (exec_idxF rfl rfl rfl hkm _) ?_) | (refine ldG lf rfl _ rfl rfl ?_) | (go_at_call 16; refine hF2.mono ?_; rintro e w2 ⟨rfl, v2, t2, k2⟩; obtain ⟨zb, hzb⟩ : ∃ z, w2.heap.size = z := ⟨_, rfl⟩; have z0 : Qb zb F8.nul (w2.alloc (.cells zA8 30)) := by { rw [← hzb]; exact heap_alloc_new w2 _ }; have HT2 := hidOf2 t2; have HK2 := hidOf2 k2; clear t2 k2) | (refine sdF (g := ga) z0 rfl _ _ rfl rfl rfl ?_))
        change Code.wp Try.prog _ _ _ ((w2.alloc (.cells zA8 30)).setRow zb ga.arr)
        obtain ⟨X, hX⟩ : ∃ V, (w2.alloc (.cells zA8 30)).setRow zb ga.arr = V := ⟨_, rfl⟩
        rw [hX]
        have bX : Below w2.heap.size w2 X := by rw [← hX]; exact below_row ((Below.refl _ _).alloc (Nat.le_refl _) _) (by omega) (by rw [size_alloc]; omega) _
        have qB : Qb zb ga X := by rw [← hX]; exact z0.row ga
        have qA : Qb za ga X := (HTV.out.keepD HQV.out HK2.out).below bX
        have HTX := hidOf2 (HT2.out.below bX)
        have hzbw : w.heap.size ≤ zb := by rw [← hzb]; exact HT2.out.old.size
        have la0 := qA.load
        have lb0 := qB.load
        have hne : za ≠ zb := by
          have h1 := HQV.out.lt
          have h2 := HK2.out.size
          omega
        have HQA := hidOf2 qA
        have HQB := hidOf2 qB
        clear hX z0 bX qB qA HT2 HK2 HTV HQV hzb hF2 lf
        go_upto_region 16 with (first | (refine ldG la0 rfl _ rfl rfl ?_) | (refine ldG lb0 rfl _ rfl rfl ?_) | (refine opE rfl (exec_neqF ga rfl rfl rfl _) ?_))
        by_cases hkb : k < nb
        · have d4 : decide ((k : Int) < (nb : Int)) = true := by simp; omega
          obtain ⟨c, of2, bb, hab, hcell⟩ := HWB.out X HTX.out.old k hkb
          subst hab
          cases bb with
          | true =>
            obtain ⟨ob, r3, hra⟩ : ∃ a r2', rAsk r2 = (a, r2') := ⟨_, _, rfl⟩
            have HOK3 : Hid r3.Ok := by have := rAsk_ok r2 HOK2.out; rw [hra] at this; exact this
            have HRA := hidOf2 hra
            have hA1 := HTX.out.ask1 HOK2.out ob hra
            obtain ⟨gb, hgb⟩ : ∃ f, ob.getD F8.nul = f := ⟨_, rfl⟩
            obtain ⟨bj, hbj⟩ : ∃ f, ob.isSome = f := ⟨_, rfl⟩
            have HGB := hidOf2 (And.intro hgb hbj)
            rw [hgb, hbj] at hA1
            clear hgb hbj hra
            have hby : (bj != bj) = false := by simp
            clear la0 lb0
            go_upto_region 18 with (first | (go_at_call 17; refine hA1.mono ?_; rintro e w4 ⟨rfl, u4, t4, k4⟩; have q4 := HTX.out.keepP HQA.out k4; have HQ4 := hidOf2 q4; have HQB4 := hidOf2 (HTX.out.keepP HQB.out k4); have HT4 := hidOf2 t4; clear t4 k4) | (refine sdF (g := gb) q4 rfl _ _ rfl rfl rfl ?_))
            obtain ⟨Y, hY⟩ : ∃ V, w4.setRow za gb.arr = V := ⟨_, rfl⟩
            rw [hY]
            have kY : Kp [za] w4 Y := by rw [← hY]; exact Kp.setRow1 _ _ _
            have tY := HT4.out.frame HQ4.out hzw kY
            have qY : Qb za gb Y := by rw [← hY]; exact HQ4.out.row gb
            have qBY : Qb zb ga Y := HQB4.out.kq kY (by simpa using hne.symm)
            have hA2 := tY.ask2 HOK2.out ob HRA.out
            rw [HGB.out.1, HGB.out.2] at hA2
            have HQY := hidOf2 qY
            have HQBY := hidOf2 qBY
            have HTY := hidOf2 tY
            clear hY kY tY qY qBY HT4 HQ4 HQB4 hA1 HTX HQA HQB q4
            go_upto_region 19 with (first | (go_at_call 18; refine hA2.mono ?_; rintro e w5 ⟨rfl, v5, t5, k5⟩; have q5 := HTY.out.keepD HQBY.out k5; have HQ5 := hidOf2 q5; have HQA5 := hidOf2 (HTY.out.keepD HQY.out k5); have HT5 := hidOf2 t5; clear t5 k5) | (refine sdF (g := gb) q5 rfl _ _ rfl rfl rfl ?_))
            obtain ⟨Z, hZ⟩ : ∃ V, w5.setRow zb gb.arr = V := ⟨_, rfl⟩
            rw [hZ]
            have kZ : Kp [zb] w5 Z := by rw [← hZ]; exact Kp.setRow1 _ _ _
            have HTZ := hidOf2 (HT5.out.frame HQ5.out hzbw kZ)
            have qbZ : Qb zb gb Z := by rw [← hZ]; exact HQ5.out.row gb
            have qaZ : Qb za gb Z := HQA5.out.kq kZ (by simpa using hne)
            have la0 := qaZ.load
            have lb0 := qbZ.load
            clear hZ kZ qbZ qaZ HT5 HQ5 HQA5 hA2 HTY HQY HQBY q5
            go_wp2_with (first | (refine ldG la0 rfl _ rfl rfl ?_) | (refine ldG lb0 rfl _ rfl rfl ?_) | (refine opE rfl (exec_neqF gb rfl rfl rfl _) ?_))
            go_roundw
            case rel => exact ⟨k + 1, r3, _, _, by omega, by go_num, HOK3, HTZ⟩
            case measure => simp [intOf]; omega
          | false =>
            clear la0 lb0
            go_wp2
            go_roundw
            case rel => exact ⟨k + 1, r2, _, _, by omega, by go_num, HOK2, HTX⟩
            case measure => simp [intOf]; omega
        · have d4 : decide ((k : Int) < (nb : Int)) = false := by simp; omega
          clear la0 lb0
          go_wp2
          go_roundw
          case rel => exact ⟨k + 1, r2, _, _, by omega, by go_num, HOK2, HTX⟩
          case measure => simp [intOf]; omega
      · have d3 : decide ((k : Int) < (m : Int)) = false := by simp; omega
        obtain ⟨sz, does, cm, l0, cd, hq, hl⟩ := HBT.out.d
        have hds := hl.st
        by_cases h3 : r.st = 3
        · have hD := rDone_any HBT.out.p h3
          have hc3 := hl.three h3
          have d5 : ((does : Int) != 2) = false := by simp; omega
          obtain ⟨av, nv, cv, hv⟩ : ∃ a n c, v = .slice a n c := by obtain ⟨ao, cap, h, _⟩ := hq.bt; exact ⟨_, _, _, h⟩
          obtain ⟨nr, hnr⟩ : ∃ n, r.bs.length = n := ⟨_, rfl⟩
          have HQ := hidOf2 hq
          have HBO := hidOf2 HBT.out.old
          subst hc3
          rw [hnr] at hD
          have HNR := hidOf2 hnr
          clear hl hq hnr
          go_upto_region 22 with (first | (go_at_call 19; refine hD.mono ?_; rintro e w1 ⟨u1, rfl, ho1, b1⟩; obtain ⟨au, cu, hu⟩ := own_shape5 ho1; subst hu; have HO1 := hidOf2 ho1; have HB1 := hidOf2 b1; clear ho1 b1))
          have y1 := (HQ.out.below HB1.out).c1
          have HC : Hid (∀ y, Below w1.heap.size w1 y → (convert 22 9 (.slice au nr cu)).run Try.prog y = .ok (.string ⟨r.bs.toArray⟩) y ∧ (convert 22 9 (.slice av nv cv)).run Try.prog y = .ok (.string ⟨r.bs.toArray⟩) y ∧ y.cell? ⟨D, 11, none⟩ = some (.slice av nv cv) ∧ y.cell? ⟨D, 12, none⟩ = some (.int .u32 (r.cd : Int))) := fun y hy => by
            have hqy := (HQ.out.below HB1.out).below hy
            refine ⟨Bytes.text ((bytes_of_own (by rw [HNR.out]; exact HO1.out)).below hy), ?_, by rw [← hv]; exact hqy.c11, hqy.c12⟩
            have := hqy.bt
            rw [hv] at this
            exact Bytes.text this
          go_upto_region 24 with fail
          have S0 : (fun y : World => Below w1.heap.size w1 y) w1.drew := bdr (Below.refl _ _) 1
          have hLV := HLV.out w1.drew
          have HBW := hidOf2 (HBO.out.trans (HB1.out.mono HBO.out.size))
          refine wp_region_held (S := fun y : World => Below w1.heap.size w1 y) (by kernel_rfl) ?_
          change wpAnyH _ _ _ _ _ _ _ _ w1.drew
          refine wpAnyH_take (i := 0) (v := (.slice au nr cu)) rfl (by kernel_rfl) (by kernel_rfl) (by kernel_rfl) (fun _ _ _ h => h) (.inl ⟨rfl, fun _ hS => rfl⟩) S0 ?_
          simp only [List.getElem_toArray, List.getElem_cons_succ, List.getElem_cons_zero, Act.put, List.setIfInBounds_toArray, List.set_cons_succ, List.set_cons_zero]
          refine wpAnyH_take (i := 1) (v := (.string ⟨r.bs.toArray⟩)) rfl (by kernel_rfl) (by kernel_rfl) (by kernel_rfl) (fun _ _ _ h => h) (.inl ⟨rfl, fun _ hS => exec_convS rfl rfl (HC.out _ hS).1⟩) S0 ?_
          simp only [List.getElem_toArray, List.getElem_cons_succ, List.getElem_cons_zero, Act.put, List.setIfInBounds_toArray, List.set_cons_succ, List.set_cons_zero]
          refine wpAnyH_take (i := 2) (v := (.pointer (some ⟨D, 0, none⟩))) rfl (by kernel_rfl) (by kernel_rfl) (by kernel_rfl) (fun _ _ _ h => h) (.inl ⟨rfl, fun _ hS => rfl⟩) S0 ?_
          simp only [List.getElem_toArray, List.getElem_cons_succ, List.getElem_cons_zero, Act.put, List.setIfInBounds_toArray, List.set_cons_succ, List.set_cons_zero]
          refine wpAnyH_take (i := 3) (v := (.pointer (some ⟨D, 0, none⟩))) rfl (by kernel_rfl) (by kernel_rfl) (by kernel_rfl) (fun _ _ _ h => h) (.inl ⟨rfl, fun _ hS => by simp [execOp, go_sem, Act.eval]⟩) S0 ?_
          simp only [List.getElem_toArray, List.getElem_cons_succ, List.getElem_cons_zero, Act.put, List.setIfInBounds_toArray, List.set_cons_succ, List.set_cons_zero]
          refine wpAnyH_take (i := 4) (v := (.pointer (some ⟨D, 11, none⟩))) rfl (by kernel_rfl) (by kernel_rfl) (by kernel_rfl) (fun _ _ _ h => h) (.inl ⟨rfl, fun _ hS => by simp [execOp, go_sem, Act.eval]⟩) S0 ?_
          simp only [List.getElem_toArray, List.getElem_cons_succ, List.getElem_cons_zero, Act.put, List.setIfInBounds_toArray, List.set_cons_succ, List.set_cons_zero]
          refine wpAnyH_take (i := 5) (v := (.slice av nv cv)) rfl (by kernel_rfl) (by kernel_rfl) (by kernel_rfl) (fun _ _ _ h => h) (.inl ⟨rfl, fun _ hS => exec_load rfl rfl (load_bytes _ _ _ _ _ _ (HC.out _ hS).2.2.1)⟩) S0 ?_
          simp only [List.getElem_toArray, List.getElem_cons_succ, List.getElem_cons_zero, Act.put, List.setIfInBounds_toArray, List.set_cons_succ, List.set_cons_zero]
          refine wpAnyH_take (i := 6) (v := (.string ⟨r.bs.toArray⟩)) rfl (by kernel_rfl) (by kernel_rfl) (by kernel_rfl) (fun _ _ _ h => h) (.inl ⟨rfl, fun _ hS => exec_convS rfl rfl (HC.out _ hS).2.1⟩) S0 ?_
          simp only [List.getElem_toArray, List.getElem_cons_succ, List.getElem_cons_zero, Act.put, List.setIfInBounds_toArray, List.set_cons_succ, List.set_cons_zero]
          refine wpAnyH_take (i := 7) (v := (.bool true)) rfl (by kernel_rfl) (by kernel_rfl) (by kernel_rfl) (fun _ _ _ h => h) (.inl ⟨rfl, fun _ hS => exec_eqSt rfl rfl rfl _⟩) S0 ?_
          simp only [List.getElem_toArray, List.getElem_cons_succ, List.getElem_cons_zero, Act.put, List.setIfInBounds_toArray, List.set_cons_succ, List.set_cons_zero]
          refine wpAnyH_take (i := 8) (v := (.bool true)) rfl (by kernel_rfl) (by kernel_rfl) (by kernel_rfl) (fun _ _ _ h => h) (.inl ⟨rfl, fun _ hS => rfl⟩) S0 ?_
          simp only [List.getElem_toArray, List.getElem_cons_succ, List.getElem_cons_zero, Act.put, List.setIfInBounds_toArray, List.set_cons_succ, List.set_cons_zero]
          refine wpAnyH_take (i := 9) (v := (.int .u32 (r.cd : Int))) rfl (by kernel_rfl) (by kernel_rfl) (by kernel_rfl) (fun _ _ _ h => h) (.inl ⟨rfl, fun _ hS => rfl⟩) S0 ?_
          simp only [List.getElem_toArray, List.getElem_cons_succ, List.getElem_cons_zero, Act.put, List.setIfInBounds_toArray, List.set_cons_succ, List.set_cons_zero]
          refine wpAnyH_take (i := 10) (v := (.pointer (some ⟨D, 0, none⟩))) rfl (by kernel_rfl) (by kernel_rfl) (by kernel_rfl) (fun _ _ _ h => h) (.inl ⟨rfl, fun _ hS => rfl⟩) S0 ?_
          simp only [List.getElem_toArray, List.getElem_cons_succ, List.getElem_cons_zero, Act.put, List.setIfInBounds_toArray, List.set_cons_succ, List.set_cons_zero]
          refine wpAnyH_take (i := 11) (v := (.pointer (some ⟨D, 0, none⟩))) rfl (by kernel_rfl) (by kernel_rfl) (by kernel_rfl) (fun _ _ _ h => h) (.inl ⟨rfl, fun _ hS => by simp [execOp, go_sem, Act.eval]⟩) S0 ?_
          simp only [List.getElem_toArray, List.getElem_cons_succ, List.getElem_cons_zero, Act.put, List.setIfInBounds_toArray, List.set_cons_succ, List.set_cons_zero]
          refine wpAnyH_take (i := 12) (v := (.pointer (some ⟨D, 12, none⟩))) rfl (by kernel_rfl) (by kernel_rfl) (by kernel_rfl) (fun _ _ _ h => h) (.inl ⟨rfl, fun _ hS => by simp [execOp, go_sem, Act.eval]⟩) S0 ?_
          simp only [List.getElem_toArray, List.getElem_cons_succ, List.getElem_cons_zero, Act.put, List.setIfInBounds_toArray, List.set_cons_succ, List.set_cons_zero]
          refine wpAnyH_take (i := 13) (v := (.int .u32 (r.cd : Int))) rfl (by kernel_rfl) (by kernel_rfl) (by kernel_rfl) (fun _ _ _ h => h) (.inl ⟨rfl, fun _ hS => exec_load rfl rfl (load_u32 _ _ _ _ (HC.out _ hS).2.2.2)⟩) S0 ?_
          simp only [List.getElem_toArray, List.getElem_cons_succ, List.getElem_cons_zero, Act.put, List.setIfInBounds_toArray, List.set_cons_succ, List.set_cons_zero]
          refine wpAnyH_take (i := 14) (v := (.bool true)) rfl (by kernel_rfl) (by kernel_rfl) (by kernel_rfl) (fun _ _ _ h => h) (.inl ⟨rfl, fun _ hS => exec_eqU rfl rfl rfl _⟩) S0 ?_
          simp only [List.getElem_toArray, List.getElem_cons_succ, List.getElem_cons_zero, Act.put, List.setIfInBounds_toArray, List.set_cons_succ, List.set_cons_zero]
          refine wpAnyH_take (i := 15) (v := (.bool true)) rfl (by kernel_rfl) (by kernel_rfl) (by kernel_rfl) (fun _ _ _ h => h) (.inl ⟨rfl, fun _ hS => exec_pickT (.bool true) rfl rfl rfl _⟩) S0 ?_
          simp only [List.getElem_toArray, List.getElem_cons_succ, List.getElem_cons_zero, Act.put, List.setIfInBounds_toArray, List.set_cons_succ, List.set_cons_zero]
          refine wpAnyH_take (i := 16) (v := (.bool true)) rfl (by kernel_rfl) (by kernel_rfl) (by kernel_rfl) (fun _ _ _ h => h) (.inl ⟨rfl, fun _ hS => rfl⟩) S0 ?_
          simp only [List.getElem_toArray, List.getElem_cons_succ, List.getElem_cons_zero, Act.put, List.setIfInBounds_toArray, List.set_cons_succ, List.set_cons_zero]
          refine wpAnyH_take (i := 17) (v := (.bool true)) rfl (by kernel_rfl) (by kernel_rfl) (by kernel_rfl) (fun _ _ _ h => h) (.inl ⟨rfl, fun _ hS => rfl⟩) S0 ?_
          simp only [List.getElem_toArray, List.getElem_cons_succ, List.getElem_cons_zero, Act.put, List.setIfInBounds_toArray, List.set_cons_succ, List.set_cons_zero]
          refine wpAnyH_take (i := 18) (v := (.bool true)) rfl (by kernel_rfl) (by kernel_rfl) (by kernel_rfl) (fun _ _ _ h => h) (.inl ⟨rfl, fun _ hS => exec_pickT (.bool true) rfl rfl rfl _⟩) S0 ?_
          simp only [List.getElem_toArray, List.getElem_cons_succ, List.getElem_cons_zero, Act.put, List.setIfInBounds_toArray, List.set_cons_succ, List.set_cons_zero]
          refine wpAnyH_take (i := 19) (v := (.bool true)) rfl (by kernel_rfl) (by kernel_rfl) (by kernel_rfl) (fun _ _ _ h => h) (.inl ⟨rfl, fun _ hS => rfl⟩) S0 ?_
          simp only [List.getElem_toArray, List.getElem_cons_succ, List.getElem_cons_zero, Act.put, List.setIfInBounds_toArray, List.set_cons_succ, List.set_cons_zero]
          refine wpAnyH_all (rs := [20]) (by kernel_rfl) (by simp) ?_
          intro k hk
          simp only [List.mem_cons, List.mem_nil_iff, or_false] at hk
          subst hk
          refine wpOp_runw rfl rfl (wp_call_fn 7 #[] (by simp [execOp, go_sem, Act.eval, resolve, invoke, enLV]) ?_)
          refine hLV.mono ?_
          rintro e w4 ⟨rfl, b4⟩
          have S1 : (fun y : World => Below w1.heap.size w1 y) w4 := (bdr (Below.refl _ _) 1).trans b4
          refine ⟨S1, ?_⟩
          simp only [List.getElem_toArray, List.getElem_cons_succ, List.getElem_cons_zero, Act.put, List.setIfInBounds_toArray, List.set_cons_succ, List.set_cons_zero]
          refine wpAnyH_take (i := 21) (v := (.bool true)) rfl (by kernel_rfl) (by kernel_rfl) (by kernel_rfl) (fun _ _ _ h => h) (.inl ⟨rfl, fun _ hS => exec_pickT (.bool true) rfl rfl rfl _⟩) S1 ?_
          simp only [List.getElem_toArray, List.getElem_cons_succ, List.getElem_cons_zero, Act.put, List.setIfInBounds_toArray, List.set_cons_succ, List.set_cons_zero]
          refine wpAnyH_take (i := 22) (v := (.bool true)) rfl (by kernel_rfl) (by kernel_rfl) (by kernel_rfl) (fun _ _ _ h => h) (.inl ⟨rfl, fun _ hS => rfl⟩) S1 ?_
          simp only [List.getElem_toArray, List.getElem_cons_succ, List.getElem_cons_zero, Act.put, List.setIfInBounds_toArray, List.set_cons_succ, List.set_cons_zero]
          refine wpAnyH_done (by kernel_rfl) ?_ _
          go_wp2
          go_ret
          exact ⟨rfl, HBW.out.trans ((bdr (Below.refl _ _) 1 |>.trans (b4.mono (Nat.le_refl _))).mono HBW.out.size)⟩
        · have hD := rDone_not HBT.out.p h3
          have d5 : ((does : Int) != 2) = true := by have := HSO.out.st; simp; omega
          have y1 := hq.c1
          have hV := HLV.out wr
          have HBO := hidOf2 HBT.out.old
          clear hl hq
          go_wp2_with (first | (go_at_call 19; refine hD.mono ?_; rintro e w1 ⟨rfl, hw1⟩; rw [hw1]; clear hw1 w1) | (go_at_call 7; refine hV.mono ?_; rintro e w4 ⟨rfl, b4⟩))
          go_ret
          exact ⟨rfl, HBO.out.trans (b4.mono HBO.out.size)⟩
theorem ktak_int (z : Int) (hz : (Lit.int .i64 z).wf = true) (w : World) (va : Value) (la : List F8) (hWa : Wide 8 F8.c w va la) (hcap : ∀ ao n cap, va = .slice ao n cap → n ≤ cap) (hla : la.length * 8 ≤ 140737488351232) (vb : Value) (lb : List Bool) (hWb : Wide 1 boC w vb lb) (hlb : lb.length ≤ 140737488351232) :
    Calls Try.prog 4 #[.int .i64 z, va, vb] w fun e w' => e = .returned (.bool true) ∧ Below w.heap.size w w' := ktak_walk z (wf_i64_of hz) w va la hWa hcap hla vb lb hWb hlb
end Go.Proofs.Ytebjofkblfmkmaa
