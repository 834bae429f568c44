/- The law SdoToggle returns true whatever comes in. -/
import Derived.Test.YtahfnknbmikmkaaGreatZs
import Derived.Test.YtahfnknbmikmkaaGreatKa38
namespace Go.Proofs.YtahfnknbmikmkaaGreat
open Go.RowKit Go.Proofs.Ty
set_option linter.unusedVariables false
set_option maxRecDepth 1000000
set_option linter.unusedSimpArgs false
def qT : F8 := ⟨32, 0, 48, 0, 0, 0, 0, 0⟩
set_option maxHeartbeats 64000000 in
theorem stog_walk (v : Value) (l : List UInt8) (s : ByteArray) (hs : s.size ≤ maxLen) (t : Nat) (ht : t < 256) (w : World) (hB : Bytes w v l) (hl : l.length ≤ 140737488351232) :
    Calls Tryz.prog 7 #[v, .string s, .int .u8 t] w fun e w' => e = .returned (.bool true) ∧ Below w.heap.size w w' := by
  obtain ⟨ao0, cap0, rfl⟩ := bytes_shape hB
  have HB := hidOf2 hB
  have hWh := whole_any s hs w
  have HLV := lives10_any
  obtain ⟨nl, hnl⟩ : ∃ n, l.length = n := ⟨_, rfl⟩
  have HNL := hidOf2 hnl
  rw [hnl] at hl HB ⊢
  have HCL : Hid (∀ j, j < nl → ∃ b off, ao0 = some ⟨b, off, none⟩ ∧ b < w.heap.size ∧ ∃ c : UInt8, w.cell? ⟨b, off + j, none⟩ = some (.int .u8 (c.toNat : Int))) := by
    intro j hj
    obtain ⟨ao1, cp1, hv, _, hc⟩ := HB.out
    injection hv with e1
    obtain ⟨b, off, h1, h2, h3⟩ := hc j (by rw [HNL.out]; exact hj)
    exact ⟨b, off, e1.trans h1, h2, _, h3⟩
  clear hB hnl
  obtain ⟨m, hm⟩ : ∃ m, t % 9 = m := ⟨_, rfl⟩
  have hm8 : m ≤ 8 := by omega
  have hmz : (t : Int) % 9 = (m : Int) := by omega
  clear hm
  go_enter Tryz.func7, Tryz.ntmps7
  go_wp2_with fail
  refine hWh.mono ?_
  rintro e w1 ⟨B1, hbad, hgood⟩
  have HG := hidOf2 hgood
  have HB2 := hidOf2 hbad
  clear hWh hgood hbad
  by_cases hsz : s.size ≤ 65536
  · obtain ⟨p, b, rfl, hJ⟩ := HG.out hsz
    have hH := Handles_to hJ qT (one_begin (by decide) (by decide) (by decide) (by decide) (fun h => absurd h (by decide)))
    clear HG HB2 hJ B1
    go_wp2_with fail
    refine hH.mono ?_
    rintro e w2 ⟨rfl, ao2, cp2, ap2, cq2, J2, _⟩
    obtain ⟨z, hz, y1, hYz, Hy⟩ := J2.got (frm 96 12288 0 0)
    clear hH J2
    go_upto_region 5 with (first | (refine sdF (g := frm 96 12288 0 0) y1 rfl _ _ rfl rfl rfl ?_))
    change Code.wp Tryz.prog _ _ _ ((w2.alloc (.cells zA8 32)).setRow z (frm 96 12288 0 0).arr)
    generalize hZ : (w2.alloc (.cells zA8 32)).setRow z (frm 96 12288 0 0).arr = w3
    obtain ⟨y3, J3, _⟩ := Hy.out w3 hZ.symm
    have c3 : w3.cell? ⟨z, 0, none⟩ = some (.int .u8 96) := y3.c0
    have HJ3 := hidOf2 J3
    clear Hy hZ y1 y3 J3 hz hYz
    have HT0 : Hid (Tg ⟨1, 12288, 0, 0, [], none⟩ 0 m) := ⟨fun _ => ⟨rfl, rfl, rfl, rfl, rfl, rfl⟩, fun h => absurd h (by omega)⟩
    go_wp2_with fail
    go_loopw [11, 12] (fun tv i x => ∃ (k : Nat) (st : Ss) (ao : Option Addr) (cp : Nat) (ap : Option Addr) (cq : Nat), k ≤ m + 1 ∧ i = .int .i64 k ∧ (k % 2 = 0 ∧ tv = .int .u8 0 ∨ k % 2 = 1 ∧ tv = .int .u8 16) ∧ Hid (Jt w p (one b s hs (vD s hs)) (one b s hs (vD s hs)) st st ao cp ap cq x) ∧ Hid (Tg st k m)) (fun _ i _ => m + 1 - (intOf i).toNat)
    case atStart => exact ⟨0, ⟨1, 12288, 0, 0, [], none⟩, ao2, cp2, ap2, cq2, by omega, rfl, .inl ⟨rfl, rfl⟩, HJ3, HT0⟩
    case round =>
      clear HJ3 HT0 c3
      obtain ⟨k, st, ao, cp, ap, cq, hk, rfl, hpar, HJ, HT⟩ := hrel
      by_cases hkm : k ≤ m
      · have HW := hidOf2 (HT.out.1 hkm)
        rcases hpar with ⟨hpar, rfl⟩ | ⟨hpar, rfl⟩
        · have HQ0 : Hid ((⟨0, 0, 0, 0, 0, 0, 0, 0⟩ : F8).b0.toNat = 16 * (k % 2)) := by rw [hpar]; rfl
          obtain ⟨V, hV⟩ : ∃ V, V = wr := ⟨wr, rfl⟩
          subst hV
          obtain ⟨z, hz, y1, hYz, Hy⟩ := HJ.out.got (⟨0, 0, 0, 0, 0, 0, 0, 0⟩ : F8)
          have HZ0 := hidOf2 hz
          go_upto_region 12 with (first | (refine sdF (g := (⟨0, 0, 0, 0, 0, 0, 0, 0⟩ : F8)) y1 rfl _ _ rfl rfl rfl ?_))
          change Code.wp Tryz.prog _ _ _ ((V.alloc (.cells zA8 32)).setRow z (⟨0, 0, 0, 0, 0, 0, 0, 0⟩ : F8).arr)
          generalize hX : (V.alloc (.cells zA8 32)).setRow z (⟨0, 0, 0, 0, 0, 0, 0, 0⟩ : F8).arr = X
          obtain ⟨y3, _, bX⟩ := Hy.out X hX.symm
          have HY3 := hidOf2 y3
          have HFR := hidOf2 (fun x (hK : Kp [z] X x) => HJ.out.frame1 HZ0.out HY3.out bX x hK)
          have HAL := hidOf2 (show ∀ b ∈ blk ao, b ≠ z from fun b hb => by have := HJ.out.pv.lt b hb; have := HZ0.out; omega)
          clear Hy hX y1 y3 bX hz
          go_wp2_with fail
          go_loopw [14] (fun i x => ∃ (j : Nat) (f : F8), j ≤ 7 ∧ i = .int .i64 j ∧ Hid (f.b0.toNat = 16 * (k % 2)) ∧ Hid (Qb z f x) ∧ Hid (Kp [z] X x)) (fun i _ => 7 - (intOf i).toNat)
          case atStart => exact ⟨0, (⟨0, 0, 0, 0, 0, 0, 0, 0⟩ : F8), by omega, rfl, HQ0, HY3, Kp.refl _ _⟩
          case round =>
            obtain ⟨j, f, hj, rfl, HF, HQ, HK⟩ := hrel
            by_cases hgo : j < 7 ∧ j < nl
            · obtain ⟨hj7, hjn⟩ := hgo
              have HBW := hidOf2 (HFR.out wr HK.out).below
              obtain ⟨bb, off, hao, hblt, c, hcell⟩ := HCL.out j hjn
              subst hao
              have cj := (HBW.out.cell (p := ⟨bb, off + j, none⟩) hblt).trans hcell
              obtain ⟨vz, hvz⟩ := HQ.out.any8 (1 + j) (by omega)
              have hzz := HQ.out.zz (1 + j)
              have HN : Hid (∀ Y, Y = wr.setCell ⟨z, 1 + j, none⟩ (.int .u8 (c.toNat : Int)) → Hid ((f.pc (1 + j) c).b0.toNat = 16 * (k % 2)) ∧ Hid (Qb z (f.pc (1 + j) c) Y) ∧ Hid (Kp [z] X Y)) := fun Y hY => by
                subst hY
                exact ⟨by rw [f.pc_b0 (1 + j) c (by omega) (by omega)]; exact HF.out, HQ.out.pc (1 + j) (by omega) c, HK.out.trans (Kp.cell1 wr z (1 + j) _)⟩
              have hlt8 := c.toNat_lt
              obtain ⟨lv, hlv⟩ : ∃ v, c.toNat = v := ⟨_, rfl⟩
              rw [hlv] at cj HN hlt8
              clear hlv hcell
              rcases (show j = 0 ∨ j = 1 ∨ j = 2 ∨ j = 3 ∨ j = 4 ∨ j = 5 ∨ j = 6 by omega) with rfl | rfl | rfl | rfl | rfl | rfl | rfl
              all_goals
                (first | rw [show ((0 : Nat) : Int) = 0 from rfl] | rw [show ((1 : Nat) : Int) = 1 from rfl] | rw [show ((2 : Nat) : Int) = 2 from rfl] | rw [show ((3 : Nat) : Int) = 3 from rfl] | rw [show ((4 : Nat) : Int) = 4 from rfl] | rw [show ((5 : Nat) : Int) = 5 from rfl] | rw [show ((6 : Nat) : Int) = 6 from rfl])
                try simp only [Nat.reduceAdd, Nat.add_zero] at hvz hzz HN cj
                go_wp2
                go_roundw
                case rel =>
                  obtain ⟨n0, n1, n2⟩ := HN.out _ rfl
                  refine ⟨_, _, ?_, by go_num, n0, n1, n2⟩
                  first | decide | (simp; done) | omega
                case measure => simp [intOf]
            · have hex : (7 : Nat) ≤ j ∨ (j < 7 ∧ nl ≤ j) := by omega
              have HJf := hidOf2 (HFR.out wr HK.out)
              obtain ⟨st', hst, hW'⟩ := wt_step HW.out (by omega) f HF.out b s hs (vD s hs)
              rw [hpar] at hst
              have HW' := hidOf2 hW'
              have hH := Handles_to HJf.out f hst
              have yl := HQ.out.load
              clear hgo hW' hst
              rcases hex with hex | ⟨hex1, hex2⟩
              all_goals
                try (have hd7 : decide ((j : Int) < 7) = false := by simp; omega)
                try (have hd8 : decide ((j : Int) < 7) = true := by simp; omega)
                try (have hd9 : decide ((j : Int) < (nl : Int)) = false := by simp; omega)
                go_wp2_with (refine ldG yl rfl _ rfl rfl ?_)
                refine hH.mono ?_
                rintro e w4 ⟨rfl, ao4, cp4, ap4, cq4, J4, K4, f4, g4⟩
                have q4 := HJf.out.stays K4 hYz HQ.out HAL.out
                obtain ⟨z2, hz2, y1, hYz2, Hy⟩ := J4.got (took 0)
                have HJ4 := hidOf2 J4
                clear hH K4 f4 g4 yl J4
                go_upto_region 17 with (first | (refine sdF (g := took 0) y1 rfl _ _ rfl rfl rfl ?_))
                change Code.wp Tryz.prog _ _ _ ((w4.alloc (.cells zA8 32)).setRow z2 (took 0).arr)
                generalize hZ : (w4.alloc (.cells zA8 32)).setRow z2 (took 0).arr = w5
                obtain ⟨y5, J5, b5⟩ := Hy.out w5 hZ.symm
                have c5 : w5.cell? ⟨z2, 0, none⟩ = some (.int .u8 32) := y5.c0
                have q5 := q4.below b5
                have HJ5 := hidOf2 J5
                clear Hy hZ y1 y5 J5 b5 q4 HJ4 hz2
                by_cases hkm2 : k = m
                · have hde : decide ((k : Int) = (m : Int)) = true := by simp; omega
                  have l5 := q5.load
                  have hH2 := Handles_to HJ5.out f (wt_again HW'.out f HF.out b s hs (vD s hs))
                  clear q5
                  go_wp2_with (refine ldG l5 rfl _ rfl rfl ?_)
                  refine hH2.mono ?_
                  rintro e w6 ⟨rfl, ao6, cp6, ap6, cq6, J6, _⟩
                  obtain ⟨z3, hz3, y1, hYz3, Hy⟩ := J6.got (frm 128 12288 0 84082688)
                  clear hH2 l5 J6
                  go_upto_region 21 with (first | (refine sdF (g := frm 128 12288 0 84082688) y1 rfl _ _ rfl rfl rfl ?_))
                  change Code.wp Tryz.prog _ _ _ ((w6.alloc (.cells zA8 32)).setRow z3 (frm 128 12288 0 84082688).arr)
                  generalize hZ : (w6.alloc (.cells zA8 32)).setRow z3 (frm 128 12288 0 84082688).arr = w7
                  obtain ⟨y7, J7, _⟩ := Hy.out w7 hZ.symm
                  have HJ7 := hidOf2 J7
                  have bz4 : Below w7.heap.size w7 w7.drew := bdr (Below.refl _ _) 1
                  have S0 := y7.below bz4
                  obtain ⟨fz, hfz⟩ : ∃ f, frm 128 12288 0 84082688 = f := ⟨_, rfl⟩
                  have hAb := fun x => Abort_any 12288 0 84082688 x (by decide) (by decide) (by decide)
                  rw [hfz] at S0 hAb
                  clear Hy hZ y1 y7 J7 hfz hz3
                  refine wp_region_held (S := fun x => Qb z3 fz x) (by kernel_rfl) ?_
                  change wpAnyH _ _ _ _ _ _ _ _ w7.drew
                  refine tk 0 (.bool true) rfl (by kernel_rfl) (fun _ _ _ h => h) rfl (fun _ hS => rfl) S0 ?_
                  simp only [zzA, zzB, zzC, Act.put, zzD, zzE, zzF]
                  refine tk 1 (.bool false) rfl (by kernel_rfl) (fun _ _ _ h => h) rfl (fun _ hS => by simp [execOp, go_sem, Act.eval]) S0 ?_
                  simp only [zzA, zzB, zzC, Act.put, zzD, zzE, zzF]
                  refine tk 2 (.bool false) rfl (by kernel_rfl) (fun _ _ _ h => h) rfl (fun _ hS => rfl) S0 ?_
                  simp only [zzA, zzB, zzC, Act.put, zzD, zzE, zzF]
                  refine tk 3 (.agg fz.arr) rfl (by kernel_rfl) (fun _ _ _ h => h) rfl (fun _ hS => exec_load rfl rfl (Qb.load hS)) S0 ?_
                  simp only [zzA, zzB, zzC, Act.put, zzD, zzE, zzF]
                  refine wpAnyH_all (rs := [4]) (by kernel_rfl) (by simp) ?_
                  intro k hk
                  simp only [List.mem_cons, List.mem_nil_iff, or_false] at hk
                  subst hk
                  refine wpOp_runw rfl rfl (wp_call_fn 18 #[.int .u16 ((12288 : Nat) : Int), .int .u8 ((0 : Nat) : Int), .int .u32 ((84082688 : Nat) : Int)] (by simp [execOp, go_sem, Act.eval, resolve, invoke, enterAb]) ?_)
                  refine (hAb _).mono ?_
                  rintro e z5 ⟨rfl, bz5⟩
                  have s5 := S0.below bz5
                  have bz6 := bz4.trans (bz5.mono bz4.size)
                  refine ⟨s5, ?_⟩
                  simp only [zzA, zzB, zzC, Act.put, zzD, zzE, zzF]
                  refine tk 5 (.bool false) rfl (by kernel_rfl) (fun _ _ _ h => h) rfl (fun _ hS => exec_neq8 fz rfl rfl rfl _) s5 ?_
                  simp only [zzA, zzB, zzC, Act.put, zzD, zzE, zzF]
                  refine tk 6 (.bool false) rfl (by kernel_rfl) (fun _ _ _ h => h) rfl (fun _ hS => by simp [execOp, go_sem, Act.eval]) s5 ?_
                  simp only [zzA, zzB, zzC, Act.put, zzD, zzE, zzF]
                  refine wpAnyH_done (by kernel_rfl) ?_ _
                  have HJ8 := hidOf2 (HJ7.out.next bz6)
                  have HT8 : Hid (Tg Ss.nul (k + 1) m) := ⟨fun h => absurd h (by omega), fun _ => rfl⟩
                  clear S0 s5 bz4 bz5 bz6 hAb HJ7 HJ5
                  go_wp2
                  go_roundw
                  case rel => exact ⟨k + 1, Ss.nul, ao6, cp6, ap6, cq6, by omega, by go_num, .inr ⟨by omega, rfl⟩, HJ8, HT8⟩
                  case measure => simp [intOf]; omega
                · have hde : decide ((k : Int) = (m : Int)) = false := by simp; omega
                  have HT8 : Hid (Tg st' (k + 1) m) := ⟨fun _ => HW'.out, fun h => absurd h (by omega)⟩
                  clear q5
                  go_wp2
                  go_roundw
                  case rel => exact ⟨k + 1, st', ao4, cp4, ap4, cq4, by omega, by go_num, .inr ⟨by omega, rfl⟩, HJ5, HT8⟩
                  case measure => simp [intOf]; omega
        · have HQ0 : Hid ((⟨16, 0, 0, 0, 0, 0, 0, 0⟩ : F8).b0.toNat = 16 * (k % 2)) := by rw [hpar]; rfl
          obtain ⟨V, hV⟩ : ∃ V, V = wr := ⟨wr, rfl⟩
          subst hV
          obtain ⟨z, hz, y1, hYz, Hy⟩ := HJ.out.got (⟨16, 0, 0, 0, 0, 0, 0, 0⟩ : F8)
          have HZ0 := hidOf2 hz
          go_upto_region 12 with (first | (refine sdF (g := (⟨16, 0, 0, 0, 0, 0, 0, 0⟩ : F8)) y1 rfl _ _ rfl rfl rfl ?_))
          change Code.wp Tryz.prog _ _ _ ((V.alloc (.cells zA8 32)).setRow z (⟨16, 0, 0, 0, 0, 0, 0, 0⟩ : F8).arr)
          generalize hX : (V.alloc (.cells zA8 32)).setRow z (⟨16, 0, 0, 0, 0, 0, 0, 0⟩ : F8).arr = X
          obtain ⟨y3, _, bX⟩ := Hy.out X hX.symm
          have HY3 := hidOf2 y3
          have HFR := hidOf2 (fun x (hK : Kp [z] X x) => HJ.out.frame1 HZ0.out HY3.out bX x hK)
          have HAL := hidOf2 (show ∀ b ∈ blk ao, b ≠ z from fun b hb => by have := HJ.out.pv.lt b hb; have := HZ0.out; omega)
          clear Hy hX y1 y3 bX hz
          go_wp2_with fail
          go_loopw [14] (fun i x => ∃ (j : Nat) (f : F8), j ≤ 7 ∧ i = .int .i64 j ∧ Hid (f.b0.toNat = 16 * (k % 2)) ∧ Hid (Qb z f x) ∧ Hid (Kp [z] X x)) (fun i _ => 7 - (intOf i).toNat)
          case atStart => exact ⟨0, (⟨16, 0, 0, 0, 0, 0, 0, 0⟩ : F8), by omega, rfl, HQ0, HY3, Kp.refl _ _⟩
          case round =>
            obtain ⟨j, f, hj, rfl, HF, HQ, HK⟩ := hrel
            by_cases hgo : j < 7 ∧ j < nl
            · obtain ⟨hj7, hjn⟩ := hgo
              have HBW := hidOf2 (HFR.out wr HK.out).below
              obtain ⟨bb, off, hao, hblt, c, hcell⟩ := HCL.out j hjn
              subst hao
              have cj := (HBW.out.cell (p := ⟨bb, off + j, none⟩) hblt).trans hcell
              obtain ⟨vz, hvz⟩ := HQ.out.any8 (1 + j) (by omega)
              have hzz := HQ.out.zz (1 + j)
              have HN : Hid (∀ Y, Y = wr.setCell ⟨z, 1 + j, none⟩ (.int .u8 (c.toNat : Int)) → Hid ((f.pc (1 + j) c).b0.toNat = 16 * (k % 2)) ∧ Hid (Qb z (f.pc (1 + j) c) Y) ∧ Hid (Kp [z] X Y)) := fun Y hY => by
                subst hY
                exact ⟨by rw [f.pc_b0 (1 + j) c (by omega) (by omega)]; exact HF.out, HQ.out.pc (1 + j) (by omega) c, HK.out.trans (Kp.cell1 wr z (1 + j) _)⟩
              have hlt8 := c.toNat_lt
              obtain ⟨lv, hlv⟩ : ∃ v, c.toNat = v := ⟨_, rfl⟩
              rw [hlv] at cj HN hlt8
              clear hlv hcell
              rcases (show j = 0 ∨ j = 1 ∨ j = 2 ∨ j = 3 ∨ j = 4 ∨ j = 5 ∨ j = 6 by omega) with rfl | rfl | rfl | rfl | rfl | rfl | rfl
              all_goals
                (first | rw [show ((0 : Nat) : Int) = 0 from rfl] | rw [show ((1 : Nat) : Int) = 1 from rfl] | rw [show ((2 : Nat) : Int) = 2 from rfl] | rw [show ((3 : Nat) : Int) = 3 from rfl] | rw [show ((4 : Nat) : Int) = 4 from rfl] | rw [show ((5 : Nat) : Int) = 5 from rfl] | rw [show ((6 : Nat) : Int) = 6 from rfl])
                try simp only [Nat.reduceAdd, Nat.add_zero] at hvz hzz HN cj
                go_wp2
                go_roundw
                case rel =>
                  obtain ⟨n0, n1, n2⟩ := HN.out _ rfl
                  refine ⟨_, _, ?_, by go_num, n0, n1, n2⟩
                  first | decide | (simp; done) | omega
                case measure => simp [intOf]
            · have hex : (7 : Nat) ≤ j ∨ (j < 7 ∧ nl ≤ j) := by omega
              have HJf := hidOf2 (HFR.out wr HK.out)
              obtain ⟨st', hst, hW'⟩ := wt_step HW.out (by omega) f HF.out b s hs (vD s hs)
              rw [hpar] at hst
              have HW' := hidOf2 hW'
              have hH := Handles_to HJf.out f hst
              have yl := HQ.out.load
              clear hgo hW' hst
              rcases hex with hex | ⟨hex1, hex2⟩
              all_goals
                try (have hd7 : decide ((j : Int) < 7) = false := by simp; omega)
                try (have hd8 : decide ((j : Int) < 7) = true := by simp; omega)
                try (have hd9 : decide ((j : Int) < (nl : Int)) = false := by simp; omega)
                go_wp2_with (refine ldG yl rfl _ rfl rfl ?_)
                refine hH.mono ?_
                rintro e w4 ⟨rfl, ao4, cp4, ap4, cq4, J4, K4, f4, g4⟩
                have q4 := HJf.out.stays K4 hYz HQ.out HAL.out
                obtain ⟨z2, hz2, y1, hYz2, Hy⟩ := J4.got (took 1)
                have HJ4 := hidOf2 J4
                clear hH K4 f4 g4 yl J4
                go_upto_region 17 with (first | (refine sdF (g := took 1) y1 rfl _ _ rfl rfl rfl ?_))
                change Code.wp Tryz.prog _ _ _ ((w4.alloc (.cells zA8 32)).setRow z2 (took 1).arr)
                generalize hZ : (w4.alloc (.cells zA8 32)).setRow z2 (took 1).arr = w5
                obtain ⟨y5, J5, b5⟩ := Hy.out w5 hZ.symm
                have c5 : w5.cell? ⟨z2, 0, none⟩ = some (.int .u8 48) := y5.c0
                have q5 := q4.below b5
                have HJ5 := hidOf2 J5
                clear Hy hZ y1 y5 J5 b5 q4 HJ4 hz2
                by_cases hkm2 : k = m
                · have hde : decide ((k : Int) = (m : Int)) = true := by simp; omega
                  have l5 := q5.load
                  have hH2 := Handles_to HJ5.out f (wt_again HW'.out f HF.out b s hs (vD s hs))
                  clear q5
                  go_wp2_with (refine ldG l5 rfl _ rfl rfl ?_)
                  refine hH2.mono ?_
                  rintro e w6 ⟨rfl, ao6, cp6, ap6, cq6, J6, _⟩
                  obtain ⟨z3, hz3, y1, hYz3, Hy⟩ := J6.got (frm 128 12288 0 84082688)
                  clear hH2 l5 J6
                  go_upto_region 21 with (first | (refine sdF (g := frm 128 12288 0 84082688) y1 rfl _ _ rfl rfl rfl ?_))
                  change Code.wp Tryz.prog _ _ _ ((w6.alloc (.cells zA8 32)).setRow z3 (frm 128 12288 0 84082688).arr)
                  generalize hZ : (w6.alloc (.cells zA8 32)).setRow z3 (frm 128 12288 0 84082688).arr = w7
                  obtain ⟨y7, J7, _⟩ := Hy.out w7 hZ.symm
                  have HJ7 := hidOf2 J7
                  have bz4 : Below w7.heap.size w7 w7.drew := bdr (Below.refl _ _) 1
                  have S0 := y7.below bz4
                  obtain ⟨fz, hfz⟩ : ∃ f, frm 128 12288 0 84082688 = f := ⟨_, rfl⟩
                  have hAb := fun x => Abort_any 12288 0 84082688 x (by decide) (by decide) (by decide)
                  rw [hfz] at S0 hAb
                  clear Hy hZ y1 y7 J7 hfz hz3
                  refine wp_region_held (S := fun x => Qb z3 fz x) (by kernel_rfl) ?_
                  change wpAnyH _ _ _ _ _ _ _ _ w7.drew
                  refine tk 0 (.bool true) rfl (by kernel_rfl) (fun _ _ _ h => h) rfl (fun _ hS => rfl) S0 ?_
                  simp only [zzA, zzB, zzC, Act.put, zzD, zzE, zzF]
                  refine tk 1 (.bool false) rfl (by kernel_rfl) (fun _ _ _ h => h) rfl (fun _ hS => by simp [execOp, go_sem, Act.eval]) S0 ?_
                  simp only [zzA, zzB, zzC, Act.put, zzD, zzE, zzF]
                  refine tk 2 (.bool false) rfl (by kernel_rfl) (fun _ _ _ h => h) rfl (fun _ hS => rfl) S0 ?_
                  simp only [zzA, zzB, zzC, Act.put, zzD, zzE, zzF]
                  refine tk 3 (.agg fz.arr) rfl (by kernel_rfl) (fun _ _ _ h => h) rfl (fun _ hS => exec_load rfl rfl (Qb.load hS)) S0 ?_
                  simp only [zzA, zzB, zzC, Act.put, zzD, zzE, zzF]
                  refine wpAnyH_all (rs := [4]) (by kernel_rfl) (by simp) ?_
                  intro k hk
                  simp only [List.mem_cons, List.mem_nil_iff, or_false] at hk
                  subst hk
                  refine wpOp_runw rfl rfl (wp_call_fn 18 #[.int .u16 ((12288 : Nat) : Int), .int .u8 ((0 : Nat) : Int), .int .u32 ((84082688 : Nat) : Int)] (by simp [execOp, go_sem, Act.eval, resolve, invoke, enterAb]) ?_)
                  refine (hAb _).mono ?_
                  rintro e z5 ⟨rfl, bz5⟩
                  have s5 := S0.below bz5
                  have bz6 := bz4.trans (bz5.mono bz4.size)
                  refine ⟨s5, ?_⟩
                  simp only [zzA, zzB, zzC, Act.put, zzD, zzE, zzF]
                  refine tk 5 (.bool false) rfl (by kernel_rfl) (fun _ _ _ h => h) rfl (fun _ hS => exec_neq8 fz rfl rfl rfl _) s5 ?_
                  simp only [zzA, zzB, zzC, Act.put, zzD, zzE, zzF]
                  refine tk 6 (.bool false) rfl (by kernel_rfl) (fun _ _ _ h => h) rfl (fun _ hS => by simp [execOp, go_sem, Act.eval]) s5 ?_
                  simp only [zzA, zzB, zzC, Act.put, zzD, zzE, zzF]
                  refine wpAnyH_done (by kernel_rfl) ?_ _
                  have HJ8 := hidOf2 (HJ7.out.next bz6)
                  have HT8 : Hid (Tg Ss.nul (k + 1) m) := ⟨fun h => absurd h (by omega), fun _ => rfl⟩
                  clear S0 s5 bz4 bz5 bz6 hAb HJ7 HJ5
                  go_wp2
                  go_roundw
                  case rel => exact ⟨k + 1, Ss.nul, ao6, cp6, ap6, cq6, by omega, by go_num, .inl ⟨by omega, rfl⟩, HJ8, HT8⟩
                  case measure => simp [intOf]; omega
                · have hde : decide ((k : Int) = (m : Int)) = false := by simp; omega
                  have HT8 : Hid (Tg st' (k + 1) m) := ⟨fun _ => HW'.out, fun h => absurd h (by omega)⟩
                  clear q5
                  go_wp2
                  go_roundw
                  case rel => exact ⟨k + 1, st', ao4, cp4, ap4, cq4, by omega, by go_num, .inl ⟨by omega, rfl⟩, HJ5, HT8⟩
                  case measure => simp [intOf]; omega
      · obtain rfl : k = m + 1 := by omega
        have hk2 : ¬ m + 1 ≤ m := by omega
        have hst := HT.out.2 (by omega)
        subst hst
        have hG := Get_any HJ.out.pv.dct 12288 0 (by decide) (by decide)
        rw [one_getV, one_getE] at hG
        obtain ⟨cY0, cY1, _⟩ := HJ.out.cY
        obtain ⟨cX0, _⟩ := HJ.out.cX
        have hdk : decide (((m + 1 : Nat) : Int) ≤ (m : Int)) = false := by simp; omega
        clear hpar
        go_wp2_with fail
        refine hG.mono ?_
        rintro e w8 ⟨rfl, b8⟩
        have HJ8 := hidOf2 (HJ.out.next b8)
        obtain ⟨zv, hzv, g0, Hy⟩ := got_v w8 (vD s hs)
        clear hG b8 cY0 cX0 cY1
        go_upto_region 25 with (first | (refine g0.sd (vD s hs) rfl _ _ rfl rfl rfl ?_))
        generalize hZ : (w8.alloc (.cells #[.int .i64 0, .int .u64 0, .string ⟨#[]⟩] 52)).setRow zv (vD s hs).arr = w9
        obtain ⟨g9, b9⟩ := Hy.out w9 hZ.symm
        have J9 := HJ8.out.next b9
        have c9 : w9.cell? ⟨zv, 2, none⟩ = some (.string s) := g9.c2
        obtain ⟨_, cY1, _⟩ := J9.cY
        have hD := Doing_any J9.pv.head
        have HB9 := hidOf2 J9.below
        clear Hy hZ g0 g9 b9 HJ8 J9 HJ HT
        go_wp2_with fail
        refine hD.mono ?_
        rintro e x1 ⟨rfl, hx1⟩
        rw [hx1]
        clear hx1 x1 hD
        go_wp2_with fail
        refine (HLV _).mono ?_
        rintro e w10 ⟨rfl, b10⟩
        have HO := hidOf2 (HB9.out.trans (b10.mono HB9.out.size))
        clear b10
        go_wp2
        go_ret
        exact ⟨rfl, HO.out⟩
  · obtain rfl := HB2.out (by omega)
    have HB1 := hidOf2 B1
    clear B1
    go_wp2_with fail
    refine (HLV _).mono ?_
    rintro e w2 ⟨rfl, b2⟩
    have HO := hidOf2 (HB1.out.trans (b2.mono HB1.out.size))
    clear b2
    go_wp2
    go_ret
    exact ⟨rfl, HO.out⟩
end Go.Proofs.YtahfnknbmikmkaaGreat
