/- The law SdoWrites returns true whatever comes in. -/
import Derived.Test.YtahfnknbmikmkaaGreatKb36
import Derived.Test.YtahfnknbmikmkaaGreatKb5
import Derived.Deep.DeepCutAuto
namespace Go.Proofs.YtahfnknbmikmkaaGreat
open Go.RowKit Go.Proofs.Ty
set_option linter.unusedVariables false
set_option maxRecDepth 1000000
set_option linter.unusedSimpArgs false
def qT : F8 := ⟨32, 0, 48, 0, 0, 0, 0, 0⟩
theorem bytes_take {w : World} {ao : Option Addr} {n cap : Nat} {l : List UInt8} (h : Bytes w (.slice ao n cap) l) (k : Nat) (hk : k ≤ n) : Bytes w (.slice ao k cap) (l.take k) := by
  obtain ⟨ao', cap', hv, h0, hc⟩ := h
  injection hv with e1 e2 e3
  subst e1 e2 e3
  have hl : (l.take k).length = k := by rw [List.length_take]; omega
  refine ⟨ao, cap, by rw [hl], fun h => ?_, fun j hj => ?_⟩
  · obtain ⟨rfl, h2⟩ := h0 h
    exact ⟨by simp, h2⟩
  · obtain ⟨b, off, h1, h2, h3⟩ := hc j (by omega)
    exact ⟨b, off, h1, h2, by rw [h3]; simp⟩
/-- The first frame where it is said how many bytes come. -/
def qS (n : Nat) : F8 := ⟨33, 0, 48, 0, .ofNat (n % 256), .ofNat (n / 256), 0, 0⟩
theorem arr_qS (n : Nat) (h : n ≤ 2000) : (#[.int .u8 33, .int .u8 0, .int .u8 48, .int .u8 0, .int .u8 ((n : Int) % 256), .int .u8 ((n : Int) / 256), .int .u8 0, .int .u8 0] : Array Value) = (qS n).arr := by
  have e1 : (n : Int) % 256 = ((UInt8.ofNat (n % 256)).toNat : Int) := by rw [un _ (by omega)]; omega
  have e2 : (n : Int) / 256 = ((UInt8.ofNat (n / 256)).toNat : Int) := by rw [un _ (by omega)]; omega
  rw [e1, e2]
  rfl
theorem qS_ok (n : Nat) (h : n ≤ 2000) : (qS n).b0.toNat / 32 = 1 ∧ (qS n).b0.toNat / 2 % 2 = 0 ∧ pix (qS n) = 12288 ∧ psb (qS n) = 0 ∧ ((qS n).b0.toNat % 2 = 1 → num4 (qS n) = n) := by
  refine ⟨by show (33 : UInt8).toNat / 32 = 1; decide, by show (33 : UInt8).toNat / 2 % 2 = 0; decide, by show (0 : UInt8).toNat + 256 * (48 : UInt8).toNat = 12288; decide, by show (0 : UInt8).toNat = 0; decide, fun _ => ?_⟩
  show (UInt8.ofNat (n % 256)).toNat + 256 * (UInt8.ofNat (n / 256)).toNat + 65536 * (0 : UInt8).toNat + 16777216 * (0 : UInt8).toNat = n
  have e1 := un (n % 256) (by omega)
  have e2 := un (n / 256) (by omega)
  have e3 : (0 : UInt8).toNat = 0 := rfl
  omega
set_option maxHeartbeats 64000000 in
theorem swri_walk (v v1 : Value) (l : List UInt8) (s : ByteArray) (hs : s.size ≤ maxLen) (said : Bool) (zs : List UInt8) (w : World) (hB : Bytes w v l) (hC : Cp v) (hl : l.length ≤ 140737488351232) (hZ : Bytes w v1 zs) (hzl : zs.length ≤ 140737488351232) :
    Calls Tryz.prog 5 #[.agg #[v, .string s, .bool said], v1] w fun e w' => e = .returned (.bool true) ∧ Below w.heap.size w w' := by
  obtain ⟨W0, hW0⟩ : ∃ x, w.alloc (.cells #[v, .string s, .bool said] 61) = x := ⟨_, rfl⟩
  obtain ⟨k0, hk0⟩ : ∃ n, w.heap.size = n := ⟨_, rfl⟩
  have b0 : Below w.heap.size w W0 := hW0 ▸ (Below.refl _ _).alloc (Nat.le_refl _) _
  have g0 : W0.heap[k0]? = some (.cells #[v, .string s, .bool said] 61 (0, 0)) := by rw [← hW0, ← hk0]; exact heap_alloc_new w _
  have j0 : W0.cell? ⟨k0, 0, none⟩ = some v := Lib.cell_of_heap g0 0
  have j1 : W0.cell? ⟨k0, 1, none⟩ = some (.string s) := Lib.cell_of_heap g0 1
  have j2 : W0.cell? ⟨k0, 2, none⟩ = some (.bool said) := Lib.cell_of_heap g0 2
  obtain ⟨ao0, cap0, rfl⟩ := bytes_shape hB
  obtain ⟨ao1, cap1, rfl⟩ := bytes_shape hZ
  have HB := hidOf2 hB
  have HZ := hidOf2 hZ
  have HC := hidOf2 hC
  have hWh := whole_any s hs
  have HLV := lives10_any
  obtain ⟨nl, hnl⟩ : ∃ n, l.length = n := ⟨_, rfl⟩
  obtain ⟨nz, hnz⟩ : ∃ n, zs.length = n := ⟨_, rfl⟩
  have HNL := hidOf2 hnl
  have HNZ := hidOf2 hnz
  have HB0 := hidOf2 b0
  rw [hnl] at hl HB HC g0 j0 hW0 ⊢
  rw [hnz] at hzl HZ ⊢
  have HCZ : Hid (∀ j, j < nz → ∃ b off, ao1 = some ⟨b, off, none⟩ ∧ b < w.heap.size ∧ ∃ c : UInt8, w.cell? ⟨b, off + j, none⟩ = some (.int .u8 (c.toNat : Int))) := by
    intro j hj
    obtain ⟨ao1, cp1, hv, _, hc⟩ := HZ.out
    injection hv with e1
    obtain ⟨b, off, h1, h2, h3⟩ := hc j (by rw [HNZ.out]; exact hj)
    exact ⟨b, off, e1.trans h1, h2, _, h3⟩
  clear hB hC hZ hnl hnz b0 g0
  go_enter Tryz.func5, Tryz.ntmps5
  go_upto_region 1 with fail
  go_quiet (fail)
  have HB1 := hidOf2 (show Below w.heap.size w (W0.drewN nq) from bdr HB0.out nq)
  generalize W0.drewN nq = W1 at *
  clear j0 j1 j2 hW0 HB0 hk0
  have hcap : nl ≤ cap0 := HC.out _ _ _ rfl
  go_upto_if 32 with fail
  go_cut [5] (fun s5 wx => wx = W1 ∧ ∃ (B : List UInt8) (a5 : Option Addr) (nb c5 : Nat), s5 = .slice a5 nb c5 ∧ B.length = nb ∧ nb ≤ 2000 ∧ (∀ x, Below w.heap.size w x → Bytes x (.slice a5 nb c5) B) ∧ Cp (.slice a5 nb c5))
  case first =>
    by_cases hlong : 2000 < nl
    · have hd : decide ((2000 : Int) < (nl : Int)) = true := by simp; omega
      go_wp2_with fail
      go_meet
      case rel => exact ⟨rfl, l.take 2000, ao0, 2000, cap0, rfl, by rw [List.length_take, HNL.out]; omega, by omega, fun x hx => bytes_take (HB.out.below hx) 2000 (by omega), fun a n c h => by injection h with e1 e2 e3; omega⟩
    · have hd : decide ((2000 : Int) < (nl : Int)) = false := by simp; omega
      go_wp2_with fail
      go_meet
      case rel => exact ⟨rfl, l, ao0, nl, cap0, rfl, HNL.out, by omega, fun x hx => HB.out.below hx, HC.out⟩
  case rest =>
  obtain ⟨rfl, B, a5, nb, c5, rfl, hnb, hnb2, hBB, hCB⟩ := hcut
  have HNB := hidOf2 hnb
  have HBB := hidOf2 hBB
  have HCB := hidOf2 hCB
  clear hnb hBB hCB HB HC HNL hcap hl
  go_wp2_with fail
  refine (hWh _).mono ?_
  rintro e w1 ⟨B1, hbad, hgood⟩
  have HG := hidOf2 hgood
  have HB2 := hidOf2 hbad
  clear hWh hgood hbad
  by_cases hsz : s.size ≤ 65536
  · obtain ⟨p, b, rfl, hJ0⟩ := HG.out hsz
    have hJ := hJ0.rebase HB1.out
    obtain ⟨z, hz, y1, hYz, Hy⟩ := hJ.got qT
    have HJ1 := hidOf2 hJ
    clear HG HB2 hJ B1 hJ0
    go_upto_region 8 with (first | (refine sdF (g := qT) y1 rfl _ _ rfl rfl rfl ?_))
    change Code.wp Tryz.prog _ _ _ ((w1.alloc (.cells zA8 32)).setRow z qT.arr)
    generalize hZZ : (w1.alloc (.cells zA8 32)).setRow z qT.arr = w3
    obtain ⟨y3, J3, b3⟩ := Hy.out w3 hZZ.symm
    have HJ3 := hidOf2 J3
    have HY3 := hidOf2 y3
    have HFR := hidOf2 (fun x (hK : Kp [z] w3 x) => HJ1.out.frame1 hz HY3.out b3 x hK)
    have hwz : w.heap.size ≤ z := by have := HJ1.out.below.size; omega
    clear Hy hZZ y1 J3 b3 hz
    go_upto_if 47 with fail
    go_cut [] (fun wx => ∃ q0 : F8, Hid (Qb z q0 wx) ∧ Hid (Kp [z] w3 wx) ∧ Hid (q0.b0.toNat / 32 = 1 ∧ q0.b0.toNat / 2 % 2 = 0 ∧ pix q0 = 12288 ∧ psb q0 = 0 ∧ (q0.b0.toNat % 2 = 1 → num4 q0 = nb)))
    case first =>
      cases said
      · go_wp2_with fail
        go_meet
        case rel => exact ⟨qT, HY3, Kp.refl _ _, by decide, by decide, by decide, by decide, fun h => absurd h (by decide)⟩
      · have hbs := hidOf2 (arr_qS nb hnb2)
        have HQS := hidOf2 (HY3.out.row (qS nb))
        have HKS := hidOf2 (Kp.setRow1 w3 z (qS nb).arr)
        have HOK := hidOf2 (qS_ok nb hnb2)
        go_wp2_with (first | (refine sdF (g := qS nb) y3 rfl _ _ rfl rfl (congrArg Value.agg hbs.out) ?_))
        go_meet
        case rel => exact ⟨qS nb, HQS.out, HKS.out, HOK.out⟩
    case rest =>
    obtain ⟨q0, HQ0, HK0, HO0⟩ := hcut
    have HJ4 := hidOf2 (HFR.out wc HK0.out)
    obtain ⟨o1, o2, o3, o4, o5⟩ := HO0.out
    have hH := Handles_to HJ4.out q0 (one_begin o1 o2 o3 o4 (fun h => by rw [o5 h]; omega))
    obtain ⟨sz0, hsz0⟩ : ∃ z, (if q0.b0.toNat % 2 = 1 then some (num4 q0) else none) = z := ⟨_, rfl⟩
    rw [hsz0] at hH
    have HSZ : Hid (sz0 = none ∨ sz0 = some nb) := by
      rw [← hsz0]
      by_cases h : q0.b0.toNat % 2 = 1
      · rw [if_pos h, o5 h]; exact .inr rfl
      · rw [if_neg h]; exact .inl rfl
    have yl := HQ0.out.load
    have HAL := hidOf2 (show ∀ b ∈ blk none, b ≠ z from fun b hb => by simp [blk] at hb)
    clear o1 o2 o3 o4 o5 hsz0 y3 HO0 HK0 HY3 HJ3 HJ1
    go_wp2_with (refine ldG yl rfl _ rfl rfl ?_)
    refine hH.mono ?_
    rintro e w4 ⟨rfl, ao2, cp2, ap2, cq2, J4, K4, f4, g4⟩
    have q4 := HJ4.out.stays K4 hYz HQ0.out HAL.out
    have hne4 : ∀ b ∈ blk ao2, b ≠ z := fun b hb => by
      rcases f4 b hb with h | h
      · simp [blk] at h
      · have := HQ0.out.lt; omega
    have hnf4 : ∀ b ∈ blk ap2, b ≠ z := fun b hb => by
      rcases g4 b hb with h | h
      · simp [blk] at h
      · have := HQ0.out.lt; omega
    obtain ⟨z2, hz2, y1, hYz2, Hy⟩ := J4.got (frm 96 12288 0 0)
    clear hH J4 K4 f4 g4 yl HAL HJ4 HQ0 HFR
    go_upto_region 11 with (first | (refine sdF (g := frm 96 12288 0 0) y1 rfl _ _ rfl rfl rfl ?_))
    change Code.wp Tryz.prog _ _ _ ((w4.alloc (.cells zA8 32)).setRow z2 (frm 96 12288 0 0).arr)
    generalize hZZ : (w4.alloc (.cells zA8 32)).setRow z2 (frm 96 12288 0 0).arr = w5
    obtain ⟨y5, J5, b5⟩ := Hy.out w5 hZZ.symm
    have c5' : w5.cell? ⟨z2, 0, none⟩ = some (.int .u8 96) := y5.c0
    have HJ5 := hidOf2 J5
    have HQ5 := hidOf2 (q4.below b5)
    have HN5 := hidOf2 (And.intro hne4 hnf4)
    clear Hy hZZ y1 y5 J5 b5 q4 hz2 hYz2 hne4 hnf4
    have HW0 : Hid (Ws ⟨1, 12288, 0, 0, [], sz0⟩ 0 [] sz0) := ⟨rfl, rfl, rfl, rfl, rfl, rfl⟩
    go_wp2_with fail
    go_loopw [13, 14, 15] (fun rv tv i x => ∃ (k : Nat) (R L : List UInt8) (ar : Option Addr) (nr cr : Nat) (st : Ss) (ao : Option Addr) (cp : Nat) (ap : Option Addr) (cq : Nat) (q : F8), k + nr ≤ 2000 ∧ i = .int .i64 k ∧ rv = .slice ar nr cr ∧ (k % 2 = 0 ∧ tv = .int .u8 0 ∨ k % 2 = 1 ∧ tv = .int .u8 16) ∧ Hid (R.length = nr ∧ B = L ++ R) ∧ Hid (∀ x, Below w.heap.size w x → Bytes x (.slice ar nr cr) R) ∧ Hid (Cp (.slice ar nr cr)) ∧ Hid (Jt w p (one b s hs (vD s hs)) (one b s hs (vD s hs)) st st ao cp ap cq x) ∧ Hid (Qb z q x) ∧ Hid ((∀ b ∈ blk ao, b ≠ z) ∧ (∀ b ∈ blk ap, b ≠ z)) ∧ Hid (Ws st (k % 2) L sz0)) (fun rv _ _ _ => lenV rv)
    case atStart => exact ⟨0, B, [], a5, nb, c5, _, ao2, cp2, ap2, cq2, q0, by omega, rfl, rfl, .inl ⟨rfl, rfl⟩, ⟨HNB.out, rfl⟩, HBB, HCB, HJ5, HQ5, HN5, HW0⟩
    case round =>
      clear HJ5 HQ5 HN5 HW0 c5'
      obtain ⟨k, R, L, ar, nr, cr, st, ao, cp, ap, cq, q, hk, rfl, rfl, hpar, HR, HBR, HCR, HJ, HQ, HN, HW⟩ := hrel
      obtain ⟨V, hV⟩ : ∃ V, V = wr := ⟨wr, rfl⟩
      subst hV
      rcases hpar with ⟨hpar, rfl⟩ | ⟨hpar, rfl⟩
      · as_aux_lemma =>
        go_upto_if 74 with fail
        go_cut [16] (fun s16 wx => wx = V ∧ ∃ n1 : Nat, s16 = .int .i64 n1 ∧ 1 ≤ n1 ∧ n1 ≤ 7)
        case first =>
          by_cases hz0 : 0 < nz
          · have hd : decide ((0 : Int) < (nz : Int)) = true := by simp; omega
            have hm2 : k % nz < nz := Nat.mod_lt _ hz0
            have hm1 : (k : Int) % (nz : Int) = ((k % nz : Nat) : Int) := by omega
            generalize k % nz = m at hm1 hm2
            obtain ⟨bz, oz, hao, hblt, cz, hcell⟩ := HCZ.out m hm2
            subst hao
            have cj := (HJ.out.below.cell (p := ⟨bz, oz + m, none⟩) hblt).trans hcell
            have h8 := cz.toNat_lt
            obtain ⟨lv, hlv⟩ : ∃ v, cz.toNat = v := ⟨_, rfl⟩
            rw [hlv] at cj h8
            clear hcell hlv
            go_wp2_with fail
            go_meet
            case rel => exact ⟨rfl, 1 + lv % 7, by go_num, by omega, by omega⟩
          · have hd : decide ((0 : Int) < (nz : Int)) = false := by simp; omega
            go_wp2_with fail
            go_meet
            case rel => exact ⟨rfl, 7, rfl, by omega, by omega⟩
        case rest =>
        obtain ⟨rfl, n1, rfl, hn1, hn7⟩ := hcut
        go_upto_if 88 with fail
        go_cut [16] (fun s16 wx => wx = wc ∧ ∃ n : Nat, s16 = .int .i64 n ∧ n ≤ 7 ∧ n ≤ nr ∧ (0 < nr → 1 ≤ n))
        case first =>
          by_cases hc : nr < n1
          · have hd : decide ((nr : Int) < (n1 : Int)) = true := by simp; omega
            go_wp2_with fail
            go_meet
            case rel => exact ⟨rfl, nr, rfl, by omega, by omega, by omega⟩
          · have hd : decide ((nr : Int) < (n1 : Int)) = false := by simp; omega
            go_wp2_with fail
            go_meet
            case rel => exact ⟨rfl, n1, rfl, by omega, by omega, by omega⟩
        case rest =>
        obtain ⟨rfl, n, rfl, hn7', hnr, hn0⟩ := hcut
        clear hn1 hn7
        have HCL : Hid (∀ j (hj : j < R.length), ∃ b off, ar = some ⟨b, off, none⟩ ∧ b < w.heap.size ∧ w.cell? ⟨b, off + j, none⟩ = some (.int .u8 (R[j].toNat : Int))) := by
          intro j hj
          obtain ⟨ao1, cp1, hv, _, hc⟩ := HBR.out w (Below.refl _ _)
          injection hv with e1
          obtain ⟨b, off, h1, h2, h3⟩ := hc j hj
          exact ⟨b, off, e1.trans h1, h2, h3⟩
        have HFQ := hidOf2 (fun x (hK : Kp [z] wc x) => HJ.out.frame HQ.out ⟨hwz, hYz⟩ HN.out.1 HN.out.2 hK)
        have y0 := HQ.out
        go_upto_region 21 with fail
        go_cut [] (fun wx => Hid (Qb z (fr (UInt8.ofNat (0 + 2 * (7 - n))) []) wx) ∧ Hid (Kp [z] wc wx))
        case first =>
          as_aux_lemma =>
            have HK := fun f : F8 => hidOf2 (Kp.setRow1 wc z f.arr)
            have HQQ := fun f : F8 => hidOf2 (HQ.out.row f)
            clear HFQ HCL
            rcases (show n = 0 ∨ n = 1 ∨ n = 2 ∨ n = 3 ∨ n = 4 ∨ n = 5 ∨ n = 6 ∨ n = 7 by omega) with rfl | rfl | rfl | rfl | rfl | rfl | rfl | rfl
            all_goals
              (first | rw [show ((0 : Nat) : Int) = 0 from rfl] | rw [show ((1 : Nat) : Int) = 1 from rfl] | rw [show ((2 : Nat) : Int) = 2 from rfl] | rw [show ((3 : Nat) : Int) = 3 from rfl] | rw [show ((4 : Nat) : Int) = 4 from rfl] | rw [show ((5 : Nat) : Int) = 5 from rfl] | rw [show ((6 : Nat) : Int) = 6 from rfl] | rw [show ((7 : Nat) : Int) = 7 from rfl])
              go_wp2_with (first | (refine sdF (g := fr (UInt8.ofNat 0) []) y0 rfl _ _ rfl rfl rfl ?_) | (refine sdF (g := fr (UInt8.ofNat (0 + 2)) []) y0 rfl _ _ rfl rfl rfl ?_) | (refine sdF (g := fr (UInt8.ofNat (0 + 4)) []) y0 rfl _ _ rfl rfl rfl ?_) | (refine sdF (g := fr (UInt8.ofNat (0 + 6)) []) y0 rfl _ _ rfl rfl rfl ?_) | (refine sdF (g := fr (UInt8.ofNat (0 + 8)) []) y0 rfl _ _ rfl rfl rfl ?_) | (refine sdF (g := fr (UInt8.ofNat (0 + 10)) []) y0 rfl _ _ rfl rfl rfl ?_) | (refine sdF (g := fr (UInt8.ofNat (0 + 12)) []) y0 rfl _ _ rfl rfl rfl ?_) | (refine sdF (g := fr (UInt8.ofNat (0 + 14)) []) y0 rfl _ _ rfl rfl rfl ?_))
              go_meet
              case rel => exact ⟨(HQQ _).out, (HK _).out⟩
        case rest =>
        obtain ⟨HQ1, HK1⟩ := hcut
        clear y0
        have HC0 : Hid ((UInt8.ofNat (0 + 2 * (7 - n))).toNat = 16 * (k % 2) + 2 * (7 - n)) := by
          have := un (0 + 2 * (7 - n)) (by omega)
          rw [hpar]
          show _ = _
          omega
        generalize UInt8.ofNat (0 + 2 * (7 - n)) = c0 at *
        obtain ⟨U, hU⟩ : ∃ V, V = wc := ⟨wc, rfl⟩
        subst hU
        have HKU : Hid (Kp [z] U U) := Kp.refl _ _
        go_wp2_with fail
        go_loopw [17] (fun jv x => ∃ j : Nat, j ≤ n ∧ jv = .int .i64 j ∧ Hid (Qb z (fr c0 (R.take j)) x) ∧ Hid (Kp [z] U x)) (fun jv _ => n - (intOf jv).toNat)
        case atStart => exact ⟨0, Nat.zero_le _, rfl, HQ1, HKU⟩
        case round =>
          obtain ⟨j, hj, rfl, HQ2, HK2⟩ := hrel
          by_cases hjn : j < n
          · have hdj : decide ((j : Int) < (n : Int)) = true := by simp; omega
            have HJ2 := hidOf2 (HFQ.out wr (HK1.out.trans HK2.out))
            have hjr : j < R.length := by have := HR.out.1; omega
            obtain ⟨bb, off, hao, hblt, hcell⟩ := HCL.out j hjr
            have cj := (HJ2.out.below.cell (p := ⟨bb, off + j, none⟩) hblt).trans hcell
            subst hao
            obtain ⟨vz, hvz⟩ := HQ2.out.any8 (1 + j) (by omega)
            have hzz := HQ2.out.zz (1 + j)
            have HX : Hid (∀ Y, Y = wr.setCell ⟨z, 1 + j, none⟩ (.int .u8 (R[j].toNat : Int)) → Hid (Qb z (fr c0 (R.take (j + 1))) Y) ∧ Hid (Kp [z] U Y)) := fun Y hY => by
              subst hY
              have h1 := HQ2.out.pc (1 + j) (by omega) R[j]
              rw [fr_step c0 R j (by omega) hjr] at h1
              exact ⟨h1, HK2.out.trans (Kp.cell1 wr z (1 + j) _)⟩
            have hlt8 := R[j].toNat_lt
            obtain ⟨lv, hlv⟩ : ∃ v, R[j].toNat = v := ⟨_, rfl⟩
            rw [hlv] at cj HX hlt8
            clear hlv hcell hjr HJ2
            rcases (show j = 0 ∨ j = 1 ∨ j = 2 ∨ j = 3 ∨ j = 4 ∨ j = 5 ∨ j = 6 by omega) with rfl | rfl | rfl | rfl | rfl | rfl | rfl
            all_goals
              (first | rw [show ((0 : Nat) : Int) = 0 from rfl] at * | rw [show ((1 : Nat) : Int) = 1 from rfl] at * | rw [show ((2 : Nat) : Int) = 2 from rfl] at * | rw [show ((3 : Nat) : Int) = 3 from rfl] at * | rw [show ((4 : Nat) : Int) = 4 from rfl] at * | rw [show ((5 : Nat) : Int) = 5 from rfl] at * | rw [show ((6 : Nat) : Int) = 6 from rfl] at *)
              try simp only [Nat.reduceAdd, Nat.add_zero] at hvz hzz HX cj
              go_wp2
              go_roundw
              case rel =>
                obtain ⟨n1, n2⟩ := HX.out _ rfl
                exact ⟨_, hjn, by go_num, n1, n2⟩
              case measure => simp [intOf]; omega
          · obtain rfl : j = n := by omega
            have hdj : decide ((j : Int) < (j : Int)) = false := by simp
            obtain ⟨a2, c2, hsl, hbs, hcp⟩ := bslice_l (HBR.out w (Below.refl _ _)) HCR.out j (by rw [HR.out.1]; omega)
            rw [HR.out.1] at hsl hbs hcp
            obtain ⟨nx, hnx⟩ : ∃ m, nr - j = m := ⟨_, rfl⟩
            rw [hnx] at hsl hbs hcp
            have HNX := hidOf2 hnx
            have HBS := hidOf2 (show ∀ x, Below w.heap.size w x → Bytes x (.slice a2 nx c2) (R.drop j) from fun x hx => hbs x (HBR.out x hx))
            have HCP := hidOf2 hcp
            have HJ2 := hidOf2 (HFQ.out wr (HK1.out.trans HK2.out))
            have y2 := HQ2.out
            have cz := y2.c0
            have hzz := y2.zz 0
            have h30 := HC0.out
            have hc30 : (fr c0 (R.take j)).b0.toNat ≤ 30 := by rw [fr_b0, h30]; omega
            have HX : Hid (∀ Y, Y = wr.setCell ⟨z, 0, none⟩ (.int .u8 ((c0.toNat : Int) + 1)) → Hid (Qb z (fr (UInt8.ofNat (c0.toNat + 1)) (R.take j)) Y) ∧ Hid (Kp [z] wr Y)) := fun Y hY => by
              subst hY
              have h1 := y2.pc 0 (by omega) (UInt8.ofNat (c0.toNat + 1))
              rw [fr_pc0, un _ (by rw [h30]; omega)] at h1
              exact ⟨h1, Kp.cell1 wr z 0 _⟩
            rw [fr_b0] at cz hc30
            obtain ⟨c0n, hc0n⟩ : ∃ m, c0.toNat = m := ⟨_, rfl⟩
            rw [hc0n] at cz hc30 HX
            have HC1 : Hid (c0n = 16 * (k % 2) + 2 * (7 - j)) := by rw [← hc0n]; exact h30
            clear hbs hcp hnx y2 h30 HQ1 HK1 HKU HFQ HCL hjn hc0n
            go_upto_if 115 with fail
            go_cut [] (fun wx => ∃ c1 : UInt8, Hid (c1.toNat = 16 * (k % 2) + 2 * (7 - j) + (if nx = 0 then 1 else 0)) ∧ Hid (Qb z (fr c1 (R.take j)) wx) ∧ Hid (Kp [z] wr wx))
            case first =>
              by_cases hx0 : nx = 0
              · subst hx0
                have hde : decide (((0 : Nat) : Int) = 0) = true := by simp
                go_wp2_with fail
                go_meet
                case rel =>
                  obtain ⟨n1, n2⟩ := HX.out _ rfl
                  refine ⟨_, ?_, n1, n2⟩
                  have h1 := HC1.out
                  have := un (c0n + 1) (by omega)
                  show _ = _
                  first | rw [if_pos rfl] | rw [if_pos trivial]
                  omega
              · have hde : decide ((nx : Int) = 0) = false := by simp; omega
                go_wp2_with fail
                go_meet
                case rel => exact ⟨c0, (by have h := HC0.out; show _ = _; first | (rw [if_neg hx0]; omega) | (simp only [hx0, if_false]; omega) | (simp [hx0]; omega) | (simp only [if_false]; omega)), HQ2, Kp.refl _ _⟩
            case rest =>
            obtain ⟨c1, HC2, HQ3, HK3⟩ := hcut
            have HJ3 := hidOf2 (HJ2.out.frame HQ2.out ⟨hwz, hYz⟩ HN.out.1 HN.out.2 HK3.out)
            have hG := Get_any HJ3.out.pv.dct 12288 0 (by decide) (by decide)
            rw [one_getV, one_getE] at hG
            obtain ⟨cY0, _, _⟩ := HJ3.out.cY
            obtain ⟨cX0, _⟩ := HJ3.out.cX
            clear HX cz hzz HJ2 HQ2 HK2 HC0 HC1
            go_wp2_with fail
            refine hG.mono ?_
            rintro e w8 ⟨rfl, b8⟩
            have HJ8 := hidOf2 (HJ3.out.next b8)
            have HQ8 := hidOf2 (HQ3.out.below b8)
            obtain ⟨zv, hzv, g0, Hy⟩ := got_v w8 (vD s hs)
            clear hG b8 cY0 cX0 HJ3 HQ3 HK3
            go_upto_region 30 with (first | (refine g0.sd (vD s hs) rfl _ _ rfl rfl rfl ?_))
            generalize hZZ : (w8.alloc (.cells #[.int .i64 0, .int .u64 0, .string ⟨#[]⟩] 52)).setRow zv (vD s hs).arr = w9
            obtain ⟨g9, b9⟩ := Hy.out w9 hZZ.symm
            have HJ9 := hidOf2 (HJ8.out.next b9)
            have HQ9 := hidOf2 (HQ8.out.below b9)
            have c9 : w9.cell? ⟨zv, 2, none⟩ = some (.string s) := g9.c2
            have yl := HQ9.out.load
            have HRL := hidOf2 (show (R.take j).length = j by rw [List.length_take, HR.out.1]; omega)
            have HLB := hidOf2 (show L.length + nr = nb by have h1 := HNB.out; have h2 := HR.out; rw [h2.2, List.length_append] at h1; omega)
            clear Hy hZZ g0 g9 b9 HJ8 HQ8 hzv
            by_cases hx0 : nx = 0
            · as_aux_lemma =>
                have hH := Handles_to HJ9.out (fr c1 (R.take j)) (ws_last HW.out (by omega) hn7' HRL.out (by rw [HC2.out, if_pos hx0]) (by have := HLB.out; omega) (by have h1 := HLB.out; have h2 := HNX.out; rw [show L.length + j = nb by omega]; exact HSZ.out))
                rw [hpar] at hH
                have HBE := hidOf2 (show L ++ R.take j = B by rw [HR.out.2]; congr 1; exact List.take_of_length_le (by rw [HR.out.1]; have h2 := HNX.out; omega))
                rw [HBE.out] at hH
                go_wp2_with (refine ldG yl rfl _ rfl rfl ?_)
                refine hH.mono ?_
                rintro e w10 ⟨rfl, ao3, cp3, ap3, cq3, J10, _⟩
                obtain ⟨z3, hz3, y1, hYz3, Hy⟩ := J10.got (took 0)
                clear hH yl J10
                go_upto_region 33 with (first | (refine sdF (g := took 0) y1 rfl _ _ rfl rfl rfl ?_))
                change Code.wp Tryz.prog _ _ _ ((w10.alloc (.cells zA8 32)).setRow z3 (took 0).arr)
                generalize hZZ : (w10.alloc (.cells zA8 32)).setRow z3 (took 0).arr = w11
                obtain ⟨y11, J11, _⟩ := Hy.out w11 hZZ.symm
                have c11 : w11.cell? ⟨z3, 0, none⟩ = some (.int .u8 32) := y11.c0
                have hde : decide ((nx : Int) = 0) = true := by simp; omega
                obtain ⟨hm, hdw⟩ := decW15 (l := B) (by rw [HNB.out]; omega)
                rw [hdw] at J11
                have hG := Get_any J11.pv.dct 12288 0 (by decide) (by decide)
                rw [one_getV, one_getE] at hG
                obtain ⟨cY0, _, _⟩ := J11.cY
                obtain ⟨cX0, _⟩ := J11.cX
                have HJ11 := hidOf2 J11
                clear Hy hZZ y1 y11 J11 hz3 hYz3 hdw
                go_wp2_with fail
                refine hG.mono ?_
                rintro e w12 ⟨rfl, b12⟩
                have HJ12 := hidOf2 (HJ11.out.next b12)
                obtain ⟨zv2, hzv2, g0, Hy⟩ := got_v w12 (vD ⟨B.toArray⟩ hm)
                clear hG b12 cY0 cX0 HJ11 c11
                go_upto_region 38 with (first | (refine g0.sd (vD ⟨B.toArray⟩ hm) rfl _ _ rfl rfl rfl ?_))
                generalize hZZ : (w12.alloc (.cells #[.int .i64 0, .int .u64 0, .string ⟨#[]⟩] 52)).setRow zv2 (vD ⟨B.toArray⟩ hm).arr = w13
                obtain ⟨g13, b13⟩ := Hy.out w13 hZZ.symm
                have J13 := HJ12.out.next b13
                have c13 : w13.cell? ⟨zv2, 2, none⟩ = some (.string ⟨B.toArray⟩) := g13.c2
                have htx := (HBB.out w13 J13.below).text
                obtain ⟨TB, hTB⟩ : ∃ T : ByteArray, (⟨B.toArray⟩ : ByteArray) = T := ⟨_, rfl⟩
                rw [hTB] at c13 htx
                obtain ⟨_, cY1, _⟩ := J13.cY
                have hD := Doing_any J13.pv.head
                have HB13 := hidOf2 J13.below
                clear Hy hZZ g0 g13 b13 HJ12 J13 hzv2 hTB
                go_wp2_with fail
                refine hD.mono ?_
                rintro e x1 ⟨rfl, hx1⟩
                rw [hx1]
                clear hx1 x1 hD
                go_wp2_with fail
                refine (HLV _).mono ?_
                rintro e w14 ⟨rfl, b14⟩
                have HO := hidOf2 (HB13.out.trans (b14.mono HB13.out.size))
                clear b14
                go_wp2
                go_ret
                exact ⟨rfl, HO.out⟩
            · as_aux_lemma =>
                obtain ⟨st', hst, hW'⟩ := ws_step (b := b) (s := s) (hs := hs) (v := vD s hs) HW.out (by omega) hn7' HRL.out (by rw [HC2.out, if_neg hx0]; rfl) (by have := HLB.out; omega)
                rw [hpar] at hst hW'
                have hH := Handles_to HJ9.out (fr c1 (R.take j)) hst
                have HW' := hidOf2 hW'
                clear hst hW'
                go_wp2_with (refine ldG yl rfl _ rfl rfl ?_)
                refine hH.mono ?_
                rintro e w10 ⟨rfl, ao3, cp3, ap3, cq3, J10, K10, f10, g10⟩
                have q10 := HJ9.out.stays K10 hYz HQ9.out HN.out.1
                have HN2 : Hid ((∀ b ∈ blk ao3, b ≠ z) ∧ (∀ b ∈ blk ap3, b ≠ z)) := by
                  have hlt := HQ9.out.lt
                  refine ⟨fun b hb => ?_, fun b hb => ?_⟩
                  · rcases f10 b hb with h | h
                    · exact HN.out.1 b h
                    · omega
                  · rcases g10 b hb with h | h
                    · exact HN.out.2 b h
                    · omega
                obtain ⟨z3, hz3, y1, hYz3, Hy⟩ := J10.got (took 0)
                clear hH yl J10 K10 f10 g10
                go_upto_region 33 with (first | (refine sdF (g := took 0) y1 rfl _ _ rfl rfl rfl ?_))
                change Code.wp Tryz.prog _ _ _ ((w10.alloc (.cells zA8 32)).setRow z3 (took 0).arr)
                generalize hZZ : (w10.alloc (.cells zA8 32)).setRow z3 (took 0).arr = w11
                obtain ⟨y11, J11, b11⟩ := Hy.out w11 hZZ.symm
                have c11 : w11.cell? ⟨z3, 0, none⟩ = some (.int .u8 32) := y11.c0
                have hde : decide ((nx : Int) = 0) = false := by simp; omega
                have HJ11 := hidOf2 J11
                have HQ11 := hidOf2 (q10.below b11)
                have HR2 : Hid ((R.drop j).length = nx ∧ B = (L ++ R.take j) ++ R.drop j) := ⟨by rw [List.length_drop, HR.out.1, HNX.out], by rw [HR.out.2, List.append_assoc, List.take_append_drop]⟩
                have hnxr : nx < nr := by have h1 := HNX.out; have := hn0; omega
                clear Hy hZZ y1 y11 J11 hz3 hYz3 b11 q10
                go_wp2
                go_roundw
                case rel =>
                  exact ⟨k + 1, R.drop j, L ++ R.take j, a2, nx, c2, st', ao3, cp3, ap3, cq3, _, by omega, by go_num, rfl, .inr ⟨by omega, rfl⟩, HR2, HBS, HCP, HJ11, HQ11, HN2, by have := HW'.out; rw [show (k + 1) % 2 = 1 - 0 by omega]; exact this⟩
                case measure => simp [lenV]; omega
      · as_aux_lemma =>
        go_upto_if 74 with fail
        go_cut [16] (fun s16 wx => wx = V ∧ ∃ n1 : Nat, s16 = .int .i64 n1 ∧ 1 ≤ n1 ∧ n1 ≤ 7)
        case first =>
          by_cases hz0 : 0 < nz
          · have hd : decide ((0 : Int) < (nz : Int)) = true := by simp; omega
            have hm2 : k % nz < nz := Nat.mod_lt _ hz0
            have hm1 : (k : Int) % (nz : Int) = ((k % nz : Nat) : Int) := by omega
            generalize k % nz = m at hm1 hm2
            obtain ⟨bz, oz, hao, hblt, cz, hcell⟩ := HCZ.out m hm2
            subst hao
            have cj := (HJ.out.below.cell (p := ⟨bz, oz + m, none⟩) hblt).trans hcell
            have h8 := cz.toNat_lt
            obtain ⟨lv, hlv⟩ : ∃ v, cz.toNat = v := ⟨_, rfl⟩
            rw [hlv] at cj h8
            clear hcell hlv
            go_wp2_with fail
            go_meet
            case rel => exact ⟨rfl, 1 + lv % 7, by go_num, by omega, by omega⟩
          · have hd : decide ((0 : Int) < (nz : Int)) = false := by simp; omega
            go_wp2_with fail
            go_meet
            case rel => exact ⟨rfl, 7, rfl, by omega, by omega⟩
        case rest =>
        obtain ⟨rfl, n1, rfl, hn1, hn7⟩ := hcut
        go_upto_if 88 with fail
        go_cut [16] (fun s16 wx => wx = wc ∧ ∃ n : Nat, s16 = .int .i64 n ∧ n ≤ 7 ∧ n ≤ nr ∧ (0 < nr → 1 ≤ n))
        case first =>
          by_cases hc : nr < n1
          · have hd : decide ((nr : Int) < (n1 : Int)) = true := by simp; omega
            go_wp2_with fail
            go_meet
            case rel => exact ⟨rfl, nr, rfl, by omega, by omega, by omega⟩
          · have hd : decide ((nr : Int) < (n1 : Int)) = false := by simp; omega
            go_wp2_with fail
            go_meet
            case rel => exact ⟨rfl, n1, rfl, by omega, by omega, by omega⟩
        case rest =>
        obtain ⟨rfl, n, rfl, hn7', hnr, hn0⟩ := hcut
        clear hn1 hn7
        have HCL : Hid (∀ j (hj : j < R.length), ∃ b off, ar = some ⟨b, off, none⟩ ∧ b < w.heap.size ∧ w.cell? ⟨b, off + j, none⟩ = some (.int .u8 (R[j].toNat : Int))) := by
          intro j hj
          obtain ⟨ao1, cp1, hv, _, hc⟩ := HBR.out w (Below.refl _ _)
          injection hv with e1
          obtain ⟨b, off, h1, h2, h3⟩ := hc j hj
          exact ⟨b, off, e1.trans h1, h2, h3⟩
        have HFQ := hidOf2 (fun x (hK : Kp [z] wc x) => HJ.out.frame HQ.out ⟨hwz, hYz⟩ HN.out.1 HN.out.2 hK)
        have y0 := HQ.out
        go_upto_region 21 with fail
        go_cut [] (fun wx => Hid (Qb z (fr (UInt8.ofNat (16 + 2 * (7 - n))) []) wx) ∧ Hid (Kp [z] wc wx))
        case first =>
          as_aux_lemma =>
            have HK := fun f : F8 => hidOf2 (Kp.setRow1 wc z f.arr)
            have HQQ := fun f : F8 => hidOf2 (HQ.out.row f)
            clear HFQ HCL
            rcases (show n = 0 ∨ n = 1 ∨ n = 2 ∨ n = 3 ∨ n = 4 ∨ n = 5 ∨ n = 6 ∨ n = 7 by omega) with rfl | rfl | rfl | rfl | rfl | rfl | rfl | rfl
            all_goals
              (first | rw [show ((0 : Nat) : Int) = 0 from rfl] | rw [show ((1 : Nat) : Int) = 1 from rfl] | rw [show ((2 : Nat) : Int) = 2 from rfl] | rw [show ((3 : Nat) : Int) = 3 from rfl] | rw [show ((4 : Nat) : Int) = 4 from rfl] | rw [show ((5 : Nat) : Int) = 5 from rfl] | rw [show ((6 : Nat) : Int) = 6 from rfl] | rw [show ((7 : Nat) : Int) = 7 from rfl])
              go_wp2_with (first | (refine sdF (g := fr (UInt8.ofNat 16) []) y0 rfl _ _ rfl rfl rfl ?_) | (refine sdF (g := fr (UInt8.ofNat (16 + 2)) []) y0 rfl _ _ rfl rfl rfl ?_) | (refine sdF (g := fr (UInt8.ofNat (16 + 4)) []) y0 rfl _ _ rfl rfl rfl ?_) | (refine sdF (g := fr (UInt8.ofNat (16 + 6)) []) y0 rfl _ _ rfl rfl rfl ?_) | (refine sdF (g := fr (UInt8.ofNat (16 + 8)) []) y0 rfl _ _ rfl rfl rfl ?_) | (refine sdF (g := fr (UInt8.ofNat (16 + 10)) []) y0 rfl _ _ rfl rfl rfl ?_) | (refine sdF (g := fr (UInt8.ofNat (16 + 12)) []) y0 rfl _ _ rfl rfl rfl ?_) | (refine sdF (g := fr (UInt8.ofNat (16 + 14)) []) y0 rfl _ _ rfl rfl rfl ?_))
              go_meet
              case rel => exact ⟨(HQQ _).out, (HK _).out⟩
        case rest =>
        obtain ⟨HQ1, HK1⟩ := hcut
        clear y0
        have HC0 : Hid ((UInt8.ofNat (16 + 2 * (7 - n))).toNat = 16 * (k % 2) + 2 * (7 - n)) := by
          have := un (16 + 2 * (7 - n)) (by omega)
          rw [hpar]
          show _ = _
          omega
        generalize UInt8.ofNat (16 + 2 * (7 - n)) = c0 at *
        obtain ⟨U, hU⟩ : ∃ V, V = wc := ⟨wc, rfl⟩
        subst hU
        have HKU : Hid (Kp [z] U U) := Kp.refl _ _
        go_wp2_with fail
        go_loopw [17] (fun jv x => ∃ j : Nat, j ≤ n ∧ jv = .int .i64 j ∧ Hid (Qb z (fr c0 (R.take j)) x) ∧ Hid (Kp [z] U x)) (fun jv _ => n - (intOf jv).toNat)
        case atStart => exact ⟨0, Nat.zero_le _, rfl, HQ1, HKU⟩
        case round =>
          obtain ⟨j, hj, rfl, HQ2, HK2⟩ := hrel
          by_cases hjn : j < n
          · have hdj : decide ((j : Int) < (n : Int)) = true := by simp; omega
            have HJ2 := hidOf2 (HFQ.out wr (HK1.out.trans HK2.out))
            have hjr : j < R.length := by have := HR.out.1; omega
            obtain ⟨bb, off, hao, hblt, hcell⟩ := HCL.out j hjr
            have cj := (HJ2.out.below.cell (p := ⟨bb, off + j, none⟩) hblt).trans hcell
            subst hao
            obtain ⟨vz, hvz⟩ := HQ2.out.any8 (1 + j) (by omega)
            have hzz := HQ2.out.zz (1 + j)
            have HX : Hid (∀ Y, Y = wr.setCell ⟨z, 1 + j, none⟩ (.int .u8 (R[j].toNat : Int)) → Hid (Qb z (fr c0 (R.take (j + 1))) Y) ∧ Hid (Kp [z] U Y)) := fun Y hY => by
              subst hY
              have h1 := HQ2.out.pc (1 + j) (by omega) R[j]
              rw [fr_step c0 R j (by omega) hjr] at h1
              exact ⟨h1, HK2.out.trans (Kp.cell1 wr z (1 + j) _)⟩
            have hlt8 := R[j].toNat_lt
            obtain ⟨lv, hlv⟩ : ∃ v, R[j].toNat = v := ⟨_, rfl⟩
            rw [hlv] at cj HX hlt8
            clear hlv hcell hjr HJ2
            rcases (show j = 0 ∨ j = 1 ∨ j = 2 ∨ j = 3 ∨ j = 4 ∨ j = 5 ∨ j = 6 by omega) with rfl | rfl | rfl | rfl | rfl | rfl | rfl
            all_goals
              (first | rw [show ((0 : Nat) : Int) = 0 from rfl] at * | rw [show ((1 : Nat) : Int) = 1 from rfl] at * | rw [show ((2 : Nat) : Int) = 2 from rfl] at * | rw [show ((3 : Nat) : Int) = 3 from rfl] at * | rw [show ((4 : Nat) : Int) = 4 from rfl] at * | rw [show ((5 : Nat) : Int) = 5 from rfl] at * | rw [show ((6 : Nat) : Int) = 6 from rfl] at *)
              try simp only [Nat.reduceAdd, Nat.add_zero] at hvz hzz HX cj
              go_wp2
              go_roundw
              case rel =>
                obtain ⟨n1, n2⟩ := HX.out _ rfl
                exact ⟨_, hjn, by go_num, n1, n2⟩
              case measure => simp [intOf]; omega
          · obtain rfl : j = n := by omega
            have hdj : decide ((j : Int) < (j : Int)) = false := by simp
            obtain ⟨a2, c2, hsl, hbs, hcp⟩ := bslice_l (HBR.out w (Below.refl _ _)) HCR.out j (by rw [HR.out.1]; omega)
            rw [HR.out.1] at hsl hbs hcp
            obtain ⟨nx, hnx⟩ : ∃ m, nr - j = m := ⟨_, rfl⟩
            rw [hnx] at hsl hbs hcp
            have HNX := hidOf2 hnx
            have HBS := hidOf2 (show ∀ x, Below w.heap.size w x → Bytes x (.slice a2 nx c2) (R.drop j) from fun x hx => hbs x (HBR.out x hx))
            have HCP := hidOf2 hcp
            have HJ2 := hidOf2 (HFQ.out wr (HK1.out.trans HK2.out))
            have y2 := HQ2.out
            have cz := y2.c0
            have hzz := y2.zz 0
            have h30 := HC0.out
            have hc30 : (fr c0 (R.take j)).b0.toNat ≤ 30 := by rw [fr_b0, h30]; omega
            have HX : Hid (∀ Y, Y = wr.setCell ⟨z, 0, none⟩ (.int .u8 ((c0.toNat : Int) + 1)) → Hid (Qb z (fr (UInt8.ofNat (c0.toNat + 1)) (R.take j)) Y) ∧ Hid (Kp [z] wr Y)) := fun Y hY => by
              subst hY
              have h1 := y2.pc 0 (by omega) (UInt8.ofNat (c0.toNat + 1))
              rw [fr_pc0, un _ (by rw [h30]; omega)] at h1
              exact ⟨h1, Kp.cell1 wr z 0 _⟩
            rw [fr_b0] at cz hc30
            obtain ⟨c0n, hc0n⟩ : ∃ m, c0.toNat = m := ⟨_, rfl⟩
            rw [hc0n] at cz hc30 HX
            have HC1 : Hid (c0n = 16 * (k % 2) + 2 * (7 - j)) := by rw [← hc0n]; exact h30
            clear hbs hcp hnx y2 h30 HQ1 HK1 HKU HFQ HCL hjn hc0n
            go_upto_if 115 with fail
            go_cut [] (fun wx => ∃ c1 : UInt8, Hid (c1.toNat = 16 * (k % 2) + 2 * (7 - j) + (if nx = 0 then 1 else 0)) ∧ Hid (Qb z (fr c1 (R.take j)) wx) ∧ Hid (Kp [z] wr wx))
            case first =>
              by_cases hx0 : nx = 0
              · subst hx0
                have hde : decide (((0 : Nat) : Int) = 0) = true := by simp
                go_wp2_with fail
                go_meet
                case rel =>
                  obtain ⟨n1, n2⟩ := HX.out _ rfl
                  refine ⟨_, ?_, n1, n2⟩
                  have h1 := HC1.out
                  have := un (c0n + 1) (by omega)
                  show _ = _
                  first | rw [if_pos rfl] | rw [if_pos trivial]
                  omega
              · have hde : decide ((nx : Int) = 0) = false := by simp; omega
                go_wp2_with fail
                go_meet
                case rel => exact ⟨c0, (by have h := HC0.out; show _ = _; first | (rw [if_neg hx0]; omega) | (simp only [hx0, if_false]; omega) | (simp [hx0]; omega) | (simp only [if_false]; omega)), HQ2, Kp.refl _ _⟩
            case rest =>
            obtain ⟨c1, HC2, HQ3, HK3⟩ := hcut
            have HJ3 := hidOf2 (HJ2.out.frame HQ2.out ⟨hwz, hYz⟩ HN.out.1 HN.out.2 HK3.out)
            have hG := Get_any HJ3.out.pv.dct 12288 0 (by decide) (by decide)
            rw [one_getV, one_getE] at hG
            obtain ⟨cY0, _, _⟩ := HJ3.out.cY
            obtain ⟨cX0, _⟩ := HJ3.out.cX
            clear HX cz hzz HJ2 HQ2 HK2 HC0 HC1
            go_wp2_with fail
            refine hG.mono ?_
            rintro e w8 ⟨rfl, b8⟩
            have HJ8 := hidOf2 (HJ3.out.next b8)
            have HQ8 := hidOf2 (HQ3.out.below b8)
            obtain ⟨zv, hzv, g0, Hy⟩ := got_v w8 (vD s hs)
            clear hG b8 cY0 cX0 HJ3 HQ3 HK3
            go_upto_region 30 with (first | (refine g0.sd (vD s hs) rfl _ _ rfl rfl rfl ?_))
            generalize hZZ : (w8.alloc (.cells #[.int .i64 0, .int .u64 0, .string ⟨#[]⟩] 52)).setRow zv (vD s hs).arr = w9
            obtain ⟨g9, b9⟩ := Hy.out w9 hZZ.symm
            have HJ9 := hidOf2 (HJ8.out.next b9)
            have HQ9 := hidOf2 (HQ8.out.below b9)
            have c9 : w9.cell? ⟨zv, 2, none⟩ = some (.string s) := g9.c2
            have yl := HQ9.out.load
            have HRL := hidOf2 (show (R.take j).length = j by rw [List.length_take, HR.out.1]; omega)
            have HLB := hidOf2 (show L.length + nr = nb by have h1 := HNB.out; have h2 := HR.out; rw [h2.2, List.length_append] at h1; omega)
            clear Hy hZZ g0 g9 b9 HJ8 HQ8 hzv
            by_cases hx0 : nx = 0
            · as_aux_lemma =>
                have hH := Handles_to HJ9.out (fr c1 (R.take j)) (ws_last HW.out (by omega) hn7' HRL.out (by rw [HC2.out, if_pos hx0]) (by have := HLB.out; omega) (by have h1 := HLB.out; have h2 := HNX.out; rw [show L.length + j = nb by omega]; exact HSZ.out))
                rw [hpar] at hH
                have HBE := hidOf2 (show L ++ R.take j = B by rw [HR.out.2]; congr 1; exact List.take_of_length_le (by rw [HR.out.1]; have h2 := HNX.out; omega))
                rw [HBE.out] at hH
                go_wp2_with (refine ldG yl rfl _ rfl rfl ?_)
                refine hH.mono ?_
                rintro e w10 ⟨rfl, ao3, cp3, ap3, cq3, J10, _⟩
                obtain ⟨z3, hz3, y1, hYz3, Hy⟩ := J10.got (took 1)
                clear hH yl J10
                go_upto_region 33 with (first | (refine sdF (g := took 1) y1 rfl _ _ rfl rfl rfl ?_))
                change Code.wp Tryz.prog _ _ _ ((w10.alloc (.cells zA8 32)).setRow z3 (took 1).arr)
                generalize hZZ : (w10.alloc (.cells zA8 32)).setRow z3 (took 1).arr = w11
                obtain ⟨y11, J11, _⟩ := Hy.out w11 hZZ.symm
                have c11 : w11.cell? ⟨z3, 0, none⟩ = some (.int .u8 48) := y11.c0
                have hde : decide ((nx : Int) = 0) = true := by simp; omega
                obtain ⟨hm, hdw⟩ := decW15 (l := B) (by rw [HNB.out]; omega)
                rw [hdw] at J11
                have hG := Get_any J11.pv.dct 12288 0 (by decide) (by decide)
                rw [one_getV, one_getE] at hG
                obtain ⟨cY0, _, _⟩ := J11.cY
                obtain ⟨cX0, _⟩ := J11.cX
                have HJ11 := hidOf2 J11
                clear Hy hZZ y1 y11 J11 hz3 hYz3 hdw
                go_wp2_with fail
                refine hG.mono ?_
                rintro e w12 ⟨rfl, b12⟩
                have HJ12 := hidOf2 (HJ11.out.next b12)
                obtain ⟨zv2, hzv2, g0, Hy⟩ := got_v w12 (vD ⟨B.toArray⟩ hm)
                clear hG b12 cY0 cX0 HJ11 c11
                go_upto_region 38 with (first | (refine g0.sd (vD ⟨B.toArray⟩ hm) rfl _ _ rfl rfl rfl ?_))
                generalize hZZ : (w12.alloc (.cells #[.int .i64 0, .int .u64 0, .string ⟨#[]⟩] 52)).setRow zv2 (vD ⟨B.toArray⟩ hm).arr = w13
                obtain ⟨g13, b13⟩ := Hy.out w13 hZZ.symm
                have J13 := HJ12.out.next b13
                have c13 : w13.cell? ⟨zv2, 2, none⟩ = some (.string ⟨B.toArray⟩) := g13.c2
                have htx := (HBB.out w13 J13.below).text
                obtain ⟨TB, hTB⟩ : ∃ T : ByteArray, (⟨B.toArray⟩ : ByteArray) = T := ⟨_, rfl⟩
                rw [hTB] at c13 htx
                obtain ⟨_, cY1, _⟩ := J13.cY
                have hD := Doing_any J13.pv.head
                have HB13 := hidOf2 J13.below
                clear Hy hZZ g0 g13 b13 HJ12 J13 hzv2 hTB
                go_wp2_with fail
                refine hD.mono ?_
                rintro e x1 ⟨rfl, hx1⟩
                rw [hx1]
                clear hx1 x1 hD
                go_wp2_with fail
                refine (HLV _).mono ?_
                rintro e w14 ⟨rfl, b14⟩
                have HO := hidOf2 (HB13.out.trans (b14.mono HB13.out.size))
                clear b14
                go_wp2
                go_ret
                exact ⟨rfl, HO.out⟩
            · as_aux_lemma =>
                obtain ⟨st', hst, hW'⟩ := ws_step (b := b) (s := s) (hs := hs) (v := vD s hs) HW.out (by omega) hn7' HRL.out (by rw [HC2.out, if_neg hx0]; rfl) (by have := HLB.out; omega)
                rw [hpar] at hst hW'
                have hH := Handles_to HJ9.out (fr c1 (R.take j)) hst
                have HW' := hidOf2 hW'
                clear hst hW'
                go_wp2_with (refine ldG yl rfl _ rfl rfl ?_)
                refine hH.mono ?_
                rintro e w10 ⟨rfl, ao3, cp3, ap3, cq3, J10, K10, f10, g10⟩
                have q10 := HJ9.out.stays K10 hYz HQ9.out HN.out.1
                have HN2 : Hid ((∀ b ∈ blk ao3, b ≠ z) ∧ (∀ b ∈ blk ap3, b ≠ z)) := by
                  have hlt := HQ9.out.lt
                  refine ⟨fun b hb => ?_, fun b hb => ?_⟩
                  · rcases f10 b hb with h | h
                    · exact HN.out.1 b h
                    · omega
                  · rcases g10 b hb with h | h
                    · exact HN.out.2 b h
                    · omega
                obtain ⟨z3, hz3, y1, hYz3, Hy⟩ := J10.got (took 1)
                clear hH yl J10 K10 f10 g10
                go_upto_region 33 with (first | (refine sdF (g := took 1) y1 rfl _ _ rfl rfl rfl ?_))
                change Code.wp Tryz.prog _ _ _ ((w10.alloc (.cells zA8 32)).setRow z3 (took 1).arr)
                generalize hZZ : (w10.alloc (.cells zA8 32)).setRow z3 (took 1).arr = w11
                obtain ⟨y11, J11, b11⟩ := Hy.out w11 hZZ.symm
                have c11 : w11.cell? ⟨z3, 0, none⟩ = some (.int .u8 48) := y11.c0
                have hde : decide ((nx : Int) = 0) = false := by simp; omega
                have HJ11 := hidOf2 J11
                have HQ11 := hidOf2 (q10.below b11)
                have HR2 : Hid ((R.drop j).length = nx ∧ B = (L ++ R.take j) ++ R.drop j) := ⟨by rw [List.length_drop, HR.out.1, HNX.out], by rw [HR.out.2, List.append_assoc, List.take_append_drop]⟩
                have hnxr : nx < nr := by have h1 := HNX.out; have := hn0; omega
                clear Hy hZZ y1 y11 J11 hz3 hYz3 b11 q10
                go_wp2
                go_roundw
                case rel =>
                  exact ⟨k + 1, R.drop j, L ++ R.take j, a2, nx, c2, st', ao3, cp3, ap3, cq3, _, by omega, by go_num, rfl, .inl ⟨by omega, rfl⟩, HR2, HBS, HCP, HJ11, HQ11, HN2, by have := HW'.out; rw [show (k + 1) % 2 = 1 - 1 by omega]; exact this⟩
                case measure => simp [lenV]; omega
  · obtain rfl := HB2.out (by omega)
    have HB3 := hidOf2 (HB1.out.trans (B1.mono HB1.out.size))
    clear B1
    go_wp2_with fail
    refine (HLV _).mono ?_
    rintro e w2 ⟨rfl, b2⟩
    have HO := hidOf2 (HB3.out.trans (b2.mono HB3.out.size))
    clear b2
    go_wp2
    go_ret
    exact ⟨rfl, HO.out⟩
end Go.Proofs.YtahfnknbmikmkaaGreat
