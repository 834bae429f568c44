/- BlockTold: where one byte of what was sent comes as another one. -/
import Derived.Test.YtebjofkblfmkmaaBkT2
import Derived.Test.YtebjofkblfmkmaaLawKTak
namespace Go.Proofs.Ytebjofkblfmkmaa
open Go.RowKit Go.Proofs.Ty Go.Proofs.Bits
set_option linter.unusedVariables false
set_option maxRecDepth 1000000
set_option linter.unusedSimpArgs false
theorem Qb.cg {q : Nat} {f : F8} {w : World} (h : Qb q f w) (j : Nat) (hj : j < 7) : w.cell? ⟨q, 1 + j, none⟩ = some (.int .u8 ((((f.l.drop 1).getD j 0).toNat : Nat) : Int)) := by
  rw [Lib.cell_of_heap h]
  match j, hj with
  | 0, _ => rfl
  | 1, _ => rfl
  | 2, _ => rfl
  | 3, _ => rfl
  | 4, _ => rfl
  | 5, _ => rfl
  | 6, _ => rfl
theorem Qb.chg {q : Nat} {f : F8} {w : World} (h : Qb q f w) (j : Nat) (hj : j < 7) (y : UInt8) : Qb q (f.chg j y) (w.setCell ⟨q, 1 + j, none⟩ (.int .u8 ((((f.l.drop 1).getD j 0 ^^^ y).toNat : Nat) : Int))) := by
  unfold Qb at *
  simp only [World.setCell, Array.getElem?_modify, h]
  match j, hj with
  | 0, _ => rfl
  | 1, _ => rfl
  | 2, _ => rfl
  | 3, _ => rfl
  | 4, _ => rfl
  | 5, _ => rfl
  | 6, _ => rfl
theorem xor8 (x y : UInt8) : bits BinOp.xor IntKind.u8 (x.toNat : Int) (y.toNat : Int) = (((x ^^^ y).toNat : Nat) : Int) := by
  rw [u8_xor_nat _ _ x.toNat_lt y.toNat_lt, UInt8.toNat_xor]
set_option maxHeartbeats 16000000 in
theorem ktld_walk (v : Value) (l : List UInt8) (w : World) (hB : Bytes w v l) (hcap : ∀ ao n cap, v = .slice ao n cap → n ≤ cap) (hl : l.length ≤ 140737488351232) (at0 : Nat) (hat : at0 < 65536) (y : UInt8) :
    Calls Try.prog 5 #[v, .int .u16 (at0 : Int), .int .u8 (y.toNat : Int)] w fun e w' => e = .returned (.bool true) ∧ Below w.heap.size w w' := by
  have HLV := hidOf2 lives12_any
  obtain ⟨ao0, cap0, hv⟩ : ∃ ao cap, v = .slice ao l.length cap := by obtain ⟨ao, cap, h, _⟩ := hB; exact ⟨ao, cap, h⟩
  obtain ⟨n0, hn0⟩ : ∃ n, l.length = n := ⟨_, rfl⟩
  have HN0 := hidOf2 hn0
  rw [hn0] at hv hl
  subst hv
  have hcp := hcap _ _ _ rfl
  have HB := hidOf2 hB
  clear hcap hB hn0
  have HO := hidOf2 (own_empty w)
  have b0 : Below w.heap.size w (w.alloc (.cells #[] 5)) := (Below.refl _ _).alloc (Nat.le_refl _) _
  have HL := hidOf2 b0
  have hsz := size_alloc w (.cells #[] 5)
  clear b0
  obtain ⟨K, hK⟩ : ∃ k, at0 / 7 = k := ⟨_, rfl⟩
  obtain ⟨j, hj⟩ : ∃ k, at0 % 7 = k := ⟨_, rfl⟩
  have hj7 : j < 7 := by omega
  have hKI : (at0 : Int) / 7 = (K : Int) := by omega
  have hjI : (1 : Int) + (at0 : Int) % 7 = ((1 + j : Nat) : Int) := by omega
  have hK6 : K < 65536 := by omega
  clear hK hj
  go_enter Try.func5, Try.ntmps5
  go_upto_if 26 with fail
  go_cut [0] (fun s0 wx => wx = w ∧ ∃ (B : List UInt8) (av : Option Addr) (nb cv : Nat), s0 = .slice av nb cv ∧ B.length = nb ∧ nb ≤ 3000 ∧ ∀ x, Below w.heap.size w x → Bytes x (.slice av nb cv) B)
  case first =>
    by_cases h3 : 3000 < n0
    · have d1 : decide ((3000 : Int) < (n0 : Int)) = true := by simp; omega
      have hc3 : 3000 ≤ cap0 := by omega
      go_wp2_with fail
      go_meet
      case rel => exact ⟨rfl, l.take 3000, ao0, 3000, cap0, rfl, by rw [List.length_take, HN0.out]; omega, by omega, fun x hx => bytes_take (HB.out.below hx) 3000 (by omega)⟩
    · have d1 : decide ((3000 : Int) < (n0 : Int)) = false := by simp; omega
      go_wp2_with fail
      go_meet
      case rel => exact ⟨rfl, l, ao0, n0, cap0, rfl, HN0.out, by omega, fun x hx => HB.out.below hx⟩
  case rest =>
  obtain ⟨hwx, l, av, n, cv, rfl, hn, hnb, hBB⟩ := hcut
  rw [hwx]
  clear hwx
  have HN := hidOf2 hn
  have HBY := hidOf2 hBB
  have hsl : segs n ≤ 430 := by have := segs_le n; omega
  have HB2 := hidOf2 (hBB _ HL.out)
  have hl6 : l.length ≤ 65536 := by rw [hn]; omega
  have HL6 := hidOf2 hl6
  clear hn hBB HB HN0 hcp hl hl6
  go_upto_region 4 with (first | (at_builtin; refine append_bytes rfl _ _ rfl w.heap.size _ [] rfl (by exact HO.out) _ l rfl (by exact HB2.out) (by have := HN.out; simp; omega) (by rw [hsz]; omega) ?_; intro v1 w2 ho hgr; have HL2 := hidOf2 (HL.out.grown hgr (by rw [hsz]; omega) (fun k e => own_lt HO.out k e)); have hNS := NewSender_any v1 l w2 (bytes_of_own ho) (by have := HN.out; omega); clear ho hgr) | (go_at_call 6; refine hNS.mono ?_; rintro e w3 ⟨S, aS, cS, rfl, s3, hS3, hb3, b3⟩))
  have hR := NewReceiver_any 127 (by decide) (by decide) w3
  have HS3 := hidOf2 s3
  have HSw := hidOf2 (Nat.le_trans HL2.out.size hS3)
  have HB3 := hidOf2 (HL2.out.trans (b3.mono HL2.out.size))
  have Hb3 := hidOf2 hb3
  clear hNS s3 hS3 b3 hb3
  go_upto_region 5 with (first | (go_at_call 14; refine hR.mono ?_; rintro e w4 ⟨rfl, r4, b4⟩))
  obtain ⟨R, hR4⟩ : ∃ R, w3.heap.size = R := ⟨_, rfl⟩
  rw [hR4] at r4
  have G4 : Gw w S R (Sn.new l) aS cS (Rc.new 127) (.slice none 0 0) w4 := ⟨HS3.out.below b4, r4, HB3.out.trans (b4.mono HB3.out.size), HSw.out, fun b hb => by simp [rB, Value.ownBlock] at hb; rw [hb, ← hR4]; exact HB3.out.size, fun b hb => by
    obtain ⟨h5, h6⟩ := Hb3.out b hb
    refine ⟨h6, ?_⟩
    have := HS3.out.lt
    simp [rB, Value.ownBlock]
    omega⟩
  have hBg := sBegin_any (t := Sn.new l) G4.sd 127 (by decide) (by decide)
  have HG4 := hidOf2 G4
  clear hR r4 b4 HS3 HSw HB3 Hb3 G4
  go_upto_region 8 with (first | (go_at_call 9; refine hBg.mono ?_; rintro e w5 ⟨v5, rfl, l5, s5, k5⟩))
  obtain ⟨v6, a6, c6, he6, l6, G6, k6⟩ := HG4.out.send (res := (blkF l 0 127, (Sn.new l).beg 127)) (e := .returned v5) (y := w5) ⟨v5, aS, cS, rfl, l5, s5, k5, .inl ⟨rfl, rfl⟩⟩
  have hP0 : Tp l (pdF l K j y) 0 ((Sn.new l).beg 127) (Rc.new 127) (blkF l 0 127) 0 := by
    have := segs_pos l.length
    refine .inl ⟨by omega, rfl, ?_, rfl, rfl⟩
    unfold rT
    rw [if_neg (by omega), if_neg (by omega)]
    simp [Rc.new]
  have HG6 := hidOf2 G6
  have HP0 := hidOf2 hP0
  have HL6b := hidOf2 (l5.low (Nat.zero_le _))
  clear hBg l5 s5 k5 l6 G6 k6 he6 HG4 hP0 HO HL HL2 HB2 hsz
  go_upto_region 10 with fail
  go_loopw [11, 13, 14] (fun lv kv nv wr => ∃ (nn k : Nat) (s : Sn) (r : Rc) (L : List F8) (ao : Option Addr) (cp : Nat) (u : Value), nv = .int .i64 nn ∧ kv = .int .i64 k ∧ nn ≤ 430 ∧ k ≤ 430 ∧ Hid (Tp l (pdF l K j y) nn s r L k) ∧ Hid (Gw w S R s ao cp r u wr) ∧ Hid (Lf 0 wr lv L)) (fun _ _ nv _ => 2000 - (intOf nv).toNat)
  case atStart => exact ⟨0, 0, _, _, _, _, _, _, rfl, rfl, by omega, by omega, HP0, HG6, HL6b⟩
  case round =>
    obtain ⟨nn, k, s, r, L, ao, cp, u, rfl, rfl, hnn, hk, HPH, HGW, HLF⟩ := hrel
    clear HP0 HG6 HL6b
    obtain ⟨hL1, hL2⟩ := HPH.out.len
    obtain ⟨hsok, hs3⟩ := HPH.out.sok HL6.out
    have HSOK := hidOf2 hsok
    have HS3 := hidOf2 hs3
    obtain ⟨al2, cl2, hlv⟩ := HLF.out.1.wide.shape
    obtain ⟨m, hm⟩ : ∃ m, L.length = m := ⟨_, rfl⟩
    have HM := hidOf2 hm
    rw [hm] at hlv hL1 hL2
    subst hlv
    have hd : decide ((nn : Int) < 2000) = true := by simp; omega
    obtain ⟨J, hJok, hJ0, hJf, hJe⟩ := Tp.run hj7 HPH.out HL6.out
    have HJok := hidOf2 hJok
    have HJf := hidOf2 hJf
    have HJe := hidOf2 hJe
    have HJ0 := hidOf2 hJ0
    obtain ⟨z, hz⟩ : ∃ z, wr.heap.size = z := ⟨_, rfl⟩
    have z0 : Qb z F8.nul (wr.alloc (.cells zA8 30)) := by rw [← hz]; exact heap_alloc_new wr _
    have b0 : Below wr.heap.size wr (wr.alloc (.cells zA8 30)) := (Below.refl _ _).alloc (Nat.le_refl _) _
    have HX : Hid (∀ X, X = (wr.alloc (.cells zA8 30)).setRow z F8.nul.arr → Qb z F8.nul X ∧ Below wr.heap.size wr X) := fun X hX => by
      subst hX
      exact ⟨z0.row F8.nul, below_row b0 (by omega) (by rw [size_alloc]; omega) _⟩
    have HZW : Hid (w.heap.size ≤ z) := by show _ ≤ _; rw [← hz]; exact HGW.out.old.size
    have HZL : Hid (∀ b, (Value.slice al2 m cl2).ownBlock = some b → b < z) := fun b hb => by
      obtain ⟨A, fr, h5⟩ := HLF.out.1.typ b hb
      have := (Array.getElem?_eq_some_iff.1 h5).1
      show b < z
      omega
    have HZS : Hid (S < z) := by show _ < _; rw [← hz]; exact HGW.out.sd.lt
    clear hJok hJf hJe hJ0 b0 hsok hs3 hm HPH
    go_upto_region 13 with (first | (refine sdF (g := F8.nul) z0 rfl _ _ rfl rfl rfl ?_))
    change Code.wp Try.prog _ _ _ ((wr.alloc (.cells zA8 30)).setRow z F8.nul.arr)
    obtain ⟨X, hX⟩ : ∃ X, (wr.alloc (.cells zA8 30)).setRow z F8.nul.arr = X := ⟨_, rfl⟩
    rw [hX]
    obtain ⟨zX, bX⟩ := HX.out X hX.symm
    have HZX := hidOf2 zX
    have HGX := hidOf2 (HGW.out.below bX)
    have HLX := hidOf2 (HLF.out.below bX)
    clear HX hX zX bX z0 HGW HLF hz
    go_upto_region 14 with fail
    go_loopw [13, 16, 17] (fun kv bv iv wq => ∃ (i : Nat) (r2 : Rc) (b2 : Bool) (a2 : F8) (u2 : Value), kv = .int .i64 ((k + i : Nat) : Int) ∧ bv = .bool b2 ∧ iv = .int .i64 i ∧ i ≤ m ∧ Hid (J i r2 b2 a2) ∧ Hid (Qb z a2 wq) ∧ Hid (Gw w S R s ao cp r2 u2 wq) ∧ Hid (Lf 0 wq (.slice al2 m cl2) L)) (fun _ _ iv _ => m - (intOf iv).toNat)
    case atStart => exact ⟨0, r, false, F8.nul, u, rfl, rfl, rfl, by omega, HJ0, HZX, HGX, HLX⟩
    case round =>
      obtain ⟨i, r2, b2, a2, u2, rfl, rfl, rfl, him, HJ, HZ, HG, HL⟩ := hrel
      clear HJ0 HZX HGX HLX
      by_cases hi : i < m
      · have di : decide ((i : Int) < (m : Int)) = true := by simp; omega
        obtain ⟨bb, ob, capb, hlvb, _, hrg⟩ := HL.out.1.wide.at0 i (by rw [HM.out]; exact hi)
        injection hlvb with hal2 hx1 hx2
        clear hx1 hx2
        subst hal2
        obtain ⟨fi, hfi⟩ : ∃ f, L[i]'(by rw [HM.out]; exact hi) = f := ⟨_, rfl⟩
        rw [hfi] at hrg
        have HFI := hidOf2 hfi
        have lf := load_mid8 hrg
        obtain ⟨x, hx⟩ : ∃ z, wr.heap.size = z := ⟨_, rfl⟩
        have x0 : Qb x F8.nul (wr.alloc (.cells zA8 30)) := by rw [← hx]; exact heap_alloc_new wr _
        have b0 : Below wr.heap.size wr (wr.alloc (.cells zA8 30)) := (Below.refl _ _).alloc (Nat.le_refl _) _
        have HX : Hid (∀ X, X = (wr.alloc (.cells zA8 30)).setRow x fi.arr → Qb x fi X ∧ Below wr.heap.size wr X) := fun X hX => by
          subst hX
          exact ⟨x0.row fi, below_row b0 (by omega) (by rw [size_alloc]; omega) _⟩
        have hzx : z < x := by rw [← hx]; exact HZ.out.lt
        have HXW : Hid (w.heap.size ≤ x) := by show _ ≤ _; have := HZW.out; omega
        clear hrg hfi b0
        go_upto_region 17 with (first | (refine opE rfl (exec_idxF rfl rfl rfl hi _) ?_) | (refine ldG lf rfl _ rfl rfl ?_) | (refine sdF (g := fi) x0 rfl _ _ rfl rfl rfl ?_))
        change Code.wp Try.prog _ _ _ ((wr.alloc (.cells zA8 30)).setRow x fi.arr)
        obtain ⟨X, hX⟩ : ∃ X, (wr.alloc (.cells zA8 30)).setRow x fi.arr = X := ⟨_, rfl⟩
        rw [hX]
        obtain ⟨qX, bX⟩ := HX.out X hX.symm
        have HGX := hidOf2 (HG.out.below bX)
        have HLX := hidOf2 (HL.out.below bX)
        have HZX := hidOf2 (HZ.out.below bX)
        have HQX := hidOf2 qX
        have hDn := sDone_any HGX.out.sd
        rw [decide_eq_false HS3.out] at hDn
        clear HX hX qX bX x0 HG HL HZ lf hx
        go_upto_region 18 with (first | (go_at_call 13; refine hDn.mono ?_; rintro e w7 ⟨rfl, n7, hw7⟩; rw [hw7]; clear hw7 w7))
        have HGY : Hid (Gw w S R s ao cp r2 u2 (X.drewN n7)) := HGX.out.below (bdr (Below.refl _ _) n7)
        have HLY : Hid (Lf 0 (X.drewN n7) (.slice (some ⟨bb, ob, none⟩) m cl2) L) := HLX.out.below (bdr (Below.refl _ _) n7)
        have HZY : Hid (Qb z a2 (X.drewN n7)) := HZX.out
        have HQY : Hid (Qb x fi (X.drewN n7)) := HQX.out
        generalize X.drewN n7 = Y at *
        clear HGX HLX HZX HQX hDn
        have y0 := HQY.out.c0
        have lb0 := fi.b0.toNat_lt
        have hki : k + i < 1000 := by omega
        obtain ⟨g, hg⟩ : ∃ g, gK K j y (k + i) fi = g := ⟨_, rfl⟩
        have HGK := hidOf2 hg
        have cyj := HQY.out.cg j hj7
        have fyj : Y.frozen? ⟨x, 1 + j, none⟩ = false := Lib.frozen_of_heap HQY.out _
        have hxr := xor8 ((fi.l.drop 1).getD j 0) y
        have HCH : Hid (∀ Z, Z = Y.setCell ⟨x, 1 + j, none⟩ (.int .u8 (((((fi.l.drop 1).getD j 0) ^^^ y).toNat : Nat) : Int)) → k + i = K ∧ fi.b0.toNat < 193 → Qb x g Z ∧ Kp [x] Y Z) := fun Z hZ hc => by
          subst hZ
          refine ⟨?_, Kp.cell1 _ _ _ _⟩
          rw [← HGK.out]
          unfold gK
          rw [if_pos hc]
          exact HQY.out.chg j hj7 y
        have HNC : Hid (¬ (k + i = K ∧ fi.b0.toNat < 193) → Qb x g Y) := fun hc => by
          rw [← HGK.out]
          unfold gK
          rw [if_neg hc]
          exact HQY.out
        clear hg
        obtain ⟨xb, hxb⟩ : ∃ b : UInt8, ((fi.l.drop 1).getD j 0) ^^^ y = b := ⟨_, rfl⟩
        obtain ⟨ob1, hob1⟩ : ∃ b : UInt8, (fi.l.drop 1).getD j 0 = b := ⟨_, rfl⟩
        rw [hxb] at HCH hxr
        rw [hob1] at cyj hxr
        have hyl := y.toNat_lt
        have hol := ob1.toNat_lt
        clear hxb hob1
        generalize hfb : fi.b0.toNat = f0 at *
        clear hfb
        by_cases c1 : k + i = K
        · have d1 : (((k + i : Nat) : Int) == (K : Int)) = true := by simp; omega
          by_cases c2 : f0 < 193
          · have d2 : decide ((f0 : Int) < 193) = true := by simp; omega
            go_upto_region 20 with fail
            obtain ⟨wc, hwc⟩ : ∃ Z, Y.setCell ⟨x, 1 + j, none⟩ (.int .u8 ((xb.toNat : Nat) : Int)) = Z := ⟨_, rfl⟩
            rw [hwc]
            obtain ⟨q9, k9⟩ := HCH.out wc hwc.symm ⟨c1, c2⟩
            have HQ9 := hidOf2 q9
            have HK9 := hidOf2 k9
            clear q9 k9 hwc d1 d2
            have HG9 := hidOf2 (HGY.out.frame HQY.out HXW.out HK9.out (fun b hb => by have := (HGY.out.sb b hb).1; have := HZS.out; omega))
            have HL9 := hidOf2 (HLY.out.kept HK9.out (fun e => by have := HZL.out x e; omega))
            have HZ9 := hidOf2 (HZY.out.kq HK9.out (by simp; omega))
            have lx := HQ9.out.load
            have hrF := rFeed_any HG9.out.rv (HJok.out _ _ _ _ HJ.out) g
            have hFd : Calls Try.prog 15 #[.pointer (some ⟨R, 0, none⟩), .agg g.arr] wc fun e w' => ∃ (ga : F8) (gb : Bool), e = .returned (.tuple #[.agg ga.arr, .bool gb]) ∧ Hid (Qb z a2 w') ∧ Hid (∀ Z, Z = w'.setRow z ga.arr → ∃ u3 r3, J (i + 1) r3 gb ga ∧ Qb z ga Z ∧ Gw w S R s ao cp r3 u3 Z ∧ Lf 0 Z (.slice (some ⟨bb, ob, none⟩) m cl2) L) := hrF.mono fun e w' hp => by
              obtain ⟨u3, G3, k3⟩ := HG9.out.recv hp
              refine ⟨_, _, hp.1, HZ9.out.recv HG9.out.rv k3, fun Z hZ => ?_⟩
              subst hZ
              have z3 := HZ9.out.recv HG9.out.rv k3
              have hj1 := HJf.out i (by rw [HM.out]; exact hi) _ _ _ HJ.out
              rw [HFI.out, HGK.out] at hj1
              refine ⟨u3, _, hj1, z3.row _, G3.frame z3 HZW.out (Kp.setRow1 _ _ _) (fun b hb => by have := (HG9.out.sb b hb).1; have := HZS.out; omega), (HL9.out.recv HG9.out.rv k3).kept (Kp.setRow1 _ _ _) (fun e => by have := HZL.out z e; omega)⟩
            have hk2 : ((k + i : Nat) : Int) + 1 = ((k + (i + 1) : Nat) : Int) := by omega
            clear hrF HQ9 HK9 HG9 HL9 HZ9 HGY HLY HZY HQY HCH HNC y0 cyj fyj hxr HJ HGK
            go_wp2_with (first | (refine ldG lx rfl _ rfl rfl ?_) | (go_at_call 15; refine hFd.mono ?_; rintro e w3 ⟨ga, gb, rfl, hz3, H3⟩; have z3 := hz3.out; clear hFd hz3) | (refine sdF (g := ga) z3 rfl _ _ rfl rfl rfl ?_; obtain ⟨u3, r3, J3, q3, G3, L3⟩ := H3.out _ rfl; have HJ3 := hidOf2 J3; have HQ3 := hidOf2 q3; have HG3 := hidOf2 G3; have HL3 := hidOf2 L3; clear J3 q3 G3 L3 H3 z3; generalize w3.setRow z ga.arr = Z at *))
            go_roundw
            case rel => exact ⟨i + 1, r3, gb, ga, u3, by first | (rw [← hk2]; first | rfl | (simp; done)) | go_num, rfl, by go_num, by omega, HJ3, HQ3, HG3, HL3⟩
            case measure => simp [intOf]; omega
          · have d2 : decide ((f0 : Int) < 193) = false := by simp; omega
            go_upto_region 20 with fail
            obtain ⟨wc, hwc⟩ : ∃ Z, Z = Y := ⟨_, rfl⟩
            have HQ9 : Hid (Qb x g wc) := by rw [hwc]; exact HNC.out (fun h => c2 h.2)
            have HK9 : Hid (Kp [x] Y wc) := by rw [hwc]; exact Kp.refl _ _
            rw [← hwc]
            clear hwc d1 d2
            have HG9 := hidOf2 (HGY.out.frame HQY.out HXW.out HK9.out (fun b hb => by have := (HGY.out.sb b hb).1; have := HZS.out; omega))
            have HL9 := hidOf2 (HLY.out.kept HK9.out (fun e => by have := HZL.out x e; omega))
            have HZ9 := hidOf2 (HZY.out.kq HK9.out (by simp; omega))
            have lx := HQ9.out.load
            have hrF := rFeed_any HG9.out.rv (HJok.out _ _ _ _ HJ.out) g
            have hFd : Calls Try.prog 15 #[.pointer (some ⟨R, 0, none⟩), .agg g.arr] wc fun e w' => ∃ (ga : F8) (gb : Bool), e = .returned (.tuple #[.agg ga.arr, .bool gb]) ∧ Hid (Qb z a2 w') ∧ Hid (∀ Z, Z = w'.setRow z ga.arr → ∃ u3 r3, J (i + 1) r3 gb ga ∧ Qb z ga Z ∧ Gw w S R s ao cp r3 u3 Z ∧ Lf 0 Z (.slice (some ⟨bb, ob, none⟩) m cl2) L) := hrF.mono fun e w' hp => by
              obtain ⟨u3, G3, k3⟩ := HG9.out.recv hp
              refine ⟨_, _, hp.1, HZ9.out.recv HG9.out.rv k3, fun Z hZ => ?_⟩
              subst hZ
              have z3 := HZ9.out.recv HG9.out.rv k3
              have hj1 := HJf.out i (by rw [HM.out]; exact hi) _ _ _ HJ.out
              rw [HFI.out, HGK.out] at hj1
              refine ⟨u3, _, hj1, z3.row _, G3.frame z3 HZW.out (Kp.setRow1 _ _ _) (fun b hb => by have := (HG9.out.sb b hb).1; have := HZS.out; omega), (HL9.out.recv HG9.out.rv k3).kept (Kp.setRow1 _ _ _) (fun e => by have := HZL.out z e; omega)⟩
            have hk2 : ((k + i : Nat) : Int) + 1 = ((k + (i + 1) : Nat) : Int) := by omega
            clear hrF HQ9 HK9 HG9 HL9 HZ9 HGY HLY HZY HQY HCH HNC y0 cyj fyj hxr HJ HGK
            go_wp2_with (first | (refine ldG lx rfl _ rfl rfl ?_) | (go_at_call 15; refine hFd.mono ?_; rintro e w3 ⟨ga, gb, rfl, hz3, H3⟩; have z3 := hz3.out; clear hFd hz3) | (refine sdF (g := ga) z3 rfl _ _ rfl rfl rfl ?_; obtain ⟨u3, r3, J3, q3, G3, L3⟩ := H3.out _ rfl; have HJ3 := hidOf2 J3; have HQ3 := hidOf2 q3; have HG3 := hidOf2 G3; have HL3 := hidOf2 L3; clear J3 q3 G3 L3 H3 z3; generalize w3.setRow z ga.arr = Z at *))
            go_roundw
            case rel => exact ⟨i + 1, r3, gb, ga, u3, by first | (rw [← hk2]; first | rfl | (simp; done)) | go_num, rfl, by go_num, by omega, HJ3, HQ3, HG3, HL3⟩
            case measure => simp [intOf]; omega
        · have d1 : (((k + i : Nat) : Int) == (K : Int)) = false := by simp; omega
          go_upto_region 20 with fail
          obtain ⟨wc, hwc⟩ : ∃ Z, Z = Y := ⟨_, rfl⟩
          have HQ9 : Hid (Qb x g wc) := by rw [hwc]; exact HNC.out (fun h => c1 h.1)
          have HK9 : Hid (Kp [x] Y wc) := by rw [hwc]; exact Kp.refl _ _
          rw [← hwc]
          clear hwc d1
          have HG9 := hidOf2 (HGY.out.frame HQY.out HXW.out HK9.out (fun b hb => by have := (HGY.out.sb b hb).1; have := HZS.out; omega))
          have HL9 := hidOf2 (HLY.out.kept HK9.out (fun e => by have := HZL.out x e; omega))
          have HZ9 := hidOf2 (HZY.out.kq HK9.out (by simp; omega))
          have lx := HQ9.out.load
          have hrF := rFeed_any HG9.out.rv (HJok.out _ _ _ _ HJ.out) g
          have hFd : Calls Try.prog 15 #[.pointer (some ⟨R, 0, none⟩), .agg g.arr] wc fun e w' => ∃ (ga : F8) (gb : Bool), e = .returned (.tuple #[.agg ga.arr, .bool gb]) ∧ Hid (Qb z a2 w') ∧ Hid (∀ Z, Z = w'.setRow z ga.arr → ∃ u3 r3, J (i + 1) r3 gb ga ∧ Qb z ga Z ∧ Gw w S R s ao cp r3 u3 Z ∧ Lf 0 Z (.slice (some ⟨bb, ob, none⟩) m cl2) L) := hrF.mono fun e w' hp => by
            obtain ⟨u3, G3, k3⟩ := HG9.out.recv hp
            refine ⟨_, _, hp.1, HZ9.out.recv HG9.out.rv k3, fun Z hZ => ?_⟩
            subst hZ
            have z3 := HZ9.out.recv HG9.out.rv k3
            have hj1 := HJf.out i (by rw [HM.out]; exact hi) _ _ _ HJ.out
            rw [HFI.out, HGK.out] at hj1
            refine ⟨u3, _, hj1, z3.row _, G3.frame z3 HZW.out (Kp.setRow1 _ _ _) (fun b hb => by have := (HG9.out.sb b hb).1; have := HZS.out; omega), (HL9.out.recv HG9.out.rv k3).kept (Kp.setRow1 _ _ _) (fun e => by have := HZL.out z e; omega)⟩
          have hk2 : ((k + i : Nat) : Int) + 1 = ((k + (i + 1) : Nat) : Int) := by omega
          clear hrF HQ9 HK9 HG9 HL9 HZ9 HGY HLY HZY HQY HCH HNC y0 cyj fyj hxr HJ HGK
          go_wp2_with (first | (refine ldG lx rfl _ rfl rfl ?_) | (go_at_call 15; refine hFd.mono ?_; rintro e w3 ⟨ga, gb, rfl, hz3, H3⟩; have z3 := hz3.out; clear hFd hz3) | (refine sdF (g := ga) z3 rfl _ _ rfl rfl rfl ?_; obtain ⟨u3, r3, J3, q3, G3, L3⟩ := H3.out _ rfl; have HJ3 := hidOf2 J3; have HQ3 := hidOf2 q3; have HG3 := hidOf2 G3; have HL3 := hidOf2 L3; clear J3 q3 G3 L3 H3 z3; generalize w3.setRow z ga.arr = Z at *))
          go_roundw
          case rel => exact ⟨i + 1, r3, gb, ga, u3, by first | (rw [← hk2]; first | rfl | (simp; done)) | go_num, rfl, by go_num, by omega, HJ3, HQ3, HG3, HL3⟩
          case measure => simp [intOf]; omega
      · have di : decide ((i : Int) < (m : Int)) = false := by simp; omega
        obtain rfl : i = m := by omega
        have hJE := HJe.out r2 b2 a2 (by rw [HM.out]; exact HJ.out)
        have HOL := hidOf2 HG.out.old
        rcases hJE with ⟨h1, rfl, hT⟩ | h1 | ⟨h1, hy0⟩
        · have hD := rDone_not HG.out.rv h1
          have lz := HZ.out.load
          obtain ⟨res, hres⟩ : ∃ q, sFeed s a2 = q := ⟨_, rfl⟩
          rw [hres, HM.out] at hT
          have hFd : Calls Try.prog 8 #[.pointer (some ⟨S, 0, none⟩), .agg a2.arr] wr fun e w' => ∃ v aq cq, e = .returned v ∧ Hid (Lf 0 w' v res.1) ∧ Hid (Gw w S R res.2 aq cq r2 u2 w') := (sFeed_any HG.out.sd HSOK.out a2).mono fun e w' hp => by
            obtain ⟨v, aq, cq, he, hl', hG', _⟩ := HG.out.send hp
            rw [hres] at hl' hG'
            exact ⟨v, aq, cq, he, hl'.low (Nat.zero_le _), hG'⟩
          have hle := hT.le
          rw [HN.out] at hle
          have HT := hidOf2 hT
          clear hT hres HJe HJf HJok HJ
          go_wp2_with (first | (go_at_call 19; refine hD.mono ?_; rintro e w1 ⟨rfl, hw1⟩; rw [hw1]; clear hw1 w1) | (refine ldG lz rfl _ rfl rfl ?_) | (go_at_call 8; refine hFd.mono ?_; rintro e w6 ⟨v6, aq, cq, rfl, L6, G6⟩))
          go_roundw
          case rel => exact ⟨nn + 1, k + i, res.2, r2, res.1, aq, cq, u2, by go_num, rfl, by omega, by omega, HT, G6, L6⟩
          case measure => simp [intOf]; omega
        · subst h1
          have hRD := rDone_any HG.out.rv rfl
          have hRD2 : Calls Try.prog 19 #[.pointer (some ⟨R, 0, none⟩)] wr fun e w' => ∃ ag cg, e = .returned (.tuple #[.slice ag n cg, .int .u32 0, .bool true]) ∧ Hid (Bytes w' (.slice ag n cg) l) ∧ Hid (Below w.heap.size w w') := hRD.mono fun e w' hp => by
            obtain ⟨g8, he, ho, hb8⟩ := hp
            obtain ⟨ag, cg, hg8⟩ := own_shape5 ho
            subst hg8
            have hby := bytes_of_own ho
            rw [show (Rc.fin 0 l).bs = l from rfl, HN.out] at hby he
            exact ⟨ag, cg, he, hby, HOL.out.trans (hb8.mono HOL.out.size)⟩
          clear hRD HJ HG HL HZ
          go_upto_region 24 with (first | (go_at_call 19; refine hRD2.mono ?_; rintro e w8 ⟨ag, cg, rfl, HBg, HB8⟩))
          have t1 : (convert 22 9 (.slice ag n cg)).run Try.prog w8 = .ok (.string ⟨l.toArray⟩) w8 := Bytes.text HBg.out
          have t2 : (convert 22 9 (.slice av n cv)).run Try.prog w8 = .ok (.string ⟨l.toArray⟩) w8 := Bytes.text (HBY.out w8 HB8.out)
          have hV := HLV.out w8
          clear hRD2
          go_wp2_with (first | (go_at_call 7; refine hV.mono ?_; rintro e w9 ⟨rfl, b9⟩))
          go_ret
          exact ⟨rfl, HB8.out.trans (b9.mono HB8.out.size)⟩
        · subst h1
          have hRD := rDone_any HG.out.rv rfl
          have hRD2 : Calls Try.prog 19 #[.pointer (some ⟨R, 0, none⟩)] wr fun e w' => ∃ ag cg, e = .returned (.tuple #[.slice ag 0 cg, .int .u32 84148228, .bool true]) ∧ Hid (Below w.heap.size w w') := hRD.mono fun e w' hp => by
            obtain ⟨g8, he, ho, hb8⟩ := hp
            obtain ⟨ag, cg, hg8⟩ := own_shape5 ho
            subst hg8
            exact ⟨ag, cg, he, HOL.out.trans (hb8.mono HOL.out.size)⟩
          have dy : ((y.toNat : Int) != 0) = true := by
            have : y.toNat ≠ 0 := fun e => hy0 (by apply UInt8.toNat_inj.1; simpa using e)
            simp
            omega
          clear hRD HJ HG HL HZ hy0
          go_upto_region 24 with (first | (go_at_call 19; refine hRD2.mono ?_; rintro e w8 ⟨ag, cg, rfl, HB8⟩))
          have hV := HLV.out w8
          clear hRD2
          go_wp2_with (first | (go_at_call 7; refine hV.mono ?_; rintro e w9 ⟨rfl, b9⟩))
          go_ret
          exact ⟨rfl, HB8.out.trans (b9.mono HB8.out.size)⟩
theorem ktld_int (v : Value) (l : List UInt8) (w : World) (hB : Bytes w v l) (hcap : ∀ ao n cap, v = .slice ao n cap → n ≤ cap) (hl : l.length ≤ 140737488351232) (c : Int) (hc : ∃ n : Nat, c = (n : Int) ∧ n < 65536) (z : Int) (hz : ∃ n : Nat, z = (n : Int) ∧ n < 256) :
    Calls Try.prog 5 #[v, .int .u16 c, .int .u8 z] w fun e w' => e = .returned (.bool true) ∧ Below w.heap.size w w' := by
  obtain ⟨n, rfl, hn⟩ := hc
  obtain ⟨m, rfl, hm⟩ := hz
  have := ktld_walk v l w hB hcap hl n hn (.ofNat m)
  rwa [un m hm] at this
end Go.Proofs.Ytebjofkblfmkmaa
