/- BlockSizes: it does not matter of what sizes blocks are. -/
import Derived.Test.YtmccfdjdplnhhaaBkG3
import Derived.Test.YtmccfdjdplnhhaaBkG2
import Derived.Test.YtmccfdjdplnhhaaBkOq
import Derived.Deep.DeepCutAuto
namespace Go.Proofs.Ytmccfdjdplnhhaa
open Go.RowKit Go.Proofs.Ty Go.Proofs.Bits
set_option linter.unusedVariables false
set_option maxRecDepth 1000000
set_option linter.unusedSimpArgs false
set_option maxHeartbeats 16000000 in
theorem ksiz_walk (v : Value) (l : List UInt8) (w : World) (hB : Bytes w v l) (hcap : ∀ ao n cap, v = .slice ao n cap → n ≤ cap) (hl : l.length ≤ 140737488351232) (vo : Value) (lo : List UInt8) (hlo : Bytes w vo lo) (hll : lo.length ≤ 140737488351232) :
    Calls Try.prog 7 #[v, vo] w fun e w' => e = .returned (.bool true) ∧ Below w.heap.size w w' := by
  have HLV := hidOf2 lives12_any
  have HLO : Hid (∀ y, Below w.heap.size w y → Bytes y vo lo) := fun y hy => hlo.below hy
  obtain ⟨al, cl, hvo⟩ : ∃ ao cap, vo = .slice ao lo.length cap := by obtain ⟨ao, cap, h, _⟩ := hlo; exact ⟨ao, cap, h⟩
  obtain ⟨nl, hnl⟩ : ∃ n, lo.length = n := ⟨_, rfl⟩
  have HNL := hidOf2 hnl
  rw [hnl] at hvo hll
  subst hvo
  clear hlo hnl
  obtain ⟨ao0, cap0, hv⟩ : ∃ ao cap, v = .slice ao l.length cap := by obtain ⟨ao, cap, h, _⟩ := hB; exact ⟨ao, cap, h⟩
  obtain ⟨n0, hn0⟩ : ∃ n, l.length = n := ⟨_, rfl⟩
  have HN0 := hidOf2 hn0
  rw [hn0] at hv hl
  subst hv
  have hcp := hcap _ _ _ rfl
  have HB := hidOf2 hB
  clear hcap hB hn0
  have HO := hidOf2 (own_empty w)
  have b0 : Below w.heap.size w (w.alloc (.cells #[] 5)) := (Below.refl _ _).alloc (Nat.le_refl _) _
  have HL := hidOf2 b0
  have hsz := size_alloc w (.cells #[] 5)
  clear b0
  go_enter Try.func7, Try.ntmps7
  go_upto_if 23 with fail
  go_cut [0] (fun s0 wx => wx = w ∧ ∃ (B : List UInt8) (av : Option Addr) (nb cv : Nat), s0 = .slice av nb cv ∧ B.length = nb ∧ nb ≤ 3000 ∧ ∀ x, Below w.heap.size w x → Bytes x (.slice av nb cv) B)
  case first =>
    by_cases h3 : 3000 < n0
    · have d1 : decide ((3000 : Int) < (n0 : Int)) = true := by simp; omega
      have hc3 : 3000 ≤ cap0 := by omega
      go_wp2_with fail
      go_meet
      case rel => exact ⟨rfl, l.take 3000, ao0, 3000, cap0, rfl, by rw [List.length_take, HN0.out]; omega, by omega, fun x hx => bytes_take (HB.out.below hx) 3000 (by omega)⟩
    · have d1 : decide ((3000 : Int) < (n0 : Int)) = false := by simp; omega
      go_wp2_with fail
      go_meet
      case rel => exact ⟨rfl, l, ao0, n0, cap0, rfl, HN0.out, by omega, fun x hx => HB.out.below hx⟩
  case rest =>
  obtain ⟨hwx, l, av, n, cv, rfl, hn, hnb, hBB⟩ := hcut
  rw [hwx]
  clear hwx
  have HN := hidOf2 hn
  have HBY := hidOf2 hBB
  have hsl : segs n ≤ 430 := by have := segs_le n; omega
  have HB2 := hidOf2 (hBB _ HL.out)
  clear hn hBB HB HN0 hcp hl
  go_upto_region 4 with (first | (at_builtin; refine append_bytes rfl _ _ rfl w.heap.size _ [] rfl (by exact HO.out) _ l rfl (by exact HB2.out) (by have := HN.out; simp; omega) (by rw [hsz]; omega) ?_; intro v1 w2 ho hgr; have HL2 := hidOf2 (HL.out.grown hgr (by rw [hsz]; omega) (fun k e => own_lt HO.out k e)); have hNS := NewSender_any v1 l w2 (bytes_of_own ho) (by have := HN.out; omega); clear ho hgr) | (go_at_call 9; refine hNS.mono ?_; rintro e w3 ⟨S, aS, cS, rfl, s3, hS3, hb3, b3⟩))
  have hR := NewReceiver_any 127 (by decide) (by decide) w3
  have HS3 := hidOf2 s3
  have HSw := hidOf2 (Nat.le_trans HL2.out.size hS3)
  have HB3 := hidOf2 (HL2.out.trans (b3.mono HL2.out.size))
  have Hb3 := hidOf2 hb3
  clear hNS s3 hS3 b3 hb3
  go_upto_region 5 with (first | (go_at_call 17; refine hR.mono ?_; rintro e w4 ⟨rfl, r4, b4⟩))
  obtain ⟨R, hR4⟩ : ∃ R, w3.heap.size = R := ⟨_, rfl⟩
  rw [hR4] at r4
  have G4 : Gw w S R (Sn.new l) aS cS (Rc.new 127) (.slice none 0 0) w4 := ⟨HS3.out.below b4, r4, HB3.out.trans (b4.mono HB3.out.size), HSw.out, fun b hb => by simp [rB, Value.ownBlock] at hb; rw [hb, ← hR4]; exact HB3.out.size, fun b hb => by
    obtain ⟨h5, h6⟩ := Hb3.out b hb
    refine ⟨h6, ?_⟩
    have := HS3.out.lt
    simp [rB, Value.ownBlock]
    omega⟩
  have hBg := sBegin_any (t := Sn.new l) G4.sd 127 (by decide) (by decide)
  have HG4 := hidOf2 G4
  clear hR r4 b4 HS3 HSw HB3 Hb3 G4
  go_upto_region 8 with (first | (go_at_call 12; refine hBg.mono ?_; rintro e w5 ⟨v5, rfl, l5, s5, k5⟩))
  obtain ⟨v6, a6, c6, he6, l6, G6, k6⟩ := HG4.out.send (res := (blkF l 0 127, (Sn.new l).beg 127)) (e := .returned v5) (y := w5) ⟨v5, aS, cS, rfl, l5, s5, k5, .inl ⟨rfl, rfl⟩⟩
  have hP0 : Ps l 0 ((Sn.new l).beg 127) (Rc.new 127) (blkF l 0 127) := by
    refine .inl ⟨0, 127, segs_pos _, by decide, by decide, by omega, rfl, ?_, rfl⟩
    unfold rJ
    have := segs_pos l.length
    rw [if_neg (by omega), if_neg (by omega)]
    simp [Rc.new]
  have HG6 := hidOf2 G6
  have HP0 := hidOf2 hP0
  have HL6 := hidOf2 (l5.low (Nat.zero_le _))
  clear hBg l5 s5 k5 l6 G6 k6 he6 HG4 hP0 HO HL HL2 HB2 hsz
  go_upto_region 9 with fail
  go_loopw [9, 11] (fun lv nv wr => ∃ (nn : Nat) (s : Sn) (r : Rc) (L : List F8) (ao : Option Addr) (cp : Nat) (u : Value), nv = .int .i64 nn ∧ nn ≤ 430 ∧ Hid (Ps l nn s r L) ∧ Hid (Gw w S R s ao cp r u wr) ∧ Hid (Lf 0 wr lv L)) (fun _ nv _ => 1000 - (intOf nv).toNat)
  case atStart => exact ⟨0, _, _, _, _, _, _, rfl, by omega, HP0, HG6, HL6⟩
  case round =>
    obtain ⟨nn, s, r, L, ao, cp, u, rfl, hnn, HPH, HGW, HLF⟩ := hrel
    clear HP0 HG6 HL6
    have hl6 : l.length ≤ 65536 := by rw [HN.out]; omega
    obtain ⟨hL1, hL2⟩ := HPH.out.len
    have HSOK := hidOf2 (HPH.out.sok hl6)
    obtain ⟨al2, cl2, hlv⟩ := HLF.out.1.wide.shape
    obtain ⟨m, hm⟩ : ∃ m, L.length = m := ⟨_, rfl⟩
    have HM := hidOf2 hm
    rw [hm] at hlv hL1 hL2
    subst hlv
    have hd : decide ((nn : Int) < 1000) = true := by simp; omega
    have hlst : ∀ k, k < nl → ∃ b off, al = some ⟨b, off, none⟩ ∧ ∃ x : Nat, x < 256 ∧ wr.cell? ⟨b, off + k, none⟩ = some (.int .u8 (x : Int)) := fun k hk => by
      obtain ⟨ao', cap', he, _, hc⟩ := HLO.out wr HGW.out.old
      injection he with he
      obtain ⟨b, off, ha, _, hcell⟩ := hc k (by rw [HNL.out]; exact hk)
      exact ⟨b, off, he.trans ha, _, (lo[k]'(by rw [HNL.out]; exact hk)).toNat_lt, hcell⟩
    have HLST := hidOf2 hlst
    clear hlst hm
    go_upto_if 62 with fail
    go_cut [12] (fun s12 wx => wx = wr ∧ ∃ t : Nat, s12 = .int .i64 t ∧ 1 ≤ t ∧ t ≤ 127)
    case first =>
      by_cases h3 : 0 < nl
      · have d3 : decide ((0 : Int) < (nl : Int)) = true := by simp; omega
        obtain ⟨km, hkm⟩ : ∃ k, nn % nl = k := ⟨_, rfl⟩
        have hkl : km < nl := by rw [← hkm]; exact Nat.mod_lt _ h3
        have hkI : (nn : Int) % (nl : Int) = (km : Int) := by rw [← hkm]; simp
        obtain ⟨b, off, hal, xb, hxb, hc⟩ := HLST.out km hkl
        subst hal
        clear hkm
        go_wp2_with fail
        go_meet
        case rel => exact ⟨rfl, 1 + xb % 127, by go_num, by omega, by omega⟩
      · have d3 : decide ((0 : Int) < (nl : Int)) = false := by simp; omega
        go_wp2_with fail
        go_meet
        case rel => exact ⟨rfl, 127, rfl, by omega, by omega⟩
    case rest =>
    obtain ⟨hwx, t, rfl, ht1, ht2⟩ := hcut
    rw [hwx]
    clear hwx HLST
    obtain ⟨J, hJok, hJ0, hJf, hJe⟩ := HPH.out.run hl6 t ht1 ht2
    have HJok := hidOf2 hJok
    have HJf := hidOf2 hJf
    have HJe := hidOf2 hJe
    have HJ0 := hidOf2 hJ0
    obtain ⟨z, hz⟩ : ∃ z, wr.heap.size = z := ⟨_, rfl⟩
    have z0 : Qb z F8.nul (wr.alloc (.cells zA8 30)) := by rw [← hz]; exact heap_alloc_new wr _
    have b0 : Below wr.heap.size wr (wr.alloc (.cells zA8 30)) := (Below.refl _ _).alloc (Nat.le_refl _) _
    have HX : Hid (∀ X, X = (wr.alloc (.cells zA8 30)).setRow z F8.nul.arr → Qb z F8.nul X ∧ Below wr.heap.size wr X) := fun X hX => by
      subst hX
      exact ⟨z0.row F8.nul, below_row b0 (by omega) (by rw [size_alloc]; omega) _⟩
    have HZW : Hid (w.heap.size ≤ z) := by show _ ≤ _; rw [← hz]; exact HGW.out.old.size
    have HZL : Hid (∀ b, (Value.slice al2 m cl2).ownBlock = some b → b ≠ z) := fun b hb => by
      obtain ⟨A, fr, h5⟩ := HLF.out.1.typ b hb
      have := (Array.getElem?_eq_some_iff.1 h5).1
      omega
    have HZS : Hid (S < z) := by show _ < _; rw [← hz]; exact HGW.out.sd.lt
    clear hJok hJf hJe hJ0 b0
    go_upto_region 15 with (first | (refine sdF (g := F8.nul) z0 rfl _ _ rfl rfl rfl ?_))
    change Code.wp Try.prog _ _ _ ((wr.alloc (.cells zA8 30)).setRow z F8.nul.arr)
    obtain ⟨X, hX⟩ : ∃ X, (wr.alloc (.cells zA8 30)).setRow z F8.nul.arr = X := ⟨_, rfl⟩
    rw [hX]
    obtain ⟨zX, bX⟩ := HX.out X hX.symm
    have HZX := hidOf2 zX
    have HGX := hidOf2 (HGW.out.below bX)
    have HLX := hidOf2 (HLF.out.below bX)
    clear HX hX zX bX z0 HGW HLF
    go_upto_region 16 with fail
    go_loopw [14, 15] (fun iv kv wq => ∃ (i : Nat) (r2 : Rc) (b2 : Bool) (a2 : F8) (u2 : Value), kv = .int .i64 i ∧ iv = .bool b2 ∧ i ≤ m ∧ i ≤ t ∧ Hid (J i r2 b2 a2) ∧ Hid (Qb z a2 wq) ∧ Hid (Gw w S R s ao cp r2 u2 wq) ∧ Hid (Lf 0 wq (.slice al2 m cl2) L)) (fun _ kv _ => m - (intOf kv).toNat)
    case atStart => exact ⟨0, r, false, F8.nul, u, rfl, rfl, by omega, by omega, HJ0, HZX, HGX, HLX⟩
    case round =>
      obtain ⟨i, r2, b2, a2, u2, rfl, rfl, him, hit, HJ, HZ, HG, HL⟩ := hrel
      clear HJ0 HZX HGX HLX
      by_cases hi : i < m
      · have di : decide ((i : Int) < (m : Int)) = true := by simp; omega
        by_cases ht : i < t
        · have dt : decide ((i : Int) < (t : Int)) = true := by simp; omega
          have hrF := rFeed_any HG.out.rv (HJok.out _ _ _ _ HJ.out) (L[i]'(by rw [HM.out]; exact hi))
          obtain ⟨bb, ob, capb, hlvb, _, hrg⟩ := HL.out.1.wide.at0 i (by rw [HM.out]; exact hi)
          injection hlvb with hal2 hx1 hx2
          clear hx1 hx2
          subst hal2
          have hFd : Calls Try.prog 18 #[.pointer (some ⟨R, 0, none⟩), .agg (L[i]'(by rw [HM.out]; exact hi)).arr] wr fun e w' => ∃ (ga : F8) (gb : Bool), e = .returned (.tuple #[.agg ga.arr, .bool gb]) ∧ Hid (Qb z a2 w') ∧ Hid (∀ Z, Z = w'.setRow z ga.arr → ∃ u3 r3, J (i + 1) r3 gb ga ∧ Qb z ga Z ∧ Gw w S R s ao cp r3 u3 Z ∧ Lf 0 Z (.slice (some ⟨bb, ob, none⟩) m cl2) L) := hrF.mono fun e w' hp => by
            obtain ⟨u3, G3, k3⟩ := HG.out.recv hp
            refine ⟨_, _, hp.1, HZ.out.recv HG.out.rv k3, fun Z hZ => ?_⟩
            subst hZ
            have z3 := HZ.out.recv HG.out.rv k3
            refine ⟨u3, _, HJf.out i (by rw [HM.out]; exact hi) ht _ _ _ HJ.out, z3.row _, G3.frame z3 HZW.out (Kp.setRow1 _ _ _) (fun b hb => by have := (HG.out.sb b hb).1; have := HZS.out; omega), (HL.out.recv HG.out.rv k3).kept (Kp.setRow1 _ _ _) (fun e => HZL.out z e rfl)⟩
          generalize (L[i]'(by rw [HM.out]; exact hi)) = fi at *
          clear hrF
          go_wp2_with (first | (refine ldRow hrg rfl _ rfl rfl ?_) | (go_at_call 18; refine hFd.mono ?_; rintro e w3 ⟨ga, gb, rfl, hz3, H3⟩; have z3 := hz3.out; clear hrg hFd hz3) | (refine sdF (g := ga) z3 rfl _ _ rfl rfl rfl ?_; obtain ⟨u3, r3, J3, q3, G3, L3⟩ := H3.out _ rfl; have HJ3 := hidOf2 J3; have HQ3 := hidOf2 q3; have HG3 := hidOf2 G3; have HL3 := hidOf2 L3; clear J3 q3 G3 L3 H3 z3; generalize w3.setRow z ga.arr = Z at *))
          go_roundw
          case rel => exact ⟨i + 1, r3, gb, ga, u3, by go_num, rfl, by omega, by omega, HJ3, HQ3, HG3, HL3⟩
          case measure => simp [intOf]; omega
        · have dt : decide ((i : Int) < (t : Int)) = false := by simp; omega
          have hij : i = min m t := by omega
          have hJE := HJe.out r2 b2 a2 (by rw [HM.out, ← hij]; exact HJ.out)
          have GW := HG.out
          have QW := HZ.out
          have HJE := hidOf2 hJE
          clear hJE HJ HL HJe HJf HJok HZL hij
          cases b2 with
          | true =>
            have hNx0 : Ns l nn (sFeed s (set2 a2 t)) r2 := by
              rcases HJE.out with ⟨_, h5⟩ | ⟨h5, _⟩
              · exact h5
              · cases h5
            obtain ⟨a1, haa⟩ : ∃ a, a2 = a := ⟨_, rfl⟩
            obtain ⟨rr, hr0⟩ : ∃ a, r2 = a := ⟨_, rfl⟩
            obtain ⟨uu, hu0⟩ : ∃ a, u2 = a := ⟨_, rfl⟩
            obtain ⟨Y1, hYY⟩ : ∃ a, wr = a := ⟨_, rfl⟩
            have G1 : Gw w S R s ao cp rr uu Y1 := by rw [← hr0, ← hu0, ← hYY]; exact GW
            have Q1 : Qb z a1 Y1 := by rw [← haa, ← hYY]; exact QW
            rw [haa, hr0] at hNx0
            clear HJE GW QW HG HZ
            go_upto_region 21 with fail
            try rw [hYY]
            have x0 := Q1.c0
            by_cases h162 : a1.b0.toNat = 162
            · have d162 : ((a1.b0.toNat : Int) == 162) = true := by simp; omega
              have x2 := Q1.c2
              have fz : Y1.frozen? ⟨z, 2, none⟩ = false := Lib.frozen_of_heap Q1 2
              obtain ⟨aa, haa⟩ : ∃ f, set2 a1 t = f := ⟨_, rfl⟩
              have HY : Hid (∀ Z, Z = Y1.setCell ⟨z, 2, none⟩ (.int .u8 (t : Int)) → Gw w S R s ao cp rr uu Z ∧ Qb z aa Z) := fun Z hZ => by
                subst hZ
                refine ⟨G1.frame Q1 HZW.out (Kp.cell1 _ _ _ _) (fun b hb => by have := (G1.sb b hb).1; have := HZS.out; omega), ?_⟩
                have := Q1.set2 (.ofNat t)
                rw [un t (by omega)] at this
                rw [← haa]
                unfold set2
                rw [if_pos h162]
                exact this
              have hNx := hNx0
              rw [haa] at hNx
              clear hNx0 haa G1 Q1
              go_upto_region 23 with fail
              obtain ⟨YY, hZ⟩ : ∃ Z, Y1.setCell ⟨z, 2, none⟩ (.int .u8 (t : Int)) = Z := ⟨_, rfl⟩
              rw [hZ]
              obtain ⟨GY, QY⟩ := HY.out YY hZ.symm
              clear HY hZ x0 x2 fz h162 d162
              obtain ⟨res, hres⟩ : ∃ q, sFeed s aa = q := ⟨_, rfl⟩
              have HFd : Hid (∀ y, Gw w S R s ao cp rr uu y → Qb z aa y → Calls Try.prog 11 #[.pointer (some ⟨S, 0, none⟩), .agg aa.arr] y fun e w' => ∃ v aq cq, e = .returned v ∧ Hid (Lf 0 w' v res.1) ∧ Hid (Gw w S R res.2 aq cq rr uu w')) := fun y hG hq => (sFeed_any hG.sd HSOK.out aa).mono fun e w' hp => by
                obtain ⟨v, aq, cq, he, hl', hG', _⟩ := hG.send hp
                rw [hres] at hl' hG'
                exact ⟨v, aq, cq, he, hl'.low (Nat.zero_le _), hG'⟩
              rw [hres] at hNx
              have hFd := HFd.out YY GY QY
              have lz := QY.load
              clear HFd hres
              go_upto_region 24 with (first | (refine ldG lz rfl _ rfl rfl ?_) | (go_at_call 11; refine hFd.mono ?_; rintro e w6 ⟨v6, aq, cq, rfl, L6, G6⟩))
              have hD := sDone_any G6.out.sd
              clear hFd lz QY GY
              rcases hNx with ⟨hn3, hph⟩ | ⟨hfin, hrr⟩
              · rw [decide_eq_false hn3] at hD
                have HPH2 := hidOf2 hph
                have hble := hph.le
                rw [HN.out] at hble
                clear hph
                go_wp2_with (first | (go_at_call 16; refine hD.mono ?_; rintro e w7 ⟨rfl, n7, hw7⟩; rw [hw7]; clear hw7 w7))
                go_roundw
                case rel => exact ⟨nn + 1, res.2, rr, res.1, aq, cq, uu, by go_num, by omega, HPH2, hidOf2 (⟨G6.out.sd.drawn n7, G6.out.rv.drawn n7, bdr G6.out.old n7, G6.out.sw, G6.out.rw, G6.out.sb⟩ : Gw w S R res.2 aq cq rr uu (w6.drewN n7)), hidOf2 (L6.out.below (bdr (Below.refl _ _) n7))⟩
                case measure => simp [intOf]; omega
              · rw [hfin] at hD G6
                have hD2 : Calls Try.prog 16 #[.pointer (some ⟨S, 0, none⟩)] w6 fun e w' => e = .returned (.tuple #[.int .u32 0, .bool true]) ∧ ∃ n, w' = w6.drewN n := hD
                clear hD
                rw [hrr] at G6
                go_upto_region 26 with (first | (go_at_call 16; refine hD2.mono ?_; rintro e w7 ⟨rfl, n7, hw7⟩; rw [hw7]; clear hw7 w7))
                have hRD := rDone_any (G6.out.rv.drawn n7) rfl
                have HO7 : Hid (Below w.heap.size w (w6.drewN n7)) := bdr G6.out.old n7
                generalize w6.drewN n7 = w7 at *
                clear hD2 G6 L6
                have hRD2 : Calls Try.prog 22 #[.pointer (some ⟨R, 0, none⟩)] w7 fun e w' => ∃ ag cg, e = .returned (.tuple #[.slice ag n cg, .int .u32 0, .bool true]) ∧ Hid (Bytes w' (.slice ag n cg) l) ∧ Hid (Below w.heap.size w w') := hRD.mono fun e w' hp => by
                  obtain ⟨g8, he, ho, hb8⟩ := hp
                  obtain ⟨ag, cg, hg8⟩ := own_shape5 ho
                  subst hg8
                  have hby := bytes_of_own ho
                  rw [show (Rc.fin 0 l).bs = l from rfl, HN.out] at hby he
                  exact ⟨ag, cg, he, hby, HO7.out.trans (hb8.mono HO7.out.size)⟩
                clear hRD
                go_upto_region 27 with (first | (go_at_call 22; refine hRD2.mono ?_; rintro e w8 ⟨ag, cg, rfl, HBg, HB8⟩))
                have t1 : (convert 22 9 (.slice ag n cg)).run Try.prog w8 = .ok (.string ⟨l.toArray⟩) w8 := Bytes.text HBg.out
                have t2 : (convert 22 9 (.slice av n cv)).run Try.prog w8 = .ok (.string ⟨l.toArray⟩) w8 := Bytes.text (HBY.out w8 HB8.out)
                have hV := HLV.out w8
                clear hRD2
                go_wp2_with (first | (go_at_call 10; refine hV.mono ?_; rintro e w9 ⟨rfl, b9⟩))
                go_ret
                exact ⟨rfl, HB8.out.trans (b9.mono HB8.out.size)⟩
            · have d162 : ((a1.b0.toNat : Int) == 162) = false := by simp; omega
              have haa : set2 a1 t = a1 := by unfold set2; rw [if_neg h162]
              have hNx := hNx0
              rw [haa] at hNx
              clear hNx0 haa
              go_upto_region 23 with fail
              obtain ⟨aa, rfl⟩ : ∃ f, f = a1 := ⟨_, rfl⟩
              obtain ⟨YY, rfl⟩ : ∃ f, f = Y1 := ⟨_, rfl⟩
              have GY := G1
              have QY := Q1
              clear G1 Q1
              clear x0 h162 d162
              obtain ⟨res, hres⟩ : ∃ q, sFeed s aa = q := ⟨_, rfl⟩
              have HFd : Hid (∀ y, Gw w S R s ao cp rr uu y → Qb z aa y → Calls Try.prog 11 #[.pointer (some ⟨S, 0, none⟩), .agg aa.arr] y fun e w' => ∃ v aq cq, e = .returned v ∧ Hid (Lf 0 w' v res.1) ∧ Hid (Gw w S R res.2 aq cq rr uu w')) := fun y hG hq => (sFeed_any hG.sd HSOK.out aa).mono fun e w' hp => by
                obtain ⟨v, aq, cq, he, hl', hG', _⟩ := hG.send hp
                rw [hres] at hl' hG'
                exact ⟨v, aq, cq, he, hl'.low (Nat.zero_le _), hG'⟩
              rw [hres] at hNx
              have hFd := HFd.out YY GY QY
              have lz := QY.load
              clear HFd hres
              go_upto_region 24 with (first | (refine ldG lz rfl _ rfl rfl ?_) | (go_at_call 11; refine hFd.mono ?_; rintro e w6 ⟨v6, aq, cq, rfl, L6, G6⟩))
              have hD := sDone_any G6.out.sd
              clear hFd lz QY GY
              rcases hNx with ⟨hn3, hph⟩ | ⟨hfin, hrr⟩
              · rw [decide_eq_false hn3] at hD
                have HPH2 := hidOf2 hph
                have hble := hph.le
                rw [HN.out] at hble
                clear hph
                go_wp2_with (first | (go_at_call 16; refine hD.mono ?_; rintro e w7 ⟨rfl, n7, hw7⟩; rw [hw7]; clear hw7 w7))
                go_roundw
                case rel => exact ⟨nn + 1, res.2, rr, res.1, aq, cq, uu, by go_num, by omega, HPH2, hidOf2 (⟨G6.out.sd.drawn n7, G6.out.rv.drawn n7, bdr G6.out.old n7, G6.out.sw, G6.out.rw, G6.out.sb⟩ : Gw w S R res.2 aq cq rr uu (w6.drewN n7)), hidOf2 (L6.out.below (bdr (Below.refl _ _) n7))⟩
                case measure => simp [intOf]; omega
              · rw [hfin] at hD G6
                have hD2 : Calls Try.prog 16 #[.pointer (some ⟨S, 0, none⟩)] w6 fun e w' => e = .returned (.tuple #[.int .u32 0, .bool true]) ∧ ∃ n, w' = w6.drewN n := hD
                clear hD
                rw [hrr] at G6
                go_upto_region 26 with (first | (go_at_call 16; refine hD2.mono ?_; rintro e w7 ⟨rfl, n7, hw7⟩; rw [hw7]; clear hw7 w7))
                have hRD := rDone_any (G6.out.rv.drawn n7) rfl
                have HO7 : Hid (Below w.heap.size w (w6.drewN n7)) := bdr G6.out.old n7
                generalize w6.drewN n7 = w7 at *
                clear hD2 G6 L6
                have hRD2 : Calls Try.prog 22 #[.pointer (some ⟨R, 0, none⟩)] w7 fun e w' => ∃ ag cg, e = .returned (.tuple #[.slice ag n cg, .int .u32 0, .bool true]) ∧ Hid (Bytes w' (.slice ag n cg) l) ∧ Hid (Below w.heap.size w w') := hRD.mono fun e w' hp => by
                  obtain ⟨g8, he, ho, hb8⟩ := hp
                  obtain ⟨ag, cg, hg8⟩ := own_shape5 ho
                  subst hg8
                  have hby := bytes_of_own ho
                  rw [show (Rc.fin 0 l).bs = l from rfl, HN.out] at hby he
                  exact ⟨ag, cg, he, hby, HO7.out.trans (hb8.mono HO7.out.size)⟩
                clear hRD
                go_upto_region 27 with (first | (go_at_call 22; refine hRD2.mono ?_; rintro e w8 ⟨ag, cg, rfl, HBg, HB8⟩))
                have t1 : (convert 22 9 (.slice ag n cg)).run Try.prog w8 = .ok (.string ⟨l.toArray⟩) w8 := Bytes.text HBg.out
                have t2 : (convert 22 9 (.slice av n cv)).run Try.prog w8 = .ok (.string ⟨l.toArray⟩) w8 := Bytes.text (HBY.out w8 HB8.out)
                have hV := HLV.out w8
                clear hRD2
                go_wp2_with (first | (go_at_call 10; refine hV.mono ?_; rintro e w9 ⟨rfl, b9⟩))
                go_ret
                exact ⟨rfl, HB8.out.trans (b9.mono HB8.out.size)⟩
          | false =>
            obtain ⟨a1, rr, hask, hrok, hNx0⟩ : ∃ a' r', rAsk r2 = (some a', r') ∧ r'.Ok ∧ Ns l nn (sFeed s (set2 a' t)) r' := by
              rcases HJE.out with ⟨h5, _⟩ | ⟨_, h5⟩
              · cases h5
              · exact h5
            have hAk : Calls Try.prog 20 #[.pointer (some ⟨R, 0, none⟩)] wr fun e w' => e = .returned (.tuple #[.agg a1.arr, .bool true]) ∧ Hid (Qb z a2 w') ∧ Hid (∀ Z, Z = w'.setRow z a1.arr → ∃ uu, Gw w S R s ao cp rr uu Z ∧ Qb z a1 Z) := (rAsk_any GW.rv).mono fun e w' hp => by
              rw [hask] at hp
              obtain ⟨u3, G3, k3⟩ := GW.recv hp
              have z3 := QW.recv GW.rv k3
              refine ⟨hp.1, z3, fun Z hZ => ?_⟩
              subst hZ
              exact ⟨u3, G3.frame z3 HZW.out (Kp.setRow1 _ _ _) (fun b hb => by have := (GW.sb b hb).1; have := HZS.out; omega), z3.row a1⟩
            clear HJE GW QW HG HZ hask
            go_upto_region 21 with (first | (go_at_call 20; refine hAk.mono ?_; rintro e w3 ⟨rfl, hz3, H3⟩; have z3 := hz3.out) | (refine sdF (g := a1) z3 rfl _ _ rfl rfl rfl ?_))
            change Code.wp Try.prog _ _ _ (w3.setRow z a1.arr)
            obtain ⟨Y1, hZ⟩ : ∃ Z, w3.setRow z a1.arr = Z := ⟨_, rfl⟩
            rw [hZ]
            obtain ⟨uu, G1, Q1⟩ := H3.out Y1 hZ.symm
            clear hZ H3 hz3 z3 hAk
            have x0 := Q1.c0
            by_cases h162 : a1.b0.toNat = 162
            · have d162 : ((a1.b0.toNat : Int) == 162) = true := by simp; omega
              have x2 := Q1.c2
              have fz : Y1.frozen? ⟨z, 2, none⟩ = false := Lib.frozen_of_heap Q1 2
              obtain ⟨aa, haa⟩ : ∃ f, set2 a1 t = f := ⟨_, rfl⟩
              have HY : Hid (∀ Z, Z = Y1.setCell ⟨z, 2, none⟩ (.int .u8 (t : Int)) → Gw w S R s ao cp rr uu Z ∧ Qb z aa Z) := fun Z hZ => by
                subst hZ
                refine ⟨G1.frame Q1 HZW.out (Kp.cell1 _ _ _ _) (fun b hb => by have := (G1.sb b hb).1; have := HZS.out; omega), ?_⟩
                have := Q1.set2 (.ofNat t)
                rw [un t (by omega)] at this
                rw [← haa]
                unfold set2
                rw [if_pos h162]
                exact this
              have hNx := hNx0
              rw [haa] at hNx
              clear hNx0 haa G1 Q1
              go_upto_region 23 with fail
              obtain ⟨YY, hZ⟩ : ∃ Z, Y1.setCell ⟨z, 2, none⟩ (.int .u8 (t : Int)) = Z := ⟨_, rfl⟩
              rw [hZ]
              obtain ⟨GY, QY⟩ := HY.out YY hZ.symm
              clear HY hZ x0 x2 fz h162 d162
              obtain ⟨res, hres⟩ : ∃ q, sFeed s aa = q := ⟨_, rfl⟩
              have HFd : Hid (∀ y, Gw w S R s ao cp rr uu y → Qb z aa y → Calls Try.prog 11 #[.pointer (some ⟨S, 0, none⟩), .agg aa.arr] y fun e w' => ∃ v aq cq, e = .returned v ∧ Hid (Lf 0 w' v res.1) ∧ Hid (Gw w S R res.2 aq cq rr uu w')) := fun y hG hq => (sFeed_any hG.sd HSOK.out aa).mono fun e w' hp => by
                obtain ⟨v, aq, cq, he, hl', hG', _⟩ := hG.send hp
                rw [hres] at hl' hG'
                exact ⟨v, aq, cq, he, hl'.low (Nat.zero_le _), hG'⟩
              rw [hres] at hNx
              have hFd := HFd.out YY GY QY
              have lz := QY.load
              clear HFd hres
              go_upto_region 24 with (first | (refine ldG lz rfl _ rfl rfl ?_) | (go_at_call 11; refine hFd.mono ?_; rintro e w6 ⟨v6, aq, cq, rfl, L6, G6⟩))
              have hD := sDone_any G6.out.sd
              clear hFd lz QY GY
              rcases hNx with ⟨hn3, hph⟩ | ⟨hfin, hrr⟩
              · rw [decide_eq_false hn3] at hD
                have HPH2 := hidOf2 hph
                have hble := hph.le
                rw [HN.out] at hble
                clear hph
                go_wp2_with (first | (go_at_call 16; refine hD.mono ?_; rintro e w7 ⟨rfl, n7, hw7⟩; rw [hw7]; clear hw7 w7))
                go_roundw
                case rel => exact ⟨nn + 1, res.2, rr, res.1, aq, cq, uu, by go_num, by omega, HPH2, hidOf2 (⟨G6.out.sd.drawn n7, G6.out.rv.drawn n7, bdr G6.out.old n7, G6.out.sw, G6.out.rw, G6.out.sb⟩ : Gw w S R res.2 aq cq rr uu (w6.drewN n7)), hidOf2 (L6.out.below (bdr (Below.refl _ _) n7))⟩
                case measure => simp [intOf]; omega
              · rw [hfin] at hD G6
                have hD2 : Calls Try.prog 16 #[.pointer (some ⟨S, 0, none⟩)] w6 fun e w' => e = .returned (.tuple #[.int .u32 0, .bool true]) ∧ ∃ n, w' = w6.drewN n := hD
                clear hD
                rw [hrr] at G6
                go_upto_region 26 with (first | (go_at_call 16; refine hD2.mono ?_; rintro e w7 ⟨rfl, n7, hw7⟩; rw [hw7]; clear hw7 w7))
                have hRD := rDone_any (G6.out.rv.drawn n7) rfl
                have HO7 : Hid (Below w.heap.size w (w6.drewN n7)) := bdr G6.out.old n7
                generalize w6.drewN n7 = w7 at *
                clear hD2 G6 L6
                have hRD2 : Calls Try.prog 22 #[.pointer (some ⟨R, 0, none⟩)] w7 fun e w' => ∃ ag cg, e = .returned (.tuple #[.slice ag n cg, .int .u32 0, .bool true]) ∧ Hid (Bytes w' (.slice ag n cg) l) ∧ Hid (Below w.heap.size w w') := hRD.mono fun e w' hp => by
                  obtain ⟨g8, he, ho, hb8⟩ := hp
                  obtain ⟨ag, cg, hg8⟩ := own_shape5 ho
                  subst hg8
                  have hby := bytes_of_own ho
                  rw [show (Rc.fin 0 l).bs = l from rfl, HN.out] at hby he
                  exact ⟨ag, cg, he, hby, HO7.out.trans (hb8.mono HO7.out.size)⟩
                clear hRD
                go_upto_region 27 with (first | (go_at_call 22; refine hRD2.mono ?_; rintro e w8 ⟨ag, cg, rfl, HBg, HB8⟩))
                have t1 : (convert 22 9 (.slice ag n cg)).run Try.prog w8 = .ok (.string ⟨l.toArray⟩) w8 := Bytes.text HBg.out
                have t2 : (convert 22 9 (.slice av n cv)).run Try.prog w8 = .ok (.string ⟨l.toArray⟩) w8 := Bytes.text (HBY.out w8 HB8.out)
                have hV := HLV.out w8
                clear hRD2
                go_wp2_with (first | (go_at_call 10; refine hV.mono ?_; rintro e w9 ⟨rfl, b9⟩))
                go_ret
                exact ⟨rfl, HB8.out.trans (b9.mono HB8.out.size)⟩
            · have d162 : ((a1.b0.toNat : Int) == 162) = false := by simp; omega
              have haa : set2 a1 t = a1 := by unfold set2; rw [if_neg h162]
              have hNx := hNx0
              rw [haa] at hNx
              clear hNx0 haa
              go_upto_region 23 with fail
              obtain ⟨aa, rfl⟩ : ∃ f, f = a1 := ⟨_, rfl⟩
              obtain ⟨YY, rfl⟩ : ∃ f, f = Y1 := ⟨_, rfl⟩
              have GY := G1
              have QY := Q1
              clear G1 Q1
              clear x0 h162 d162
              obtain ⟨res, hres⟩ : ∃ q, sFeed s aa = q := ⟨_, rfl⟩
              have HFd : Hid (∀ y, Gw w S R s ao cp rr uu y → Qb z aa y → Calls Try.prog 11 #[.pointer (some ⟨S, 0, none⟩), .agg aa.arr] y fun e w' => ∃ v aq cq, e = .returned v ∧ Hid (Lf 0 w' v res.1) ∧ Hid (Gw w S R res.2 aq cq rr uu w')) := fun y hG hq => (sFeed_any hG.sd HSOK.out aa).mono fun e w' hp => by
                obtain ⟨v, aq, cq, he, hl', hG', _⟩ := hG.send hp
                rw [hres] at hl' hG'
                exact ⟨v, aq, cq, he, hl'.low (Nat.zero_le _), hG'⟩
              rw [hres] at hNx
              have hFd := HFd.out YY GY QY
              have lz := QY.load
              clear HFd hres
              go_upto_region 24 with (first | (refine ldG lz rfl _ rfl rfl ?_) | (go_at_call 11; refine hFd.mono ?_; rintro e w6 ⟨v6, aq, cq, rfl, L6, G6⟩))
              have hD := sDone_any G6.out.sd
              clear hFd lz QY GY
              rcases hNx with ⟨hn3, hph⟩ | ⟨hfin, hrr⟩
              · rw [decide_eq_false hn3] at hD
                have HPH2 := hidOf2 hph
                have hble := hph.le
                rw [HN.out] at hble
                clear hph
                go_wp2_with (first | (go_at_call 16; refine hD.mono ?_; rintro e w7 ⟨rfl, n7, hw7⟩; rw [hw7]; clear hw7 w7))
                go_roundw
                case rel => exact ⟨nn + 1, res.2, rr, res.1, aq, cq, uu, by go_num, by omega, HPH2, hidOf2 (⟨G6.out.sd.drawn n7, G6.out.rv.drawn n7, bdr G6.out.old n7, G6.out.sw, G6.out.rw, G6.out.sb⟩ : Gw w S R res.2 aq cq rr uu (w6.drewN n7)), hidOf2 (L6.out.below (bdr (Below.refl _ _) n7))⟩
                case measure => simp [intOf]; omega
              · rw [hfin] at hD G6
                have hD2 : Calls Try.prog 16 #[.pointer (some ⟨S, 0, none⟩)] w6 fun e w' => e = .returned (.tuple #[.int .u32 0, .bool true]) ∧ ∃ n, w' = w6.drewN n := hD
                clear hD
                rw [hrr] at G6
                go_upto_region 26 with (first | (go_at_call 16; refine hD2.mono ?_; rintro e w7 ⟨rfl, n7, hw7⟩; rw [hw7]; clear hw7 w7))
                have hRD := rDone_any (G6.out.rv.drawn n7) rfl
                have HO7 : Hid (Below w.heap.size w (w6.drewN n7)) := bdr G6.out.old n7
                generalize w6.drewN n7 = w7 at *
                clear hD2 G6 L6
                have hRD2 : Calls Try.prog 22 #[.pointer (some ⟨R, 0, none⟩)] w7 fun e w' => ∃ ag cg, e = .returned (.tuple #[.slice ag n cg, .int .u32 0, .bool true]) ∧ Hid (Bytes w' (.slice ag n cg) l) ∧ Hid (Below w.heap.size w w') := hRD.mono fun e w' hp => by
                  obtain ⟨g8, he, ho, hb8⟩ := hp
                  obtain ⟨ag, cg, hg8⟩ := own_shape5 ho
                  subst hg8
                  have hby := bytes_of_own ho
                  rw [show (Rc.fin 0 l).bs = l from rfl, HN.out] at hby he
                  exact ⟨ag, cg, he, hby, HO7.out.trans (hb8.mono HO7.out.size)⟩
                clear hRD
                go_upto_region 27 with (first | (go_at_call 22; refine hRD2.mono ?_; rintro e w8 ⟨ag, cg, rfl, HBg, HB8⟩))
                have t1 : (convert 22 9 (.slice ag n cg)).run Try.prog w8 = .ok (.string ⟨l.toArray⟩) w8 := Bytes.text HBg.out
                have t2 : (convert 22 9 (.slice av n cv)).run Try.prog w8 = .ok (.string ⟨l.toArray⟩) w8 := Bytes.text (HBY.out w8 HB8.out)
                have hV := HLV.out w8
                clear hRD2
                go_wp2_with (first | (go_at_call 10; refine hV.mono ?_; rintro e w9 ⟨rfl, b9⟩))
                go_ret
                exact ⟨rfl, HB8.out.trans (b9.mono HB8.out.size)⟩
      · have di : decide ((i : Int) < (m : Int)) = false := by simp; omega
        have hij : i = min m t := by omega
        have hJE := HJe.out r2 b2 a2 (by rw [HM.out, ← hij]; exact HJ.out)
        have GW := HG.out
        have QW := HZ.out
        have HJE := hidOf2 hJE
        clear hJE HJ HL HJe HJf HJok HZL hij
        cases b2 with
        | true =>
          have hNx0 : Ns l nn (sFeed s (set2 a2 t)) r2 := by
            rcases HJE.out with ⟨_, h5⟩ | ⟨h5, _⟩
            · exact h5
            · cases h5
          obtain ⟨a1, haa⟩ : ∃ a, a2 = a := ⟨_, rfl⟩
          obtain ⟨rr, hr0⟩ : ∃ a, r2 = a := ⟨_, rfl⟩
          obtain ⟨uu, hu0⟩ : ∃ a, u2 = a := ⟨_, rfl⟩
          obtain ⟨Y1, hYY⟩ : ∃ a, wr = a := ⟨_, rfl⟩
          have G1 : Gw w S R s ao cp rr uu Y1 := by rw [← hr0, ← hu0, ← hYY]; exact GW
          have Q1 : Qb z a1 Y1 := by rw [← haa, ← hYY]; exact QW
          rw [haa, hr0] at hNx0
          clear HJE GW QW HG HZ
          go_upto_region 21 with fail
          try rw [hYY]
          have x0 := Q1.c0
          by_cases h162 : a1.b0.toNat = 162
          · have d162 : ((a1.b0.toNat : Int) == 162) = true := by simp; omega
            have x2 := Q1.c2
            have fz : Y1.frozen? ⟨z, 2, none⟩ = false := Lib.frozen_of_heap Q1 2
            obtain ⟨aa, haa⟩ : ∃ f, set2 a1 t = f := ⟨_, rfl⟩
            have HY : Hid (∀ Z, Z = Y1.setCell ⟨z, 2, none⟩ (.int .u8 (t : Int)) → Gw w S R s ao cp rr uu Z ∧ Qb z aa Z) := fun Z hZ => by
              subst hZ
              refine ⟨G1.frame Q1 HZW.out (Kp.cell1 _ _ _ _) (fun b hb => by have := (G1.sb b hb).1; have := HZS.out; omega), ?_⟩
              have := Q1.set2 (.ofNat t)
              rw [un t (by omega)] at this
              rw [← haa]
              unfold set2
              rw [if_pos h162]
              exact this
            have hNx := hNx0
            rw [haa] at hNx
            clear hNx0 haa G1 Q1
            go_upto_region 23 with fail
            obtain ⟨YY, hZ⟩ : ∃ Z, Y1.setCell ⟨z, 2, none⟩ (.int .u8 (t : Int)) = Z := ⟨_, rfl⟩
            rw [hZ]
            obtain ⟨GY, QY⟩ := HY.out YY hZ.symm
            clear HY hZ x0 x2 fz h162 d162
            obtain ⟨res, hres⟩ : ∃ q, sFeed s aa = q := ⟨_, rfl⟩
            have HFd : Hid (∀ y, Gw w S R s ao cp rr uu y → Qb z aa y → Calls Try.prog 11 #[.pointer (some ⟨S, 0, none⟩), .agg aa.arr] y fun e w' => ∃ v aq cq, e = .returned v ∧ Hid (Lf 0 w' v res.1) ∧ Hid (Gw w S R res.2 aq cq rr uu w')) := fun y hG hq => (sFeed_any hG.sd HSOK.out aa).mono fun e w' hp => by
              obtain ⟨v, aq, cq, he, hl', hG', _⟩ := hG.send hp
              rw [hres] at hl' hG'
              exact ⟨v, aq, cq, he, hl'.low (Nat.zero_le _), hG'⟩
            rw [hres] at hNx
            have hFd := HFd.out YY GY QY
            have lz := QY.load
            clear HFd hres
            go_upto_region 24 with (first | (refine ldG lz rfl _ rfl rfl ?_) | (go_at_call 11; refine hFd.mono ?_; rintro e w6 ⟨v6, aq, cq, rfl, L6, G6⟩))
            have hD := sDone_any G6.out.sd
            clear hFd lz QY GY
            rcases hNx with ⟨hn3, hph⟩ | ⟨hfin, hrr⟩
            · rw [decide_eq_false hn3] at hD
              have HPH2 := hidOf2 hph
              have hble := hph.le
              rw [HN.out] at hble
              clear hph
              go_wp2_with (first | (go_at_call 16; refine hD.mono ?_; rintro e w7 ⟨rfl, n7, hw7⟩; rw [hw7]; clear hw7 w7))
              go_roundw
              case rel => exact ⟨nn + 1, res.2, rr, res.1, aq, cq, uu, by go_num, by omega, HPH2, hidOf2 (⟨G6.out.sd.drawn n7, G6.out.rv.drawn n7, bdr G6.out.old n7, G6.out.sw, G6.out.rw, G6.out.sb⟩ : Gw w S R res.2 aq cq rr uu (w6.drewN n7)), hidOf2 (L6.out.below (bdr (Below.refl _ _) n7))⟩
              case measure => simp [intOf]; omega
            · rw [hfin] at hD G6
              have hD2 : Calls Try.prog 16 #[.pointer (some ⟨S, 0, none⟩)] w6 fun e w' => e = .returned (.tuple #[.int .u32 0, .bool true]) ∧ ∃ n, w' = w6.drewN n := hD
              clear hD
              rw [hrr] at G6
              go_upto_region 26 with (first | (go_at_call 16; refine hD2.mono ?_; rintro e w7 ⟨rfl, n7, hw7⟩; rw [hw7]; clear hw7 w7))
              have hRD := rDone_any (G6.out.rv.drawn n7) rfl
              have HO7 : Hid (Below w.heap.size w (w6.drewN n7)) := bdr G6.out.old n7
              generalize w6.drewN n7 = w7 at *
              clear hD2 G6 L6
              have hRD2 : Calls Try.prog 22 #[.pointer (some ⟨R, 0, none⟩)] w7 fun e w' => ∃ ag cg, e = .returned (.tuple #[.slice ag n cg, .int .u32 0, .bool true]) ∧ Hid (Bytes w' (.slice ag n cg) l) ∧ Hid (Below w.heap.size w w') := hRD.mono fun e w' hp => by
                obtain ⟨g8, he, ho, hb8⟩ := hp
                obtain ⟨ag, cg, hg8⟩ := own_shape5 ho
                subst hg8
                have hby := bytes_of_own ho
                rw [show (Rc.fin 0 l).bs = l from rfl, HN.out] at hby he
                exact ⟨ag, cg, he, hby, HO7.out.trans (hb8.mono HO7.out.size)⟩
              clear hRD
              go_upto_region 27 with (first | (go_at_call 22; refine hRD2.mono ?_; rintro e w8 ⟨ag, cg, rfl, HBg, HB8⟩))
              have t1 : (convert 22 9 (.slice ag n cg)).run Try.prog w8 = .ok (.string ⟨l.toArray⟩) w8 := Bytes.text HBg.out
              have t2 : (convert 22 9 (.slice av n cv)).run Try.prog w8 = .ok (.string ⟨l.toArray⟩) w8 := Bytes.text (HBY.out w8 HB8.out)
              have hV := HLV.out w8
              clear hRD2
              go_wp2_with (first | (go_at_call 10; refine hV.mono ?_; rintro e w9 ⟨rfl, b9⟩))
              go_ret
              exact ⟨rfl, HB8.out.trans (b9.mono HB8.out.size)⟩
          · have d162 : ((a1.b0.toNat : Int) == 162) = false := by simp; omega
            have haa : set2 a1 t = a1 := by unfold set2; rw [if_neg h162]
            have hNx := hNx0
            rw [haa] at hNx
            clear hNx0 haa
            go_upto_region 23 with fail
            obtain ⟨aa, rfl⟩ : ∃ f, f = a1 := ⟨_, rfl⟩
            obtain ⟨YY, rfl⟩ : ∃ f, f = Y1 := ⟨_, rfl⟩
            have GY := G1
            have QY := Q1
            clear G1 Q1
            clear x0 h162 d162
            obtain ⟨res, hres⟩ : ∃ q, sFeed s aa = q := ⟨_, rfl⟩
            have HFd : Hid (∀ y, Gw w S R s ao cp rr uu y → Qb z aa y → Calls Try.prog 11 #[.pointer (some ⟨S, 0, none⟩), .agg aa.arr] y fun e w' => ∃ v aq cq, e = .returned v ∧ Hid (Lf 0 w' v res.1) ∧ Hid (Gw w S R res.2 aq cq rr uu w')) := fun y hG hq => (sFeed_any hG.sd HSOK.out aa).mono fun e w' hp => by
              obtain ⟨v, aq, cq, he, hl', hG', _⟩ := hG.send hp
              rw [hres] at hl' hG'
              exact ⟨v, aq, cq, he, hl'.low (Nat.zero_le _), hG'⟩
            rw [hres] at hNx
            have hFd := HFd.out YY GY QY
            have lz := QY.load
            clear HFd hres
            go_upto_region 24 with (first | (refine ldG lz rfl _ rfl rfl ?_) | (go_at_call 11; refine hFd.mono ?_; rintro e w6 ⟨v6, aq, cq, rfl, L6, G6⟩))
            have hD := sDone_any G6.out.sd
            clear hFd lz QY GY
            rcases hNx with ⟨hn3, hph⟩ | ⟨hfin, hrr⟩
            · rw [decide_eq_false hn3] at hD
              have HPH2 := hidOf2 hph
              have hble := hph.le
              rw [HN.out] at hble
              clear hph
              go_wp2_with (first | (go_at_call 16; refine hD.mono ?_; rintro e w7 ⟨rfl, n7, hw7⟩; rw [hw7]; clear hw7 w7))
              go_roundw
              case rel => exact ⟨nn + 1, res.2, rr, res.1, aq, cq, uu, by go_num, by omega, HPH2, hidOf2 (⟨G6.out.sd.drawn n7, G6.out.rv.drawn n7, bdr G6.out.old n7, G6.out.sw, G6.out.rw, G6.out.sb⟩ : Gw w S R res.2 aq cq rr uu (w6.drewN n7)), hidOf2 (L6.out.below (bdr (Below.refl _ _) n7))⟩
              case measure => simp [intOf]; omega
            · rw [hfin] at hD G6
              have hD2 : Calls Try.prog 16 #[.pointer (some ⟨S, 0, none⟩)] w6 fun e w' => e = .returned (.tuple #[.int .u32 0, .bool true]) ∧ ∃ n, w' = w6.drewN n := hD
              clear hD
              rw [hrr] at G6
              go_upto_region 26 with (first | (go_at_call 16; refine hD2.mono ?_; rintro e w7 ⟨rfl, n7, hw7⟩; rw [hw7]; clear hw7 w7))
              have hRD := rDone_any (G6.out.rv.drawn n7) rfl
              have HO7 : Hid (Below w.heap.size w (w6.drewN n7)) := bdr G6.out.old n7
              generalize w6.drewN n7 = w7 at *
              clear hD2 G6 L6
              have hRD2 : Calls Try.prog 22 #[.pointer (some ⟨R, 0, none⟩)] w7 fun e w' => ∃ ag cg, e = .returned (.tuple #[.slice ag n cg, .int .u32 0, .bool true]) ∧ Hid (Bytes w' (.slice ag n cg) l) ∧ Hid (Below w.heap.size w w') := hRD.mono fun e w' hp => by
                obtain ⟨g8, he, ho, hb8⟩ := hp
                obtain ⟨ag, cg, hg8⟩ := own_shape5 ho
                subst hg8
                have hby := bytes_of_own ho
                rw [show (Rc.fin 0 l).bs = l from rfl, HN.out] at hby he
                exact ⟨ag, cg, he, hby, HO7.out.trans (hb8.mono HO7.out.size)⟩
              clear hRD
              go_upto_region 27 with (first | (go_at_call 22; refine hRD2.mono ?_; rintro e w8 ⟨ag, cg, rfl, HBg, HB8⟩))
              have t1 : (convert 22 9 (.slice ag n cg)).run Try.prog w8 = .ok (.string ⟨l.toArray⟩) w8 := Bytes.text HBg.out
              have t2 : (convert 22 9 (.slice av n cv)).run Try.prog w8 = .ok (.string ⟨l.toArray⟩) w8 := Bytes.text (HBY.out w8 HB8.out)
              have hV := HLV.out w8
              clear hRD2
              go_wp2_with (first | (go_at_call 10; refine hV.mono ?_; rintro e w9 ⟨rfl, b9⟩))
              go_ret
              exact ⟨rfl, HB8.out.trans (b9.mono HB8.out.size)⟩
        | false =>
          obtain ⟨a1, rr, hask, hrok, hNx0⟩ : ∃ a' r', rAsk r2 = (some a', r') ∧ r'.Ok ∧ Ns l nn (sFeed s (set2 a' t)) r' := by
            rcases HJE.out with ⟨h5, _⟩ | ⟨_, h5⟩
            · cases h5
            · exact h5
          have hAk : Calls Try.prog 20 #[.pointer (some ⟨R, 0, none⟩)] wr fun e w' => e = .returned (.tuple #[.agg a1.arr, .bool true]) ∧ Hid (Qb z a2 w') ∧ Hid (∀ Z, Z = w'.setRow z a1.arr → ∃ uu, Gw w S R s ao cp rr uu Z ∧ Qb z a1 Z) := (rAsk_any GW.rv).mono fun e w' hp => by
            rw [hask] at hp
            obtain ⟨u3, G3, k3⟩ := GW.recv hp
            have z3 := QW.recv GW.rv k3
            refine ⟨hp.1, z3, fun Z hZ => ?_⟩
            subst hZ
            exact ⟨u3, G3.frame z3 HZW.out (Kp.setRow1 _ _ _) (fun b hb => by have := (GW.sb b hb).1; have := HZS.out; omega), z3.row a1⟩
          clear HJE GW QW HG HZ hask
          go_upto_region 21 with (first | (go_at_call 20; refine hAk.mono ?_; rintro e w3 ⟨rfl, hz3, H3⟩; have z3 := hz3.out) | (refine sdF (g := a1) z3 rfl _ _ rfl rfl rfl ?_))
          change Code.wp Try.prog _ _ _ (w3.setRow z a1.arr)
          obtain ⟨Y1, hZ⟩ : ∃ Z, w3.setRow z a1.arr = Z := ⟨_, rfl⟩
          rw [hZ]
          obtain ⟨uu, G1, Q1⟩ := H3.out Y1 hZ.symm
          clear hZ H3 hz3 z3 hAk
          have x0 := Q1.c0
          by_cases h162 : a1.b0.toNat = 162
          · have d162 : ((a1.b0.toNat : Int) == 162) = true := by simp; omega
            have x2 := Q1.c2
            have fz : Y1.frozen? ⟨z, 2, none⟩ = false := Lib.frozen_of_heap Q1 2
            obtain ⟨aa, haa⟩ : ∃ f, set2 a1 t = f := ⟨_, rfl⟩
            have HY : Hid (∀ Z, Z = Y1.setCell ⟨z, 2, none⟩ (.int .u8 (t : Int)) → Gw w S R s ao cp rr uu Z ∧ Qb z aa Z) := fun Z hZ => by
              subst hZ
              refine ⟨G1.frame Q1 HZW.out (Kp.cell1 _ _ _ _) (fun b hb => by have := (G1.sb b hb).1; have := HZS.out; omega), ?_⟩
              have := Q1.set2 (.ofNat t)
              rw [un t (by omega)] at this
              rw [← haa]
              unfold set2
              rw [if_pos h162]
              exact this
            have hNx := hNx0
            rw [haa] at hNx
            clear hNx0 haa G1 Q1
            go_upto_region 23 with fail
            obtain ⟨YY, hZ⟩ : ∃ Z, Y1.setCell ⟨z, 2, none⟩ (.int .u8 (t : Int)) = Z := ⟨_, rfl⟩
            rw [hZ]
            obtain ⟨GY, QY⟩ := HY.out YY hZ.symm
            clear HY hZ x0 x2 fz h162 d162
            obtain ⟨res, hres⟩ : ∃ q, sFeed s aa = q := ⟨_, rfl⟩
            have HFd : Hid (∀ y, Gw w S R s ao cp rr uu y → Qb z aa y → Calls Try.prog 11 #[.pointer (some ⟨S, 0, none⟩), .agg aa.arr] y fun e w' => ∃ v aq cq, e = .returned v ∧ Hid (Lf 0 w' v res.1) ∧ Hid (Gw w S R res.2 aq cq rr uu w')) := fun y hG hq => (sFeed_any hG.sd HSOK.out aa).mono fun e w' hp => by
              obtain ⟨v, aq, cq, he, hl', hG', _⟩ := hG.send hp
              rw [hres] at hl' hG'
              exact ⟨v, aq, cq, he, hl'.low (Nat.zero_le _), hG'⟩
            rw [hres] at hNx
            have hFd := HFd.out YY GY QY
            have lz := QY.load
            clear HFd hres
            go_upto_region 24 with (first | (refine ldG lz rfl _ rfl rfl ?_) | (go_at_call 11; refine hFd.mono ?_; rintro e w6 ⟨v6, aq, cq, rfl, L6, G6⟩))
            have hD := sDone_any G6.out.sd
            clear hFd lz QY GY
            rcases hNx with ⟨hn3, hph⟩ | ⟨hfin, hrr⟩
            · rw [decide_eq_false hn3] at hD
              have HPH2 := hidOf2 hph
              have hble := hph.le
              rw [HN.out] at hble
              clear hph
              go_wp2_with (first | (go_at_call 16; refine hD.mono ?_; rintro e w7 ⟨rfl, n7, hw7⟩; rw [hw7]; clear hw7 w7))
              go_roundw
              case rel => exact ⟨nn + 1, res.2, rr, res.1, aq, cq, uu, by go_num, by omega, HPH2, hidOf2 (⟨G6.out.sd.drawn n7, G6.out.rv.drawn n7, bdr G6.out.old n7, G6.out.sw, G6.out.rw, G6.out.sb⟩ : Gw w S R res.2 aq cq rr uu (w6.drewN n7)), hidOf2 (L6.out.below (bdr (Below.refl _ _) n7))⟩
              case measure => simp [intOf]; omega
            · rw [hfin] at hD G6
              have hD2 : Calls Try.prog 16 #[.pointer (some ⟨S, 0, none⟩)] w6 fun e w' => e = .returned (.tuple #[.int .u32 0, .bool true]) ∧ ∃ n, w' = w6.drewN n := hD
              clear hD
              rw [hrr] at G6
              go_upto_region 26 with (first | (go_at_call 16; refine hD2.mono ?_; rintro e w7 ⟨rfl, n7, hw7⟩; rw [hw7]; clear hw7 w7))
              have hRD := rDone_any (G6.out.rv.drawn n7) rfl
              have HO7 : Hid (Below w.heap.size w (w6.drewN n7)) := bdr G6.out.old n7
              generalize w6.drewN n7 = w7 at *
              clear hD2 G6 L6
              have hRD2 : Calls Try.prog 22 #[.pointer (some ⟨R, 0, none⟩)] w7 fun e w' => ∃ ag cg, e = .returned (.tuple #[.slice ag n cg, .int .u32 0, .bool true]) ∧ Hid (Bytes w' (.slice ag n cg) l) ∧ Hid (Below w.heap.size w w') := hRD.mono fun e w' hp => by
                obtain ⟨g8, he, ho, hb8⟩ := hp
                obtain ⟨ag, cg, hg8⟩ := own_shape5 ho
                subst hg8
                have hby := bytes_of_own ho
                rw [show (Rc.fin 0 l).bs = l from rfl, HN.out] at hby he
                exact ⟨ag, cg, he, hby, HO7.out.trans (hb8.mono HO7.out.size)⟩
              clear hRD
              go_upto_region 27 with (first | (go_at_call 22; refine hRD2.mono ?_; rintro e w8 ⟨ag, cg, rfl, HBg, HB8⟩))
              have t1 : (convert 22 9 (.slice ag n cg)).run Try.prog w8 = .ok (.string ⟨l.toArray⟩) w8 := Bytes.text HBg.out
              have t2 : (convert 22 9 (.slice av n cv)).run Try.prog w8 = .ok (.string ⟨l.toArray⟩) w8 := Bytes.text (HBY.out w8 HB8.out)
              have hV := HLV.out w8
              clear hRD2
              go_wp2_with (first | (go_at_call 10; refine hV.mono ?_; rintro e w9 ⟨rfl, b9⟩))
              go_ret
              exact ⟨rfl, HB8.out.trans (b9.mono HB8.out.size)⟩
          · have d162 : ((a1.b0.toNat : Int) == 162) = false := by simp; omega
            have haa : set2 a1 t = a1 := by unfold set2; rw [if_neg h162]
            have hNx := hNx0
            rw [haa] at hNx
            clear hNx0 haa
            go_upto_region 23 with fail
            obtain ⟨aa, rfl⟩ : ∃ f, f = a1 := ⟨_, rfl⟩
            obtain ⟨YY, rfl⟩ : ∃ f, f = Y1 := ⟨_, rfl⟩
            have GY := G1
            have QY := Q1
            clear G1 Q1
            clear x0 h162 d162
            obtain ⟨res, hres⟩ : ∃ q, sFeed s aa = q := ⟨_, rfl⟩
            have HFd : Hid (∀ y, Gw w S R s ao cp rr uu y → Qb z aa y → Calls Try.prog 11 #[.pointer (some ⟨S, 0, none⟩), .agg aa.arr] y fun e w' => ∃ v aq cq, e = .returned v ∧ Hid (Lf 0 w' v res.1) ∧ Hid (Gw w S R res.2 aq cq rr uu w')) := fun y hG hq => (sFeed_any hG.sd HSOK.out aa).mono fun e w' hp => by
              obtain ⟨v, aq, cq, he, hl', hG', _⟩ := hG.send hp
              rw [hres] at hl' hG'
              exact ⟨v, aq, cq, he, hl'.low (Nat.zero_le _), hG'⟩
            rw [hres] at hNx
            have hFd := HFd.out YY GY QY
            have lz := QY.load
            clear HFd hres
            go_upto_region 24 with (first | (refine ldG lz rfl _ rfl rfl ?_) | (go_at_call 11; refine hFd.mono ?_; rintro e w6 ⟨v6, aq, cq, rfl, L6, G6⟩))
            have hD := sDone_any G6.out.sd
            clear hFd lz QY GY
            rcases hNx with ⟨hn3, hph⟩ | ⟨hfin, hrr⟩
            · rw [decide_eq_false hn3] at hD
              have HPH2 := hidOf2 hph
              have hble := hph.le
              rw [HN.out] at hble
              clear hph
              go_wp2_with (first | (go_at_call 16; refine hD.mono ?_; rintro e w7 ⟨rfl, n7, hw7⟩; rw [hw7]; clear hw7 w7))
              go_roundw
              case rel => exact ⟨nn + 1, res.2, rr, res.1, aq, cq, uu, by go_num, by omega, HPH2, hidOf2 (⟨G6.out.sd.drawn n7, G6.out.rv.drawn n7, bdr G6.out.old n7, G6.out.sw, G6.out.rw, G6.out.sb⟩ : Gw w S R res.2 aq cq rr uu (w6.drewN n7)), hidOf2 (L6.out.below (bdr (Below.refl _ _) n7))⟩
              case measure => simp [intOf]; omega
            · rw [hfin] at hD G6
              have hD2 : Calls Try.prog 16 #[.pointer (some ⟨S, 0, none⟩)] w6 fun e w' => e = .returned (.tuple #[.int .u32 0, .bool true]) ∧ ∃ n, w' = w6.drewN n := hD
              clear hD
              rw [hrr] at G6
              go_upto_region 26 with (first | (go_at_call 16; refine hD2.mono ?_; rintro e w7 ⟨rfl, n7, hw7⟩; rw [hw7]; clear hw7 w7))
              have hRD := rDone_any (G6.out.rv.drawn n7) rfl
              have HO7 : Hid (Below w.heap.size w (w6.drewN n7)) := bdr G6.out.old n7
              generalize w6.drewN n7 = w7 at *
              clear hD2 G6 L6
              have hRD2 : Calls Try.prog 22 #[.pointer (some ⟨R, 0, none⟩)] w7 fun e w' => ∃ ag cg, e = .returned (.tuple #[.slice ag n cg, .int .u32 0, .bool true]) ∧ Hid (Bytes w' (.slice ag n cg) l) ∧ Hid (Below w.heap.size w w') := hRD.mono fun e w' hp => by
                obtain ⟨g8, he, ho, hb8⟩ := hp
                obtain ⟨ag, cg, hg8⟩ := own_shape5 ho
                subst hg8
                have hby := bytes_of_own ho
                rw [show (Rc.fin 0 l).bs = l from rfl, HN.out] at hby he
                exact ⟨ag, cg, he, hby, HO7.out.trans (hb8.mono HO7.out.size)⟩
              clear hRD
              go_upto_region 27 with (first | (go_at_call 22; refine hRD2.mono ?_; rintro e w8 ⟨ag, cg, rfl, HBg, HB8⟩))
              have t1 : (convert 22 9 (.slice ag n cg)).run Try.prog w8 = .ok (.string ⟨l.toArray⟩) w8 := Bytes.text HBg.out
              have t2 : (convert 22 9 (.slice av n cv)).run Try.prog w8 = .ok (.string ⟨l.toArray⟩) w8 := Bytes.text (HBY.out w8 HB8.out)
              have hV := HLV.out w8
              clear hRD2
              go_wp2_with (first | (go_at_call 10; refine hV.mono ?_; rintro e w9 ⟨rfl, b9⟩))
              go_ret
              exact ⟨rfl, HB8.out.trans (b9.mono HB8.out.size)⟩
end Go.Proofs.Ytmccfdjdplnhhaa
