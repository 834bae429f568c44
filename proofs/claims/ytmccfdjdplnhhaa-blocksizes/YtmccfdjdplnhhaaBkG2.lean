/- goes: a sender and a receiver go on, where frames are lost. -/
import Derived.Test.YtmccfdjdplnhhaaBkG1
import Derived.Test.YtmccfdjdplnhhaaBkL1
import Derived.Test.YtmccfdjdplnhhaaBkOp
namespace Go.Proofs.Ytmccfdjdplnhhaa
open Go.RowKit Go.Proofs.Ty Go.Proofs.Bits
set_option linter.unusedVariables false
set_option maxRecDepth 1000000
set_option linter.unusedSimpArgs false
theorem exec_conv {a : Act} {o : Oper} {x : Operand} {t u : TypeId} {v r : Value} {w : World} (ho : o.op = .convert t u x) (hx : a.eval x = v) (hr : (convert t u v).run Try.prog w = .ok r w) : (execOp a.eval o).run Try.prog w = .ok (.value r) w := by
  unfold execOp
  simp only [ho, hx, Sem.run_bind, hr, Result.andThen_ok, Sem.run_pure]
theorem ldRow {w : World} {ops : Array Oper} {rest : List Oper} {p : Oper} {a : Act} {Q : Exit → Act → World → Prop} {b o : Nat} {f : F8} (h : w.rangeAt b o f.c) (hgd : Region.wanted p (yielded ops a.tmps) = true) (x : Operand) (ho : p.op = .load 30 x) (hx : a.eval x = .pointer (some ⟨b, o, none⟩))
    (hh : wpList Try.prog ops Q rest (a.put p.dst (.agg f.arr)) w) : wpList Try.prog ops Q (p :: rest) a w := ldG (load_mid8 h) hgd x ho hx hh
set_option maxHeartbeats 16000000 in
theorem goes_any (v : Value) (l : List UInt8) (w : World) (hB : Bytes w v l) (hl : l.length ≤ 3000) (size : Nat) (h1 : 1 ≤ size) (h2 : size ≤ 127) (vo : Value) (lo : List Bool) (hlo : Wide 1 boC w vo lo) (hll : lo.length ≤ 140737488351232) :
    Calls Try.prog 23 #[v, .int .i64 (size : Int), vo] w fun e w' => ∃ k : Nat, e = .returned (.tuple #[.int .i64 (k : Int), .bool true]) ∧ k ≤ segs l.length ∧ Below w.heap.size w w' := by
  have hN := NewSender_any v l w hB (by omega)
  have hsg := segs_le l.length
  have HB := hidOf2 hB
  have HLO : Hid (∀ y, Below w.heap.size w y → Wide 1 boC y vo lo) := fun y hy => hlo.same hy.size (fun b _ hb => hy.block b hb)
  have HBY : Hid (∀ y, Below w.heap.size w y → Bytes y v l) := fun y hy => hB.below hy
  obtain ⟨al, cl, hvo⟩ := hlo.shape
  obtain ⟨nl, hnl⟩ : ∃ n, lo.length = n := ⟨_, rfl⟩
  have HNL := hidOf2 hnl
  rw [hnl] at hvo hll
  subst hvo
  obtain ⟨av, cv, hv, _, _⟩ := hB
  obtain ⟨n, hn⟩ : ∃ n, l.length = n := ⟨_, rfl⟩
  have HN := hidOf2 hn
  rw [hn] at hv hl hsg
  subst hv
  clear hlo hnl
  have HGS : Hid (∀ k, k ≤ segs n → k ≤ segs l.length) := fun k hk => by rw [HN.out]; exact hk
  go_enter Try.func23, Try.ntmps23
  go_upto_region 2 with (first | (go_at_call 9; refine hN.mono ?_; rintro e w3 ⟨S, aS, cS, rfl, s3, hS3, hb3, b3⟩))
  have hR := NewReceiver_any size h1 h2 w3
  have HS3 := hidOf2 s3
  have HSw := hidOf2 hS3
  have HB3 := hidOf2 b3
  have Hb3 := hidOf2 hb3
  clear hN s3 hS3 b3 hb3
  go_upto_region 3 with (first | (go_at_call 17; refine hR.mono ?_; rintro e w4 ⟨rfl, r4, b4⟩))
  obtain ⟨R, hR4⟩ : ∃ R, w3.heap.size = R := ⟨_, rfl⟩
  rw [hR4] at r4
  have G4 : Gw w S R (Sn.new l) aS cS (Rc.new size) (.slice none 0 0) w4 := ⟨HS3.out.below b4, r4, HB3.out.trans (b4.mono HB3.out.size), HSw.out, fun b hb => by simp [rB, Value.ownBlock] at hb; rw [hb, ← hR4]; exact HB3.out.size, fun b hb => by
    obtain ⟨h5, h6⟩ := Hb3.out b hb
    refine ⟨h6, ?_⟩
    have := HS3.out.lt
    simp [rB, Value.ownBlock]
    omega⟩
  have hBg := sBegin_any (t := Sn.new l) G4.sd size h1 h2
  have HG4 := hidOf2 G4
  clear hR r4 b4 HS3 HSw HB3 Hb3 G4
  go_upto_region 6 with (first | (go_at_call 12; refine hBg.mono ?_; rintro e w5 ⟨v5, rfl, l5, s5, k5⟩))
  obtain ⟨v6, a6, c6, he6, l6, G6, k6⟩ := HG4.out.send (res := (blkF l 0 size, (Sn.new l).beg size)) (e := .returned v5) (y := w5) ⟨v5, aS, cS, rfl, l5, s5, k5, .inl ⟨rfl, rfl⟩⟩
  have hP0 : Ph l size 1 ((Sn.new l).beg size) (Rc.new size) (blkF l 0 size) := by
    refine .inl ⟨0, segs_pos _, by omega, rfl, ?_, rfl⟩
    unfold rJ
    have := segs_pos l.length
    rw [if_neg (by omega), if_neg (by omega)]
    simp [Rc.new]
  have HG6 := hidOf2 G6
  have HP0 := hidOf2 hP0
  have HL6 := hidOf2 (l5.low (Nat.zero_le _))
  have hsl : segs n ≤ 430 := by omega
  clear hBg l5 s5 k5 l6 G6 k6 he6 HG4 hP0
  go_upto_region 8 with fail
  go_loopw [12, 14, 15] (fun lv nv bv wr => ∃ (bk nn : Nat) (s : Sn) (r : Rc) (L : List F8) (ao : Option Addr) (cp : Nat) (u : Value), nv = .int .i64 nn ∧ bv = .int .i64 bk ∧ 1 ≤ bk ∧ bk ≤ 431 ∧ nn ≤ 127 * bk ∧ Hid (Ph l size bk s r L) ∧ Hid (Gw w S R s ao cp r u wr) ∧ Hid (Lf 0 wr lv L)) (fun _ _ bv _ => 12000 - (intOf bv).toNat)
  case atStart => exact ⟨1, 0, _, _, _, _, _, _, rfl, rfl, by omega, by omega, by omega, HP0, HG6, HL6⟩
  case round =>
    obtain ⟨bk, nn, s, r, L, ao, cp, u, rfl, rfl, hbk1, hbk2, hnn, HPH, HGW, HLF⟩ := hrel
    clear HP0 HG6 HL6
    have hl6 : l.length ≤ 65536 := by rw [HN.out]; omega
    obtain ⟨J, hJok, hJ0, hJf, hJs, hJe⟩ := HPH.out.run hl6 h1 h2
    obtain ⟨hL1, hL2⟩ := HPH.out.len h1 h2
    have HSOK := hidOf2 (HPH.out.sok hl6 h2)
    have hbkN := HPH.out.le
    rw [HN.out] at hbkN
    have HJok := hidOf2 hJok
    have HJf := hidOf2 hJf
    have HJs := hidOf2 hJs
    have HJe := hidOf2 hJe
    have HJ0 := hidOf2 hJ0
    obtain ⟨al2, cl2, hlv⟩ := HLF.out.1.wide.shape
    obtain ⟨m, hm⟩ : ∃ m, L.length = m := ⟨_, rfl⟩
    have HM := hidOf2 hm
    rw [hm] at hlv hL1 hL2
    subst hlv
    obtain ⟨z, hz⟩ : ∃ z, wr.heap.size = z := ⟨_, rfl⟩
    have z0 : Qb z F8.nul (wr.alloc (.cells zA8 30)) := by rw [← hz]; exact heap_alloc_new wr _
    have b0 : Below wr.heap.size wr (wr.alloc (.cells zA8 30)) := (Below.refl _ _).alloc (Nat.le_refl _) _
    have HX : Hid (∀ X, X = (wr.alloc (.cells zA8 30)).setRow z F8.nul.arr → Qb z F8.nul X ∧ Below wr.heap.size wr X) := fun X hX => by
      subst hX
      exact ⟨z0.row F8.nul, below_row b0 (by omega) (by rw [size_alloc]; omega) _⟩
    have HZW : Hid (w.heap.size ≤ z) := by show _ ≤ _; rw [← hz]; exact HGW.out.old.size
    have HZL : Hid (∀ b, (Value.slice al2 m cl2).ownBlock = some b → b ≠ z) := fun b hb => by
      obtain ⟨A, fr, h5⟩ := HLF.out.1.typ b hb
      have := (Array.getElem?_eq_some_iff.1 h5).1
      omega
    have HZS : Hid (S < z) := by show _ < _; rw [← hz]; exact HGW.out.sd.lt
    have hd : decide ((bk : Int) < 12000) = true := by simp; omega
    clear hJok hJf hJs hJe hJ0 b0 hm
    go_upto_region 11 with (first | (refine sdF (g := F8.nul) z0 rfl _ _ rfl rfl rfl ?_))
    change Code.wp Try.prog _ _ _ ((wr.alloc (.cells zA8 30)).setRow z F8.nul.arr)
    obtain ⟨X, hX⟩ : ∃ X, (wr.alloc (.cells zA8 30)).setRow z F8.nul.arr = X := ⟨_, rfl⟩
    rw [hX]
    obtain ⟨zX, bX⟩ := HX.out X hX.symm
    have HZX := hidOf2 zX
    have HGX := hidOf2 (HGW.out.below bX)
    have HLX := hidOf2 (HLF.out.below bX)
    clear HX hX zX bX z0 HGW HLF
    go_upto_region 12 with fail
    go_loopw [14, 17, 18] (fun nv iv kv wq => ∃ (i n2 : Nat) (r2 : Rc) (b2 : Bool) (a2 : F8) (u2 : Value), kv = .int .i64 i ∧ nv = .int .i64 n2 ∧ iv = .bool b2 ∧ i ≤ m ∧ n2 ≤ 127 * bk + i ∧ Hid (J i r2 b2 a2) ∧ Hid (Qb z a2 wq) ∧ Hid (Gw w S R s ao cp r2 u2 wq) ∧ Hid (Lf 0 wq (.slice al2 m cl2) L)) (fun _ _ kv _ => m - (intOf kv).toNat)
    case atStart => exact ⟨0, nn, r, false, F8.nul, u, rfl, rfl, rfl, by omega, by omega, HJ0, HZX, HGX, HLX⟩
    case round =>
      obtain ⟨i, n2, r2, b2, a2, u2, rfl, rfl, rfl, him, hn2, HJ, HZ, HG, HL⟩ := hrel
      clear HJ0 HZX HGX HLX
      by_cases hi : i < m
      · have hrF := rFeed_any HG.out.rv (HJok.out _ _ _ _ HJ.out) (L[i]'(by rw [HM.out]; exact hi))
        obtain ⟨bb, ob, capb, hlvb, _, hrg⟩ := HL.out.1.wide.at0 i (by rw [HM.out]; exact hi)
        injection hlvb with hal2 hx1 hx2
        clear hx1 hx2
        subst hal2
        have hFd : Calls Try.prog 18 #[.pointer (some ⟨R, 0, none⟩), .agg (L[i]'(by rw [HM.out]; exact hi)).arr] wr fun e w' => ∃ (ga : F8) (gb : Bool), e = .returned (.tuple #[.agg ga.arr, .bool gb]) ∧ Hid (Qb z a2 w') ∧ Hid (∀ Z, Z = w'.setRow z ga.arr → ∃ u3 r3, J (i + 1) r3 gb ga ∧ Qb z ga Z ∧ Gw w S R s ao cp r3 u3 Z ∧ Lf 0 Z (.slice (some ⟨bb, ob, none⟩) m cl2) L) := hrF.mono fun e w' hp => by
          obtain ⟨u3, G3, k3⟩ := HG.out.recv hp
          refine ⟨_, _, hp.1, HZ.out.recv HG.out.rv k3, fun Z hZ => ?_⟩
          subst hZ
          have z3 := HZ.out.recv HG.out.rv k3
          refine ⟨u3, _, HJf.out i (by rw [HM.out]; exact hi) _ _ _ HJ.out, z3.row _, G3.frame z3 HZW.out (Kp.setRow1 _ _ _) (fun b hb => by have := (HG.out.sb b hb).1; have := HZS.out; omega), (HL.out.recv HG.out.rv k3).kept (Kp.setRow1 _ _ _) (fun e => HZL.out z e rfl)⟩
        have HSK : Hid (0 < i → J (i + 1) r2 b2 a2) := fun h0 => HJs.out i h0 (by rw [HM.out]; exact hi) _ _ _ HJ.out
        generalize (L[i]'(by rw [HM.out]; exact hi)) = fi at *
        clear hrF
        have hlst : ∀ k, k < nl → ∃ b off, al = some ⟨b, off, none⟩ ∧ ∃ x : Bool, wr.cell? ⟨b, off + k, none⟩ = some (.bool x) := fun k hk => by
          obtain ⟨b, off, cap, he, _, hr⟩ := (HLO.out wr HG.out.old).at0 k (by rw [HNL.out]; exact hk)
          injection he with he
          refine ⟨b, off, he, lo[k]'(by rw [HNL.out]; exact hk), ?_⟩
          have := hr 0 _ rfl
          simpa using this
        have HLST := hidOf2 hlst
        clear hlst
        by_cases h0 : 0 < i
        · have d0 : decide ((0 : Int) < (i : Int)) = true := by simp; omega
          by_cases h3 : 0 < nl
          · have d3 : decide ((0 : Int) < (nl : Int)) = true := by simp; omega
            obtain ⟨km, hkm⟩ : ∃ k, (n2 + 1) % nl = k := ⟨_, rfl⟩
            have hkl : km < nl := by rw [← hkm]; exact Nat.mod_lt _ h3
            have hkI : ((n2 : Int) + 1) % (nl : Int) = (km : Int) := by rw [← hkm]; simp
            obtain ⟨b, off, hal, xb, hc⟩ := HLST.out km hkl
            subst hal
            clear hkm
            cases xb with
            | true =>
              go_wp2
              go_roundw
              case rel => exact ⟨i + 1, n2 + 1, r2, b2, a2, u2, by go_num, by go_num, rfl, by omega, by omega, HSK.out h0, HZ, HG, HL⟩
              case measure => simp [intOf]; omega
            | false =>
              go_wp2_with (first | (refine ldRow hrg rfl _ rfl rfl ?_) | (go_at_call 18; refine hFd.mono ?_; rintro e w3 ⟨ga, gb, rfl, hz3, H3⟩; have z3 := hz3.out; clear hrg hFd hz3) | (refine sdF (g := ga) z3 rfl _ _ rfl rfl rfl ?_; obtain ⟨u3, r3, J3, q3, G3, L3⟩ := H3.out _ rfl; have HJ3 := hidOf2 J3; have HQ3 := hidOf2 q3; have HG3 := hidOf2 G3; have HL3 := hidOf2 L3; clear J3 q3 G3 L3 H3 z3; generalize w3.setRow z ga.arr = Z at *))
              go_roundw
              case rel => exact ⟨i + 1, n2 + 1, r3, gb, ga, u3, by go_num, by go_num, rfl, by omega, by omega, HJ3, HQ3, HG3, HL3⟩
              case measure => simp [intOf]; omega
          · have d3 : decide ((0 : Int) < (nl : Int)) = false := by simp; omega
            go_wp2_with (first | (refine ldRow hrg rfl _ rfl rfl ?_) | (go_at_call 18; refine hFd.mono ?_; rintro e w3 ⟨ga, gb, rfl, hz3, H3⟩; have z3 := hz3.out; clear hrg hFd hz3) | (refine sdF (g := ga) z3 rfl _ _ rfl rfl rfl ?_; obtain ⟨u3, r3, J3, q3, G3, L3⟩ := H3.out _ rfl; have HJ3 := hidOf2 J3; have HQ3 := hidOf2 q3; have HG3 := hidOf2 G3; have HL3 := hidOf2 L3; clear J3 q3 G3 L3 H3 z3; generalize w3.setRow z ga.arr = Z at *))
            go_roundw
            case rel => exact ⟨i + 1, n2 + 1, r3, gb, ga, u3, by go_num, by go_num, rfl, by omega, by omega, HJ3, HQ3, HG3, HL3⟩
            case measure => simp [intOf]; omega
        · have d0 : decide ((0 : Int) < (i : Int)) = false := by simp; omega
          go_wp2_with (first | (refine ldRow hrg rfl _ rfl rfl ?_) | (go_at_call 18; refine hFd.mono ?_; rintro e w3 ⟨ga, gb, rfl, hz3, H3⟩; have z3 := hz3.out; clear hrg hFd hz3) | (refine sdF (g := ga) z3 rfl _ _ rfl rfl rfl ?_; obtain ⟨u3, r3, J3, q3, G3, L3⟩ := H3.out _ rfl; have HJ3 := hidOf2 J3; have HQ3 := hidOf2 q3; have HG3 := hidOf2 G3; have HL3 := hidOf2 L3; clear J3 q3 G3 L3 H3 z3; generalize w3.setRow z ga.arr = Z at *))
          go_roundw
          case rel => exact ⟨i + 1, n2 + 1, r3, gb, ga, u3, by go_num, by go_num, rfl, by omega, by omega, HJ3, HQ3, HG3, HL3⟩
          case measure => simp [intOf]; omega
      · obtain rfl : i = m := by omega
        have hJE := HJe.out r2 b2 a2 (by rw [HM.out]; exact HJ.out)
        have GW := HG.out
        have QW := HZ.out
        have HJE := hidOf2 hJE
        clear hJE HJ HL HJe HJf HJs HJok HZL
        cases b2 with
        | true =>
          have hNx : Nx l size bk (sFeed s a2) r2 := by
            rcases HJE.out with ⟨_, h5⟩ | ⟨h5, _⟩
            · exact h5
            · cases h5
          obtain ⟨aa, haa⟩ : ∃ a, a2 = a := ⟨_, rfl⟩
          obtain ⟨rr, hr0⟩ : ∃ a, r2 = a := ⟨_, rfl⟩
          obtain ⟨uu, hu0⟩ : ∃ a, u2 = a := ⟨_, rfl⟩
          obtain ⟨YY, hYY⟩ : ∃ a, wr = a := ⟨_, rfl⟩
          have GY : Gw w S R s ao cp rr uu YY := by rw [← hr0, ← hu0, ← hYY]; exact GW
          have QY : Qb z aa YY := by rw [← haa, ← hYY]; exact QW
          rw [haa, hr0] at hNx
          clear HJE GW QW HG HZ
          go_upto_region 21 with fail
          try rw [hYY]
          obtain ⟨res, hres⟩ : ∃ q, sFeed s aa = q := ⟨_, rfl⟩
          have HFd : Hid (∀ y, Gw w S R s ao cp rr uu y → Qb z aa y → Calls Try.prog 11 #[.pointer (some ⟨S, 0, none⟩), .agg aa.arr] y fun e w' => ∃ v aq cq, e = .returned v ∧ Hid (Lf 0 w' v res.1) ∧ Hid (Gw w S R res.2 aq cq rr uu w')) := fun y hG hq => (sFeed_any hG.sd HSOK.out aa).mono fun e w' hp => by
            obtain ⟨v, aq, cq, he, hl', hG', _⟩ := hG.send hp
            rw [hres] at hl' hG'
            exact ⟨v, aq, cq, he, hl'.low (Nat.zero_le _), hG'⟩
          rw [hres] at hNx
          have hFd := HFd.out YY GY QY
          have lz := QY.load
          clear HFd hres
          go_upto_region 22 with (first | (refine ldG lz rfl _ rfl rfl ?_) | (go_at_call 11; refine hFd.mono ?_; rintro e w6 ⟨v6, aq, cq, rfl, L6, G6⟩))
          have hD := sDone_any G6.out.sd
          clear hFd lz QY GY
          rcases hNx with ⟨hn3, hph⟩ | ⟨hfin, hrr, hbb⟩
          · rw [decide_eq_false hn3] at hD
            have HPH2 := hidOf2 hph
            have hble := hph.le
            rw [HN.out] at hble
            clear hph
            go_wp2_with (first | (go_at_call 16; refine hD.mono ?_; rintro e w7 ⟨rfl, n7, hw7⟩; rw [hw7]; clear hw7 w7))
            go_roundw
            case rel => exact ⟨bk + 1, n2, res.2, rr, res.1, aq, cq, uu, rfl, by go_num, by omega, by omega, by omega, HPH2, hidOf2 (⟨G6.out.sd.drawn n7, G6.out.rv.drawn n7, bdr G6.out.old n7, G6.out.sw, G6.out.rw, G6.out.sb⟩ : Gw w S R res.2 aq cq rr uu (w6.drewN n7)), hidOf2 (L6.out.below (bdr (Below.refl _ _) n7))⟩
            case measure => simp [intOf]; omega
          · rw [hfin] at hD G6
            have hD2 : Calls Try.prog 16 #[.pointer (some ⟨S, 0, none⟩)] w6 fun e w' => e = .returned (.tuple #[.int .u32 0, .bool true]) ∧ ∃ n, w' = w6.drewN n := hD
            clear hD
            rw [hrr] at G6
            go_upto_region 24 with (first | (go_at_call 16; refine hD2.mono ?_; rintro e w7 ⟨rfl, n7, hw7⟩; rw [hw7]; clear hw7 w7))
            have hRD := rDone_any (G6.out.rv.drawn n7) rfl
            have HO7 : Hid (Below w.heap.size w (w6.drewN n7)) := bdr G6.out.old n7
            generalize w6.drewN n7 = w7 at *
            clear hD2 G6 L6
            have hRD2 : Calls Try.prog 22 #[.pointer (some ⟨R, 0, none⟩)] w7 fun e w' => ∃ ag cg, e = .returned (.tuple #[.slice ag n cg, .int .u32 0, .bool true]) ∧ Hid (Bytes w' (.slice ag n cg) l) ∧ Hid (Below w.heap.size w w') := hRD.mono fun e w' hp => by
              obtain ⟨g8, he, ho, hb8⟩ := hp
              obtain ⟨ag, cg, hg8⟩ := own_shape5 ho
              subst hg8
              have hby := bytes_of_own ho
              rw [show (Rc.fin 0 l).bs = l from rfl, HN.out] at hby he
              exact ⟨ag, cg, he, hby, HO7.out.trans (hb8.mono HO7.out.size)⟩
            clear hRD
            go_upto_region 25 with (first | (go_at_call 22; refine hRD2.mono ?_; rintro e w8 ⟨ag, cg, rfl, HBg, HB8⟩))
            have hv8 := HBY.out w8 HB8.out
            have t1 : ∀ k, (convert 22 9 (.slice ag n cg)).run Try.prog (w8.drewN k) = .ok (.string ⟨l.toArray⟩) (w8.drewN k) := fun k => Bytes.text (w := w8.drewN k) HBg.out
            have t2 : ∀ k, (convert 22 9 (.slice av n cv)).run Try.prog (w8.drewN k) = .ok (.string ⟨l.toArray⟩) (w8.drewN k) := fun k => Bytes.text (w := w8.drewN k) hv8
            have HOL := hidOf2 (fun k => bdr HB8.out k)
            clear hv8 hRD2
            go_quiet (fail)
            go_wp2
            go_ret2
            exact ⟨bk - 1, by rw [show ((bk - 1 : Nat) : Int) = (bk : Int) - 1 by omega]; first | rfl | (simp [Act.put]; done), HGS.out _ (by rw [HN.out] at hbb; omega), HOL.out nq⟩
        | false =>
          obtain ⟨aa, rr, hask, hrok, hNx⟩ : ∃ a' r', rAsk r2 = (some a', r') ∧ r'.Ok ∧ Nx l size bk (sFeed s a') r' := by
            rcases HJE.out with ⟨h5, _⟩ | ⟨_, h5⟩
            · cases h5
            · exact h5
          have hAk : Calls Try.prog 20 #[.pointer (some ⟨R, 0, none⟩)] wr fun e w' => e = .returned (.tuple #[.agg aa.arr, .bool true]) ∧ Hid (Qb z a2 w') ∧ Hid (∀ Z, Z = w'.setRow z aa.arr → ∃ uu, Gw w S R s ao cp rr uu Z ∧ Qb z aa Z) := (rAsk_any GW.rv).mono fun e w' hp => by
            rw [hask] at hp
            obtain ⟨u3, G3, k3⟩ := GW.recv hp
            have z3 := QW.recv GW.rv k3
            refine ⟨hp.1, z3, fun Z hZ => ?_⟩
            subst hZ
            exact ⟨u3, G3.frame z3 HZW.out (Kp.setRow1 _ _ _) (fun b hb => by have := (GW.sb b hb).1; have := HZS.out; omega), z3.row aa⟩
          clear HJE GW QW HG HZ hask
          go_upto_region 19 with (first | (go_at_call 20; refine hAk.mono ?_; rintro e w3 ⟨rfl, hz3, H3⟩; have z3 := hz3.out) | (refine sdF (g := aa) z3 rfl _ _ rfl rfl rfl ?_))
          change Code.wp Try.prog _ _ _ (w3.setRow z aa.arr)
          obtain ⟨YY, hZ⟩ : ∃ Z, w3.setRow z aa.arr = Z := ⟨_, rfl⟩
          rw [hZ]
          obtain ⟨uu, GY, QY⟩ := H3.out YY hZ.symm
          clear hZ H3 hz3 z3 hAk
          go_upto_region 21 with fail
          obtain ⟨res, hres⟩ : ∃ q, sFeed s aa = q := ⟨_, rfl⟩
          have HFd : Hid (∀ y, Gw w S R s ao cp rr uu y → Qb z aa y → Calls Try.prog 11 #[.pointer (some ⟨S, 0, none⟩), .agg aa.arr] y fun e w' => ∃ v aq cq, e = .returned v ∧ Hid (Lf 0 w' v res.1) ∧ Hid (Gw w S R res.2 aq cq rr uu w')) := fun y hG hq => (sFeed_any hG.sd HSOK.out aa).mono fun e w' hp => by
            obtain ⟨v, aq, cq, he, hl', hG', _⟩ := hG.send hp
            rw [hres] at hl' hG'
            exact ⟨v, aq, cq, he, hl'.low (Nat.zero_le _), hG'⟩
          rw [hres] at hNx
          have hFd := HFd.out YY GY QY
          have lz := QY.load
          clear HFd hres
          go_upto_region 22 with (first | (refine ldG lz rfl _ rfl rfl ?_) | (go_at_call 11; refine hFd.mono ?_; rintro e w6 ⟨v6, aq, cq, rfl, L6, G6⟩))
          have hD := sDone_any G6.out.sd
          clear hFd lz QY GY
          rcases hNx with ⟨hn3, hph⟩ | ⟨hfin, hrr, hbb⟩
          · rw [decide_eq_false hn3] at hD
            have HPH2 := hidOf2 hph
            have hble := hph.le
            rw [HN.out] at hble
            clear hph
            go_wp2_with (first | (go_at_call 16; refine hD.mono ?_; rintro e w7 ⟨rfl, n7, hw7⟩; rw [hw7]; clear hw7 w7))
            go_roundw
            case rel => exact ⟨bk + 1, n2, res.2, rr, res.1, aq, cq, uu, rfl, by go_num, by omega, by omega, by omega, HPH2, hidOf2 (⟨G6.out.sd.drawn n7, G6.out.rv.drawn n7, bdr G6.out.old n7, G6.out.sw, G6.out.rw, G6.out.sb⟩ : Gw w S R res.2 aq cq rr uu (w6.drewN n7)), hidOf2 (L6.out.below (bdr (Below.refl _ _) n7))⟩
            case measure => simp [intOf]; omega
          · rw [hfin] at hD G6
            have hD2 : Calls Try.prog 16 #[.pointer (some ⟨S, 0, none⟩)] w6 fun e w' => e = .returned (.tuple #[.int .u32 0, .bool true]) ∧ ∃ n, w' = w6.drewN n := hD
            clear hD
            rw [hrr] at G6
            go_upto_region 24 with (first | (go_at_call 16; refine hD2.mono ?_; rintro e w7 ⟨rfl, n7, hw7⟩; rw [hw7]; clear hw7 w7))
            have hRD := rDone_any (G6.out.rv.drawn n7) rfl
            have HO7 : Hid (Below w.heap.size w (w6.drewN n7)) := bdr G6.out.old n7
            generalize w6.drewN n7 = w7 at *
            clear hD2 G6 L6
            have hRD2 : Calls Try.prog 22 #[.pointer (some ⟨R, 0, none⟩)] w7 fun e w' => ∃ ag cg, e = .returned (.tuple #[.slice ag n cg, .int .u32 0, .bool true]) ∧ Hid (Bytes w' (.slice ag n cg) l) ∧ Hid (Below w.heap.size w w') := hRD.mono fun e w' hp => by
              obtain ⟨g8, he, ho, hb8⟩ := hp
              obtain ⟨ag, cg, hg8⟩ := own_shape5 ho
              subst hg8
              have hby := bytes_of_own ho
              rw [show (Rc.fin 0 l).bs = l from rfl, HN.out] at hby he
              exact ⟨ag, cg, he, hby, HO7.out.trans (hb8.mono HO7.out.size)⟩
            clear hRD
            go_upto_region 25 with (first | (go_at_call 22; refine hRD2.mono ?_; rintro e w8 ⟨ag, cg, rfl, HBg, HB8⟩))
            have hv8 := HBY.out w8 HB8.out
            have t1 : ∀ k, (convert 22 9 (.slice ag n cg)).run Try.prog (w8.drewN k) = .ok (.string ⟨l.toArray⟩) (w8.drewN k) := fun k => Bytes.text (w := w8.drewN k) HBg.out
            have t2 : ∀ k, (convert 22 9 (.slice av n cv)).run Try.prog (w8.drewN k) = .ok (.string ⟨l.toArray⟩) (w8.drewN k) := fun k => Bytes.text (w := w8.drewN k) hv8
            have HOL := hidOf2 (fun k => bdr HB8.out k)
            clear hv8 hRD2
            go_quiet (fail)
            go_wp2
            go_ret2
            exact ⟨bk - 1, by rw [show ((bk - 1 : Nat) : Int) = (bk : Int) - 1 by omega]; first | rfl | (simp [Act.put]; done), HGS.out _ (by rw [HN.out] at hbb; omega), HOL.out nq⟩
end Go.Proofs.Ytmccfdjdplnhhaa
