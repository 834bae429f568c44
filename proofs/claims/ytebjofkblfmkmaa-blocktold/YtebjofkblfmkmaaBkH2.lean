/- The document's sender: the next block. -/
import Derived.Test.YtebjofkblfmkmaaBkH1
import Derived.Test.YtebjofkblfmkmaaBkL0
namespace Go.Proofs.Ytebjofkblfmkmaa
open Go.RowKit Go.Proofs.Ty Go.Proofs.Bits
set_option linter.unusedVariables false
set_option maxRecDepth 1000000
set_option linter.unusedSimpArgs false
theorem Qb.setJ {z : Nat} {b : UInt8} {l : List UInt8} {w : World} (h : Qb z ((⟨b, 0, 0, 0, 0, 0, 0, 0⟩ : F8).put 1 l) w) (hl : l.length < 7) (x : UInt8) : Qb z ((⟨b, 0, 0, 0, 0, 0, 0, 0⟩ : F8).put 1 (l ++ [x])) (w.setCell ⟨z, 1 + l.length, none⟩ (.int .u8 (x.toNat : Int))) := by
  unfold Qb at *
  simp only [World.setCell, Array.getElem?_modify, h]
  match l, hl with
  | [], _ => rfl
  | [_], _ => rfl
  | [_, _], _ => rfl
  | [_, _, _], _ => rfl
  | [_, _, _, _], _ => rfl
  | [_, _, _, _, _], _ => rfl
  | [_, _, _, _, _, _], _ => rfl
theorem Qb.cJ {z : Nat} {f : F8} {w : World} (h : Qb z f w) (k : Nat) (hk : k < 8) : ∃ x, w.cell? ⟨z, k, none⟩ = some x := by
  rw [Lib.cell_of_heap h, Array.getElem?_eq_getElem (by rw [f.size]; exact hk)]
  exact ⟨_, rfl⟩
theorem put_b0 (b : UInt8) (l : List UInt8) : ((⟨b, 0, 0, 0, 0, 0, 0, 0⟩ : F8).put 1 l).b0 = b := rfl
theorem put_nil (b : UInt8) : (⟨b, 0, 0, 0, 0, 0, 0, 0⟩ : F8).put 1 [] = ⟨b, 0, 0, 0, 0, 0, 0, 0⟩ := rfl
theorem ap8 {w : World} {ops : Array Oper} {rest : List Oper} {o : Oper} {a : Act} {Q : Exit → Act → World → Prop} (hgd : Region.wanted o (yielded ops a.tmps) = true) (s x : Operand) (ho : o.op = .call { callee := .builtin .append, args := #[s, x], argTypes := #[23, 23] })
    (base : Nat) (v : Value) (xs : List F8) (hs : a.eval s = v) (hown : w.ownsRow base 30 8 v xs.length (flatW D8 xs))
    (vx : Value) (l : List F8) (hx : a.eval x = vx) (hB : Wide 8 F8.c w vx l) (h63 : xs.length + l.length ≤ 1000000) (hbase : base ≤ w.heap.size)
    (h : ∀ v' w', w'.ownsRow base 30 8 v' (xs ++ l).length (flatW D8 (xs ++ l)) → w.grownBy w' v.ownBlock → wpList Try.prog ops Q rest (a.put o.dst v') w') : wpList Try.prog ops Q (o :: rest) a w :=
  BigFrame.wpList_want hgd fun _ hK => wp_append_wide D8 s x 23 30 _ 8 Try.underlying23 info8 rfl ho base v xs hs hown vx l hx hB (by unfold maxLen; omega) (by omega) hbase fun v' w' h1 h2 => hK _ _ (h v' w' h1 h2)
theorem take_more (bs : List UInt8) (q j : Nat) (h : q + j < bs.length) : (bs.drop q).take (j + 1) = (bs.drop q).take j ++ [bs[q + j]] := by
  rw [List.take_add_one, List.getElem?_drop, List.getElem?_eq_getElem h]
  rfl
theorem take_same (bs : List UInt8) (q j : Nat) (h : bs.length ≤ q + j) : (bs.drop q).take (j + 1) = (bs.drop q).take j := by
  rw [List.take_add_one, List.getElem?_drop, List.getElem?_eq_none h]
  simp
section
variable {D : Nat} {bs : List UInt8} {ao : Option Addr} {cp at0 many wt cd : Nat} {w x : World}
set_option maxHeartbeats 8000000 in
theorem dblock_any (h : Dd D bs ao cp at0 many wt cd w) (hc : at0 < segs bs.length) (size : Nat) (h1 : 1 ≤ size) (h2 : size ≤ 127) : Calls Try.prog 28 #[.pointer (some ⟨D, 0, none⟩), .int .i64 (size : Int)] w fun e w' => ∃ v, e = .returned v ∧ Lf w.heap.size w' v (blkF bs at0 size) ∧ Dd D bs ao cp at0 (min size (segs bs.length - at0)) wt cd w' ∧ Kp [D] w w' := by
  have hbs := h.bl
  have hsl := segs_le bs.length
  obtain ⟨m, hm⟩ : ∃ m, min size (segs bs.length - at0) = m := ⟨_, rfl⟩
  have hm1 : 1 ≤ m := by omega
  have hm2 : m ≤ size := by omega
  have hm3 : at0 + m ≤ segs bs.length := by omega
  have hm4 : m = size ∨ at0 + m = segs bs.length := by omega
  have HBK : Hid (blkF bs at0 size = (List.range m).map (segF bs at0)) := by show _ = _; rw [← hm]; rfl
  obtain ⟨bk, hbk⟩ : ∃ b, blkF bs at0 size = b := ⟨_, rfl⟩
  rw [hm, hbk]
  rw [hbk] at HBK
  have hA : ∀ y, Below w.heap.size w y → Calls Try.prog 31 #[.pointer (some ⟨D, 0, none⟩)] y fun e w' => e = .returned (.int .i64 ((segs bs.length : Nat) : Int)) ∧ w' = y := fun y hy => All_any (h.below hy)
  have HH := hidOf2 h
  have HOW := hidOf2 (own_empty_e w 30 8)
  have b0 : Below w.heap.size w (w.alloc (.cells #[] 30)) := (Below.refl _ _).alloc (Nat.le_refl _) _
  have hA0 := hA _ b0
  obtain ⟨G, hG⟩ : ∃ G, segs bs.length = G := ⟨_, rfl⟩
  rw [hG] at hc hm3 hm4 hsl hA0
  have HG := hidOf2 hG
  have HB0 := hidOf2 b0
  clear hbk hm hA b0 hG h
  go_enter Try.func28, Try.ntmps28
  go_upto_region 3 with (first | (refine BigFrame.wpList_want rfl fun K hK => wp_bs0g Try.underlying23 info8 rfl (hK _ _ ?_)) | (go_at_call 31; refine hA0.mono ?_; rintro e w1 ⟨rfl, hw1⟩; rw [hw1]; clear hw1 w1))
  have H0 : Hid ((w.alloc (.cells #[] 30)).ownsRow w.heap.size 30 8 (.slice (some ⟨w.heap.size, 0, none⟩) 0 0) ((List.range 0).map (segF bs at0)).length (flatW D8 ((List.range 0).map (segF bs at0)))) := HOW.out
  clear HOW hA0
  generalize w.alloc (.cells #[] 30) = W at *
  go_loopw [5, 7] (fun lv iv wr => ∃ k : Nat, k ≤ m ∧ iv = .int .i64 k ∧ Hid (wr.ownsRow w.heap.size 30 8 lv ((List.range k).map (segF bs at0)).length (flatW D8 ((List.range k).map (segF bs at0)))) ∧ Hid (Below w.heap.size w wr)) (fun _ iv _ => m - (intOf iv).toNat)
  case atStart => exact ⟨0, Nat.zero_le _, rfl, H0, HB0⟩
  case round =>
    obtain ⟨k, hk, rfl, HO, HB⟩ := hrel
    clear H0 HB0
    obtain ⟨al, cl, hlv⟩ := own_shape5 HO.out
    have hln : ((List.range k).map (segF bs at0)).length = k := by simp
    rw [hln] at hlv
    subst hlv
    have HLN := hidOf2 hln
    clear hln
    have c1 := (HH.out.below HB.out).c1
    by_cases hkm : k < m
    · have d1 : decide ((k : Int) < (size : Int)) = true := by simp; omega
      have d2 : decide ((at0 : Int) + (k : Int) < (G : Int)) = true := by simp; omega
      obtain ⟨z, hz⟩ : ∃ z, wr.heap.size = z := ⟨_, rfl⟩
      obtain ⟨b, hb⟩ : ∃ b : UInt8, b = .ofNat (k + 1) := ⟨_, rfl⟩
      have z0 : Qb z F8.nul (wr.alloc (.cells zA8 30)) := by rw [← hz]; exact heap_alloc_new wr _
      have hFA : (⟨b, 0, 0, 0, 0, 0, 0, 0⟩ : F8).arr = #[.int .u8 ((k : Int) + 1), .int .u8 0, .int .u8 0, .int .u8 0, .int .u8 0, .int .u8 0, .int .u8 0, .int .u8 0] := by
        rw [hb]
        simp only [F8.arr, F8.c, un (k + 1) (by omega)]
        simp
      have HV : Hid (∀ V, V = (wr.alloc (.cells zA8 30)).setRow z (⟨b, 0, 0, 0, 0, 0, 0, 0⟩ : F8).arr → Qb z ((⟨b, 0, 0, 0, 0, 0, 0, 0⟩ : F8).put 1 ((bs.drop (7 * (at0 + k))).take 0)) V ∧ Below wr.heap.size wr V) := fun V hV => by
        subst hV
        exact ⟨z0.row _, below_row ((Below.refl _ _).alloc (Nat.le_refl _) _) (by omega) (by rw [size_alloc]; omega) _⟩
      have hk7 : k < 127 := by omega
      have HO1 := HO
      have HB1 := HB
      clear HO HB
      go_upto_region 6 with (first | (refine sdF (g := ⟨b, 0, 0, 0, 0, 0, 0, 0⟩) z0 rfl _ _ rfl rfl (by rw [hFA]; first | rfl | (simp [Act.eval]; done)) ?_))
      change Code.wp Try.prog _ _ _ ((wr.alloc (.cells zA8 30)).setRow z (⟨b, 0, 0, 0, 0, 0, 0, 0⟩ : F8).arr)
      obtain ⟨V, hV⟩ : ∃ V, (wr.alloc (.cells zA8 30)).setRow z (⟨b, 0, 0, 0, 0, 0, 0, 0⟩ : F8).arr = V := ⟨_, rfl⟩
      rw [hV]
      obtain ⟨zV, bV⟩ := HV.out V hV.symm
      have HZV := hidOf2 zV
      have HBV := hidOf2 bV
      clear HV hV zV bV z0 hFA c1
      have HDD : Hid (∀ y, Below wr.heap.size wr y → Dd D bs ao cp at0 many wt cd y) := fun y hy => (HH.out.below HB1.out).below hy
      go_upto_region 7 with fail
      obtain ⟨w5, hw5⟩ : ∃ x, x = wr := ⟨_, rfl⟩
      subst hw5
      go_loopw [9] (fun jv wr => ∃ j : Nat, j ≤ 7 ∧ jv = .int .i64 j ∧ Hid (Qb z ((⟨b, 0, 0, 0, 0, 0, 0, 0⟩ : F8).put 1 ((bs.drop (7 * (at0 + k))).take j)) wr) ∧ Hid (Below w5.heap.size w5 wr)) (fun jv _ => 7 - (intOf jv).toNat)
      case atStart => exact ⟨0, by omega, rfl, HZV, HBV⟩
      case round =>
        obtain ⟨j, hj, rfl, HZ, HBq⟩ := hrel
        clear HZV HBV
        have hd := HDD.out wr HBq.out
        have hbt := hd.bt
        have c1 := hd.c1
        have c0 := hd.c0
        by_cases hj7 : j < 7
        · obtain ⟨p, hp⟩ : ∃ p, 7 * (at0 + k) + j = p := ⟨_, rfl⟩
          have hpI : 7 * ((at0 : Int) + (k : Int)) + (j : Int) = (p : Int) := by omega
          by_cases hpn : p < bs.length
          · have hx : ∃ b2 off, ao = some ⟨b2, off, none⟩ ∧ wr.cell? ⟨b2, off + p, none⟩ = some (.int .u8 (bs[p].toNat : Int)) := by
              obtain ⟨ao', cap', hv, h0, hcl⟩ := hbt
              injection hv with e1 e2 e3
              subst e1
              obtain ⟨b2, off, ha, hlt, hcell⟩ := hcl p hpn
              exact ⟨b2, off, ha, hcell⟩
            obtain ⟨b2, off, ha, cx⟩ := hx
            obtain ⟨u, cz⟩ := HZ.out.cJ (1 + j) (by omega)
            have fz : wr.frozen? ⟨z, 1 + j, none⟩ = false := Lib.frozen_of_heap HZ.out _
            have HX : Hid (∀ Z, Z = wr.setCell ⟨z, 1 + j, none⟩ (.int .u8 (bs[p].toNat : Int)) → Qb z ((⟨b, 0, 0, 0, 0, 0, 0, 0⟩ : F8).put 1 ((bs.drop (7 * (at0 + k))).take (j + 1))) Z ∧ Below w5.heap.size w5 Z) := fun Z hZ => by
              subst hZ
              have hlj : ((bs.drop (7 * (at0 + k))).take j).length = j := by rw [List.length_take, List.length_drop]; omega
              refine ⟨?_, (Kp.cell1 wr z (1 + j) _).below HBq.out HBq.out.size (fun b hb => by simp at hb; omega)⟩
              have := HZ.out.setJ (by omega) bs[p]
              rw [hlj] at this
              rw [take_more bs _ j (by omega)]
              have hpe : bs[7 * (at0 + k) + j]'(by omega) = bs[p] := by congr 1
              rw [hpe]
              exact this
            have dp : decide ((p : Int) < (bs.length : Int)) = true := by simp; omega
            have hxl := bs[p].toNat_lt
            generalize bs[p].toNat = x at *
            subst ha
            clear hbt hd
            go_upto_region 10 with fail
            try rw [hpI]
            go_wp2
            go_roundw
            case rel =>
              obtain ⟨r1, r2⟩ := HX.out _ rfl
              exact ⟨j + 1, by omega, by go_num, r1, r2⟩
            case measure => simp [intOf]; omega
          · have dp : decide ((p : Int) < (bs.length : Int)) = false := by simp; omega
            have HX : Hid (Qb z ((⟨b, 0, 0, 0, 0, 0, 0, 0⟩ : F8).put 1 ((bs.drop (7 * (at0 + k))).take (j + 1))) wr) := by
              show Qb _ _ _
              rw [take_same bs _ j (by omega)]
              exact HZ.out
            clear hbt hd
            go_upto_region 10 with fail
            try rw [hpI]
            go_wp2
            go_roundw
            case rel => exact ⟨j + 1, by omega, by go_num, HX, HBq⟩
            case measure => simp [intOf]; omega
        · obtain rfl : j = 7 := by omega
          obtain ⟨ff, hff⟩ : ∃ f, segF bs at0 k = f := ⟨_, rfl⟩
          have HZ7 : Hid (Qb z ⟨b, sgB bs (at0 + k) 0, sgB bs (at0 + k) 1, sgB bs (at0 + k) 2, sgB bs (at0 + k) 3, sgB bs (at0 + k) 4, sgB bs (at0 + k) 5, sgB bs (at0 + k) 6⟩ wr) := by
            show Qb _ _ _
            rw [← seg_put]
            exact HZ.out
          clear hbt
          by_cases hlast : at0 + k + 1 = G
          · have dl : ((at0 : Int) + (k : Int) == (G : Int) - 1) = true := by simp; omega
            have cz := HZ7.out.c0
            have hbn : (b.toNat : Int) = (k : Int) + 1 := by rw [hb, un (k + 1) (by omega)]; simp
            rw [hbn] at cz
            have fz : wr.frozen? ⟨z, 0, none⟩ = false := Lib.frozen_of_heap HZ7.out _
            have HX : Hid (∀ Z, Z = wr.setCell ⟨z, 0, none⟩ (.int .u8 ((k : Int) + 1 + 128)) → Qb z ff Z ∧ Below w5.heap.size w5 Z) := fun Z hZ => by
              subst hZ
              refine ⟨?_, (Kp.cell1 wr z 0 _).below HBq.out HBq.out.size (fun b hb => by simp at hb; omega)⟩
              have := HZ7.out.set0 (.ofNat (k + 1 + 128))
              rw [un (k + 1 + 128) (by omega)] at this
              rw [← hff]
              unfold segF
              rw [if_pos (by rw [HG.out]; exact hlast)]
              simpa using this
            clear hd HZ7 HZ HBq HDD
            go_upto_region 14 with fail
            obtain ⟨Y, hY⟩ : ∃ Y, wr.setCell ⟨z, 0, none⟩ (.int .u8 ((k : Int) + 1 + 128)) = Y := ⟨_, rfl⟩
            rw [hY]
            obtain ⟨zY, bY⟩ := HX.out Y hY.symm
            clear HX hY cz fz c0 c1
            have ly := zY.load
            have HOY := hidOf2 (own_below8 HO1.out bY)
            have hnl := Lf.new Y ff
            have b9 : Below w5.heap.size w5 (Y.alloc (.cells ff.arr 30)) := bY.alloc bY.size _
            have HOZ := hidOf2 (own_below8 HO1.out b9)
            have HW1 := hidOf2 hnl.1.wide
            have HB9 := hidOf2 (HB1.out.trans (b9.mono HB1.out.size))
            have hs9 : w.heap.size ≤ (Y.alloc (.cells ff.arr 30)).heap.size := HB9.out.size
            have HNX : Hid ((List.range k).map (segF bs at0) ++ [ff] = (List.range (k + 1)).map (segF bs at0)) := by show _ = _; rw [List.range_succ, List.map_append, List.map_singleton, hff]
            have hLl : ((List.range k).map (segF bs at0)).length ≤ 127 := by simp; omega
            clear zY bY hnl b9
            go_wp2_with (first | (refine ldG ly rfl _ rfl rfl ?_) | (refine bs1 ff rfl _ rfl rfl ?_) | (refine ap8 rfl _ _ rfl w.heap.size _ ((List.range k).map (segF bs at0)) rfl (by exact HOZ.out) _ [ff] rfl (by exact HW1.out) (by simp only [List.length_cons, List.length_nil]; omega) hs9 ?_; intro v9 w9 P9 G9; rw [HNX.out] at P9; have HP9 := hidOf2 P9; have HBN := hidOf2 (HB9.out.grown G9 hs9 (fun g e => (own_of HOZ.out e).1)); clear P9 G9 HOZ HW1 HB9 hs9 HOY HO1))
            go_roundw
            case rel => exact ⟨k + 1, by omega, by go_num, HP9, HBN⟩
            case measure => simp [intOf]; omega
          · have dl : ((at0 : Int) + (k : Int) == (G : Int) - 1) = false := by simp; omega
            have zY : Qb z ff wr := by
              rw [← hff]
              unfold segF
              rw [if_neg (by rw [HG.out]; exact hlast), Nat.add_zero, ← hb]
              exact HZ7.out
            have bY := HBq.out
            clear hd HZ7 HZ HDD
            go_upto_region 14 with fail
            skip
            clear c0 c1
            have ly := zY.load
            have HOY := hidOf2 (own_below8 HO1.out bY)
            have hnl := Lf.new wr ff
            have b9 : Below w5.heap.size w5 (wr.alloc (.cells ff.arr 30)) := bY.alloc bY.size _
            have HOZ := hidOf2 (own_below8 HO1.out b9)
            have HW1 := hidOf2 hnl.1.wide
            have HB9 := hidOf2 (HB1.out.trans (b9.mono HB1.out.size))
            have hs9 : w.heap.size ≤ (wr.alloc (.cells ff.arr 30)).heap.size := HB9.out.size
            have HNX : Hid ((List.range k).map (segF bs at0) ++ [ff] = (List.range (k + 1)).map (segF bs at0)) := by show _ = _; rw [List.range_succ, List.map_append, List.map_singleton, hff]
            have hLl : ((List.range k).map (segF bs at0)).length ≤ 127 := by simp; omega
            clear zY bY hnl b9
            go_wp2_with (first | (refine ldG ly rfl _ rfl rfl ?_) | (refine bs1 ff rfl _ rfl rfl ?_) | (refine ap8 rfl _ _ rfl w.heap.size _ ((List.range k).map (segF bs at0)) rfl (by exact HOZ.out) _ [ff] rfl (by exact HW1.out) (by simp only [List.length_cons, List.length_nil]; omega) hs9 ?_; intro v9 w9 P9 G9; rw [HNX.out] at P9; have HP9 := hidOf2 P9; have HBN := hidOf2 (HB9.out.grown G9 hs9 (fun g e => (own_of HOZ.out e).1)); clear P9 G9 HOZ HW1 HB9 hs9 HOY HO1))
            go_roundw
            case rel => exact ⟨k + 1, by omega, by go_num, HP9, HBN⟩
            case measure => simp [intOf]; omega
    · have hke : k = m := by omega
      subst hke
      rw [← HBK.out] at HO
      have HL : Hid (Lf w.heap.size wr (.slice al k cl) bk) := ⟨RT.own D8 HO.out, fun b e => (own_of HO.out e).1⟩
      have HK : Hid (∀ Z, Z = wr.setCell ⟨D, 2, none⟩ (.int .i64 (k : Int)) → Lf w.heap.size Z (.slice al k cl) bk ∧ Dd D bs ao cp at0 k wt cd Z ∧ Kp [D] w Z) := fun Z hZ => by
        subst hZ
        have hd := HH.out.below HB.out
        refine ⟨⟨HL.out.1.same (by simp [World.setCell]) (fun b A fr hb hA => Below.heap_setCell wr _ _ b ?_), HL.out.2⟩, hd.set 2 _ (by simp [dsA]), (Kp.of_below HB.out).trans (Kp.cell1 _ _ _ _)⟩
        rintro rfl
        rw [hd.hd] at hA
        simp at hA
      have c2 := (HH.out.below HB.out).c2
      have f2 := (HH.out.below HB.out).fr 2
      clear HO HL HLN
      rcases hm4 with h4 | h4
      · have d1 : decide ((k : Int) < (size : Int)) = false := by simp; omega
        have hnk : ¬ k < size := by omega
        clear h4
        go_wp2
        obtain ⟨r1, r2, r3⟩ := HK.out _ rfl
        go_ret
        exact ⟨.slice al k cl, rfl, r1, r2, r3⟩
      · by_cases h5 : k < size
        · have d1 : decide ((k : Int) < (size : Int)) = true := by simp; omega
          have d2 : decide ((at0 : Int) + (k : Int) < (G : Int)) = false := by simp; omega
          go_wp2
          obtain ⟨r1, r2, r3⟩ := HK.out _ rfl
          go_ret
          exact ⟨.slice al k cl, rfl, r1, r2, r3⟩
        · have d1 : decide ((k : Int) < (size : Int)) = false := by simp; omega
          go_wp2
          obtain ⟨r1, r2, r3⟩ := HK.out _ rfl
          go_ret
          exact ⟨.slice al k cl, rfl, r1, r2, r3⟩
end
end Go.Proofs.Ytebjofkblfmkmaa
