/- The law SdoQuiet returns true whatever comes in. -/
import Derived.Test.YtahfnknbmikmkaaGreatKa38
import Derived.Test.YtahfnknbmikmkaaGreatKa5
namespace Go.Proofs.YtahfnknbmikmkaaGreat
open Go.RowKit Go.Proofs.Ty
set_option linter.unusedVariables false
set_option maxRecDepth 1000000
set_option linter.unusedSimpArgs false
theorem hnd_quiet (its : List Im) (s : Ss) (q : F8) (h : 2 ≤ q.b0.toNat / 32) : (hndO its s q).2.1 = its := by
  unfold hndO
  rw [if_neg (by omega), if_neg (by omega)]
  split
  · rw [(redO_s its q).2.1]
  · split
    · unfold telO
      split
      · rfl
      · split
        · rfl
        · rfl
    · split <;> rfl
/-- A frame out of the middle of a block. -/
theorem ldF {w : World} {ops : Array Oper} {rest : List Oper} {p : Oper} {a : Act} {Q : Exit → Act → World → Prop} {b o : Nat} {f : F8} (h : w.rangeAt b o f.c) (hgd : Region.wanted p (yielded ops a.tmps) = true) (x : Operand) (ho : p.op = .load 32 x) (hx : a.eval x = .pointer (some ⟨b, o, none⟩))
    (hh : wpList Tryz.prog ops Q rest (a.put p.dst (.agg f.arr)) w) : wpList Tryz.prog ops Q (p :: rest) a w :=
  BigFrame.wpList_want hgd fun _ hK => wp_load_mid 32 x ho b o hx _ _ h Tryz.underlying32 rfl (by rw [infoA8s]; rfl) (hK _ _ hh)
theorem as_rng {w : World} {b o : Nat} {a : As} (h : w.rangeAt b o (asC a)) : w.rangeAt b (o + 1) a.q.c := fun j u hj => by
  have := h (j + 1) u (by simpa [asC] using hj)
  rw [show o + (j + 1) = o + 1 + j by omega] at this
  exact this
set_option maxHeartbeats 64000000 in
theorem squiet_walk (v0 v1 : Value) (l : List En) (ls : List As) (w : World) (h0 : Wide 14 enC w v0 l) (h1 : Wide 9 asC w v1 ls) (hn0 : l.length ≤ 1172812402927) (hn1 : ls.length ≤ 8796093021952) :
    Calls Tryz.prog 6 #[v0, v1] w fun e w' => e = .returned (.bool true) ∧ Below w.heap.size w w' := by
  obtain ⟨ao0, cp0, rfl⟩ := h0.shape
  have hBg := Begins10_any _ l w h0 hn0
  obtain ⟨ao1, cp1, rfl, _, hc1⟩ := h1
  have HCA : Hid (∀ k (hk : k < ls.length), ∃ b off, ao1 = some ⟨b, off, none⟩ ∧ b < w.heap.size ∧ w.rangeAt b (off + k * 9) (asC ls[k])) := hc1
  obtain ⟨na, hna⟩ : ∃ n, ls.length = n := ⟨_, rfl⟩
  have HNA := hidOf2 hna
  have HLV := lives10_any
  rw [hna] at hn1 ⊢
  clear h0 hc1 hna
  go_enter Tryz.func6, Tryz.ntmps6
  go_wp2_with fail
  refine hBg.mono ?_
  rintro e w1 ⟨B1, hbad, hgood⟩
  by_cases hc : chkL l = 0
  · obtain ⟨p, its, rfl, hJ, _, _⟩ := hgood hc
    have hSv := Save_any hJ.pv.dct
    obtain ⟨cY0, _, _⟩ := hJ.cY
    obtain ⟨cX0, _⟩ := hJ.cX
    have HJ1 := hidOf2 hJ
    clear hBg hbad hgood hJ B1
    go_wp2_with fail
    refine hSv.mono ?_
    rintro e w2 ⟨x2, rfl, P2, b2⟩
    have HJ2 := hidOf2 (HJ1.out.next b2)
    have htx := (bytes_of_own P2).text
    obtain ⟨T, hT⟩ : ∃ T : ByteArray, (⟨(sav its).toArray⟩ : ByteArray) = T := ⟨_, rfl⟩
    rw [hT] at htx
    have HT := hidOf2 hT
    obtain ⟨a6, cp6, hv6⟩ := own_shape5 P2
    subst hv6
    clear hSv HJ1 P2 b2 cY0 cX0 hT
    go_wp2_with fail
    go_loopw [8] (fun i x => ∃ (k : Nat) (st : Ss) (ao : Option Addr) (cp : Nat) (ap : Option Addr) (cq : Nat), k ≤ na ∧ i = .int .i64 k ∧ Hid (Jt w p its its st st ao cp ap cq x)) (fun i _ => na - (intOf i).toNat)
    case atStart => exact ⟨0, Ss.nul, none, 0, none, 0, Nat.zero_le _, rfl, HJ2⟩
    case round =>
      clear HJ2 htx
      obtain ⟨k, st, ao, cp, ap, cq, hk, rfl, HJ⟩ := hrel
      by_cases hkn : k < na
      · have hdk : decide ((k : Int) < (na : Int)) = true := by simp; omega
        obtain ⟨b, off, hao, hblt, hR⟩ := HCA.out k (by rw [HNA.out]; exact hkn)
        subst hao
        obtain ⟨A, hA⟩ : ∃ A, ls[k]'(by rw [HNA.out]; exact hkn) = A := ⟨_, rfl⟩
        rw [hA] at hR
        have r1 := rng_below (as_rng hR) HJ.out.below hblt
        obtain ⟨f, hf⟩ : ∃ f, A.q = f := ⟨_, rfl⟩
        rw [hf] at r1
        obtain ⟨z, hz, y1, hYz, Hy⟩ := HJ.out.got f
        clear hR hA hf
        go_upto_region 9 with (first | (refine ldF r1 rfl _ rfl rfl ?_) | (refine sdF (g := f) y1 rfl _ _ rfl rfl rfl ?_))
        change Code.wp Tryz.prog _ _ _ ((wr.alloc (.cells zA8 32)).setRow z f.arr)
        generalize hZ : (wr.alloc (.cells zA8 32)).setRow z f.arr = w3
        obtain ⟨y3, J3, _⟩ := Hy.out w3 hZ.symm
        have c3 := y3.c0
        have hb8 := f.b0.toNat_lt
        have yl := y3.load
        have HJ3 := hidOf2 J3
        clear Hy hZ y1 y3 J3 hz r1
        obtain ⟨n, hn⟩ : ∃ n, f.b0.toNat = n := ⟨_, rfl⟩
        rw [hn] at c3 hb8
        by_cases hq : 2 ≤ n / 32
        · have hd2 : decide ((2 : Int) ≤ (n : Int) / 32) = true := by simp; omega
          have hd3 : (2 : Int) ≤ (n : Int) / 32 := by omega
          have hH := Handles_kp HJ3.out f
          rw [hnd_quiet its st f (by rw [hn]; exact hq)] at hH
          obtain ⟨ff, hff⟩ : ∃ g, (hndO its st f).1.f = g := ⟨_, rfl⟩
          obtain ⟨st2, hst2⟩ : ∃ g, (hndO its st f).2.2 = g := ⟨_, rfl⟩
          rw [hff, hst2] at hH
          clear hn hff hst2
          go_wp2_with (refine ldG yl rfl _ rfl rfl ?_)
          refine hH.mono ?_
          rintro e w4 ⟨rfl, ao4, cp4, ap4, cq4, J4, _⟩
          obtain ⟨z2, hz2, y1, hYz2, Hy⟩ := J4.got ff
          clear hH J4
          go_upto_region 11 with (first | (refine sdF (g := ff) y1 rfl _ _ rfl rfl rfl ?_))
          change Code.wp Tryz.prog _ _ _ ((w4.alloc (.cells zA8 32)).setRow z2 ff.arr)
          generalize hZ : (w4.alloc (.cells zA8 32)).setRow z2 ff.arr = w5
          obtain ⟨_, J5, _⟩ := Hy.out w5 hZ.symm
          have HJ5 := hidOf2 J5
          clear Hy hZ y1 J5 hz2
          go_wp2
          go_roundw
          case rel => exact ⟨k + 1, st2, ao4, cp4, ap4, cq4, by omega, by go_num, HJ5⟩
          case measure => simp [intOf]; omega
        · have hd2 : decide ((2 : Int) ≤ (n : Int) / 32) = false := by simp; omega
          have hd3 : ¬ (2 : Int) ≤ (n : Int) / 32 := by omega
          clear hn
          go_wp2
          go_roundw
          case rel => exact ⟨k + 1, st, ao, cp, ap, cq, by omega, by go_num, HJ3⟩
          case measure => simp [intOf]; omega
      · have hdk : decide ((k : Int) < (na : Int)) = false := by simp; omega
        have hSv := Save_any HJ.out.pv.dct
        obtain ⟨cY0, _, _⟩ := HJ.out.cY
        obtain ⟨cX0, _⟩ := HJ.out.cX
        go_wp2_with fail
        refine hSv.mono ?_
        rintro e w6 ⟨x6, rfl, P6, b6⟩
        have HJ6 := hidOf2 (HJ.out.next b6)
        have htx := (bytes_of_own P6).text
        rw [HT.out] at htx
        obtain ⟨a7, cp7, hv7⟩ := own_shape5 P6
        subst hv7
        obtain ⟨cZ0, _, _⟩ := HJ6.out.cY
        have hTl := Tells_any HJ6.out.sm
        have HB6 := hidOf2 HJ6.out.below
        clear hSv P6 b6 cY0 cX0 HJ HJ6
        go_wp2_with fail
        refine hTl.mono ?_
        rintro e w7 ⟨rfl, b7⟩
        have HB7 := hidOf2 (HB6.out.trans (b7.mono HB6.out.size))
        clear b7 hTl HB6
        go_wp2_with fail
        refine (HLV _).mono ?_
        rintro e w8 ⟨rfl, b8⟩
        have HO := hidOf2 (HB7.out.trans (b8.mono HB7.out.size))
        clear b8
        go_wp2
        go_ret
        exact ⟨rfl, HO.out⟩
  · obtain rfl := hbad hc
    have HB1 := hidOf2 B1
    clear B1 hbad hgood hBg
    go_wp2_with fail
    refine (HLV _).mono ?_
    rintro e w2 ⟨rfl, b2⟩
    have HO := hidOf2 (HB1.out.trans (b2.mono HB1.out.size))
    clear b2
    go_wp2
    go_ret
    exact ⟨rfl, HO.out⟩
end Go.Proofs.YtahfnknbmikmkaaGreat
