/- The law SdoAnswers returns true whatever comes in. -/
import Derived.Test.YtahfnknbmikmkaaGreatKaLawSQui
namespace Go.Proofs.YtahfnknbmikmkaaGreat
open Go.RowKit Go.Proofs.Ty
set_option linter.unusedVariables false
set_option maxRecDepth 1000000
set_option linter.unusedSimpArgs false
section
variable {w x y : World} {p : Pl} {its : List Im} {s : Ss} {ao ap : Option Addr} {cp cq : Nat}
theorem Pv.reset {S D R : Nat} (h : Pv S D R its s ao cp x) (hp : Pb S D Ss.nul none 0 y) (hK : Kp [S] x y) : Pv S D R its Ss.nul none 0 y := by
  refine Pv.nul ?_ hp h.near
  have hn : ∀ (b : Nat) (A : Array Value) (U : TypeId) (fr : Nat × Nat), x.heap[b]? = some (Obj.cells A U fr) → U ≠ 91 → y.heap[b]? = x.heap[b]? := fun b A U fr hb hU => hK.block b (Array.getElem?_eq_some_iff.1 hb).1 (fun hm => by
    simp at hm
    rw [hm, h.head] at hb
    injection hb with hb
    injection hb with _ h2
    exact hU h2.symm)
  exact ⟨(hn _ _ _ _ h.dct.head (by decide)).trans h.dct.head, (hn _ _ _ _ h.dct.row (by decide)).trans h.dct.row, fun i hi => (h.dct.items i hi).same (hn _ _ _ _ (h.dct.b hi) (by decide)), h.dct.apart, h.dct.sorted, h.dct.len⟩
theorem Dv.reset {T E : Nat} (h : Dv T E its s ao cp x) (hp : Db T E Ss.nul none 0 y) (hK : Kp [T] x y) : Dv T E its Ss.nul none 0 y := by
  refine Dv.nul ?_ hp h.et h.len h.oks h.nod
  obtain ⟨vL, vV, hr⟩ := h.rd
  exact ⟨vL, vV, hr.kpT h.head hK⟩
/-- The program's server is reset, the document's. -/
theorem Jt.rst (h : Jt w p its its s s ao cp ap cq x) : Calls Tryz.prog 14 #[.pointer (some ⟨p.S, 0, none⟩)] x fun e x' => e = .returned (.tuple #[]) ∧ Jt w p its its Ss.nul s none 0 ap cq x' :=
  (Reset10_any h.pv.head).mono fun e y ⟨he, hp, hK⟩ => ⟨he, h.prog (h.pv.reset hp hK) rfl (hK.mono (fun b hb => by simp at hb; simp [hb])) (fun b hb => by simp [blk] at hb)⟩
theorem Jt.rsd {t : Ss} (h : Jt w p its its s t ao cp ap cq x) : Calls Tryz.prog 15 #[.pointer (some ⟨p.T, 0, none⟩)] x fun e x' => e = .returned (.tuple #[]) ∧ Jt w p its its s Ss.nul ao cp none 0 x' :=
  (Rests_any h.dv.head).mono fun e y ⟨he, hp, hK⟩ => ⟨he, h.doc (h.dv.reset hp hK) (hK.mono (fun b hb => by simp at hb; simp [hb])) (fun b hb => by simp [blk] at hb)⟩
theorem Jt.exp (h : Jt w p its its s s ao cp ap cq x) : Calls Tryz.prog 12 #[.pointer (some ⟨p.S, 0, none⟩)] x fun e x' => e = .returned (.tuple #[.agg (expF s).arr, .bool (expB s)]) ∧ ∃ ao' cp', Jt w p its its (expS s) s ao' cp' ap cq x' :=
  (svExpire_any h.pv).mono fun e y ⟨he, a, c, hp, hK, hf⟩ => ⟨he, a, c, h.prog hp rfl hK hf⟩
theorem Jt.exd {t : Ss} (h : Jt w p its its s t ao cp ap cq x) : Calls Tryz.prog 13 #[.pointer (some ⟨p.T, 0, none⟩)] x fun e x' => e = .returned (.tuple #[.agg (expF t).arr, .bool (expB t)]) ∧ (∃ ap' cq', Jt w p its its s (expS t) ao cp ap' cq' x') ∧ Kp [p.T, p.E] x x' :=
  (rsExpire_any h.dv).mono fun e y ⟨he, a, c, hp, hK, hf⟩ => ⟨he, ⟨a, c, h.doc hp hK hf⟩, hK⟩
end
def fA : F8 := frm 128 8192 3 100925505
set_option maxHeartbeats 64000000 in
theorem sans_walk (v0 v1 : Value) (l : List En) (ls : List As) (w : World) (h0 : Wide 14 enC w v0 l) (h1 : Wide 9 asC w v1 ls) (hn0 : l.length ≤ 1172812402927) (hn1 : ls.length ≤ 8796093021952) :
    Calls Tryz.prog 3 #[v0, v1] w fun e w' => e = .returned (.bool true) ∧ Below w.heap.size w w' := by
  obtain ⟨ao0, cp0, rfl⟩ := h0.shape
  have hBg := Begins10_any _ l w h0 hn0
  obtain ⟨ao1, cp1, rfl, _, hc1⟩ := h1
  have HCA : Hid (∀ k (hk : k < ls.length), ∃ b off, ao1 = some ⟨b, off, none⟩ ∧ b < w.heap.size ∧ w.rangeAt b (off + k * 9) (asC ls[k])) := hc1
  obtain ⟨na, hna⟩ : ∃ n, ls.length = n := ⟨_, rfl⟩
  have HNA := hidOf2 hna
  have HLV := lives10_any
  have HNN := New10_nil
  rw [hna] at hn1 ⊢
  clear h0 hc1 hna
  go_enter Tryz.func3, Tryz.ntmps3
  go_wp2_with fail
  refine hBg.mono ?_
  rintro e w1 ⟨B1, hbad, hgood⟩
  by_cases hc : chkL l = 0
  · obtain ⟨p, its0, rfl, hJ, _, _⟩ := hgood hc
    have HJ1 := hidOf2 hJ
    clear hBg hbad hgood hJ B1
    go_wp2_with fail
    go_loopw [6, 9] (fun ov i x => ov = .bool true ∧ ∃ (k : Nat) (its : List Im) (st : Ss) (ao : Option Addr) (cp : Nat) (ap : Option Addr) (cq : Nat), k ≤ na ∧ i = .int .i64 k ∧ Hid (Jt w p its its st st ao cp ap cq x)) (fun _ i _ => na - (intOf i).toNat)
    case atStart => exact ⟨rfl, 0, its0, Ss.nul, none, 0, none, 0, Nat.zero_le _, rfl, HJ1⟩
    case round =>
      clear HJ1
      obtain ⟨rfl, k, its, st, ao, cp, ap, cq, hk, rfl, HJ⟩ := hrel
      by_cases hkn : k < na
      · have hdk : decide ((k : Int) < (na : Int)) = true := by simp; omega
        obtain ⟨b, off, hao, hblt, hR⟩ := HCA.out k (by rw [HNA.out]; exact hkn)
        subst hao
        obtain ⟨A, hA⟩ : ∃ A, ls[k]'(by rw [HNA.out]; exact hkn) = A := ⟨_, rfl⟩
        rw [hA] at hR
        have r1 := rng_below (as_rng hR) HJ.out.below hblt
        have c0 : wr.cell? ⟨b, off + k * 9, none⟩ = some (.int .i64 A.kd) := (HJ.out.below.cell (p := ⟨b, off + k * 9, none⟩) hblt).trans (hR 0 _ rfl)
        obtain ⟨f, hf⟩ : ∃ f, A.q = f := ⟨_, rfl⟩
        rw [hf] at r1
        obtain ⟨kd, hkd⟩ : ∃ f, A.kd = f := ⟨_, rfl⟩
        rw [hkd] at c0
        obtain ⟨cY0, cY1, cY2⟩ := HJ.out.cY
        clear hR hA hf hkd
        by_cases h1 : kd = 1
        · subst h1
          have hE := HJ.out.exp
          go_wp2_with fail
          refine hE.mono ?_
          rintro e w3 ⟨rfl, ao3, cp3, J3⟩
          obtain ⟨ff, hff⟩ : ∃ g, expF st = g := ⟨_, rfl⟩
          obtain ⟨bb, hbb⟩ : ∃ g, expB st = g := ⟨_, rfl⟩
          obtain ⟨s3, hs3⟩ : ∃ g, expS st = g := ⟨_, rfl⟩
          have hD := fun x (h : Jt w p its its (expS st) st ao3 cp3 ap cq x) => h.exd
          rw [hs3] at J3
          rw [hff, hbb, hs3] at hD
          rw [hff, hbb]
          obtain ⟨z, hz, y1, hYz, Hy⟩ := J3.got ff
          clear hE J3 cY0 cY1 cY2 r1 c0 hff hbb hs3
          go_upto_region 14 with (first | (refine sdF (g := ff) y1 rfl _ _ rfl rfl rfl ?_))
          change Code.wp Tryz.prog _ _ _ ((w3.alloc (.cells zA8 32)).setRow z ff.arr)
          generalize hZ : (w3.alloc (.cells zA8 32)).setRow z ff.arr = w4
          obtain ⟨y4, J4, _⟩ := Hy.out w4 hZ.symm
          have hE := hD w4 J4
          obtain ⟨_, _, cY2⟩ := J4.cY
          have HJ4 := hidOf2 J4
          have HY4 := hidOf2 y4
          clear Hy hZ y1 y4 J4 hz hD
          go_wp2_with fail
          refine hE.mono ?_
          rintro e w5 ⟨rfl, ⟨ap5, cq5, J5⟩, K5⟩
          have y5 := HJ4.out.keepD K5 hYz HY4.out
          obtain ⟨z2, hz2, y1, hYz2, Hy⟩ := J5.got ff
          clear hE J5 cY2 HJ4 HY4 K5
          go_upto_region 15 with (first | (refine sdF (g := ff) y1 rfl _ _ rfl rfl rfl ?_))
          change Code.wp Tryz.prog _ _ _ ((w5.alloc (.cells zA8 32)).setRow z2 ff.arr)
          generalize hZ : (w5.alloc (.cells zA8 32)).setRow z2 ff.arr = w6
          obtain ⟨y6, J6, b6⟩ := Hy.out w6 hZ.symm
          have l6 := y6.load
          have k6 := (y5.below b6).load
          have hTl := Tells_any J6.sm
          obtain ⟨cY0, _, _⟩ := J6.cY
          have HJ6 := hidOf2 J6
          clear Hy hZ y1 y6 J6 b6 hz2 y5
          go_wp2_with (first | (refine ldG l6 rfl _ rfl rfl ?_) | (refine ldG k6 rfl _ rfl rfl ?_) | (refine eqF ff rfl _ _ rfl rfl rfl ?_))
          refine hTl.mono ?_
          rintro e w7 ⟨rfl, b7⟩
          have HJ7 := hidOf2 (HJ6.out.next b7)
          clear b7 hTl HJ6 l6 k6
          go_wp2
          go_roundw
          case rel => exact ⟨rfl, k + 1, its, s3, ao3, cp3, ap5, cq5, by omega, by go_num, HJ7⟩
          case measure => simp [intOf]; omega
        · by_cases h2 : kd = 2
          · subst h2
            have hE := HJ.out.rst
            clear h1
            go_wp2_with fail
            refine hE.mono ?_
            rintro e w3 ⟨rfl, J3⟩
            have hD := J3.rsd
            obtain ⟨_, _, cY2⟩ := J3.cY
            clear hE cY0 cY1 r1 c0 J3
            go_wp2_with fail
            refine hD.mono ?_
            rintro e w5 ⟨rfl, J5⟩
            have hTl := Tells_any J5.sm
            obtain ⟨cY0, _, _⟩ := J5.cY
            have HJ4 := hidOf2 J5
            clear hD J5 cY2
            go_wp2_with fail
            refine hTl.mono ?_
            rintro e w7 ⟨rfl, b7⟩
            have HJ7 := hidOf2 (HJ4.out.next b7)
            clear b7 hTl HJ4
            go_wp2
            go_roundw
            case rel => exact ⟨rfl, k + 1, its, Ss.nul, none, 0, none, 0, by omega, by go_num, HJ7⟩
            case measure => simp [intOf]; omega
          · have hd1 : decide (kd = 1) = false := by simp [h1]
            have hd2 : decide (kd = 2) = false := by simp [h2]
            have hH := Handles_kp HJ.out f
            obtain ⟨ff, hff⟩ : ∃ g, (hndO its st f).1.f = g := ⟨_, rfl⟩
            obtain ⟨st2, hst2⟩ : ∃ g, (hndO its st f).2.2 = g := ⟨_, rfl⟩
            obtain ⟨it2, hit2⟩ : ∃ g, (hndO its st f).2.1 = g := ⟨_, rfl⟩
            rw [hff, hst2, hit2] at hH
            clear hff hst2 hit2 cY0 cY1 cY2
            go_wp2_with (refine ldF r1 rfl _ rfl rfl ?_)
            refine hH.mono ?_
            rintro e w4 ⟨rfl, ao4, cp4, ap4, cq4, J4, _⟩
            have hTl := Tells_any J4.sm
            obtain ⟨cY0, _, _⟩ := J4.cY
            have HJ4 := hidOf2 J4
            clear hH J4 r1 c0
            go_wp2_with fail
            refine hTl.mono ?_
            rintro e w7 ⟨rfl, b7⟩
            have HJ7 := hidOf2 (HJ4.out.next b7)
            clear b7 hTl HJ4
            go_wp2
            go_roundw
            case rel => exact ⟨rfl, k + 1, it2, st2, ao4, cp4, ap4, cq4, by omega, by go_num, HJ7⟩
            case measure => simp [intOf]; omega
      · have hdk : decide ((k : Int) < (na : Int)) = false := by simp; omega
        have hA := Abort_any 8192 3 100925505 wr (by decide) (by decide) (by decide)
        have hF := fun x => r10Frame_any 128 8192 3 100925505 x (by decide) (by decide) (by decide) (by decide)
        obtain ⟨fa, hfa⟩ : ∃ f, frm 128 8192 3 100925505 = f := ⟨_, rfl⟩
        rw [hfa] at hA hF
        have HB6 := hidOf2 HJ.out.below
        clear hfa HJ
        go_wp2_with fail
        refine hA.mono ?_
        rintro e w3 ⟨rfl, b3⟩
        have HB7 := hidOf2 (HB6.out.trans (b3.mono HB6.out.size))
        clear hA b3 HB6
        go_wp2_with fail
        refine (hF _).mono ?_
        rintro e w4 ⟨rfl, b4⟩
        have HB8 := hidOf2 (HB7.out.trans (b4.mono HB7.out.size))
        clear hF b4 HB7
        go_wp2_with (first | (refine eqF fa rfl _ _ rfl rfl rfl ?_))
        refine (HLV _).mono ?_
        rintro e w8 ⟨rfl, b8⟩
        have HO := hidOf2 (HB8.out.trans (b8.mono HB8.out.size))
        clear b8
        go_wp2
        go_ret
        exact ⟨rfl, HO.out⟩
  · obtain rfl := hbad hc
    have HB1 := hidOf2 B1
    clear B1 hbad hgood hBg
    go_wp2_with fail
    refine (HNN _).mono ?_
    rintro e x1 ⟨rfl, hx1⟩
    rw [hx1]
    clear hx1 x1
    go_wp2_with fail
    refine (HLV _).mono ?_
    rintro e w2 ⟨rfl, b2⟩
    have HO := hidOf2 (HB1.out.trans (b2.mono HB1.out.size))
    clear b2
    go_wp2
    go_ret
    exact ⟨rfl, HO.out⟩
end Go.Proofs.YtahfnknbmikmkaaGreat
