/- Both servers at first. The small living call of layer 10. Expire of both. -/
import Derived.Test.YtahfnknbmikmkaaGreatKa36
import Derived.Test.YtahfnknbmikmkaaGreatZs
namespace Go.Proofs.YtahfnknbmikmkaaGreat
open Go.RowKit Go.Proofs.Ty
set_option linter.unusedVariables false
set_option maxRecDepth 1000000
set_option linter.unusedSimpArgs false
theorem build_rs (E : Nat) (x : World) : (Instr.build 85 #[(0, .pointer (some ⟨E, 0, none⟩))]).run Tryz.prog x = .ok (.agg (dsC E ⟨0, 0, 0, 0, [], some 0⟩ none 0).toArray) x := by kernel_rfl
set_option maxHeartbeats 8000000 in
theorem Begins10_any (v : Value) (l : List En) (w : World) (hW : Wide 14 enC w v l) (hn : l.length ≤ 1172812402927) :
    Calls Tryz.prog 9 #[v] w fun e w' => Below w.heap.size w w' ∧ (chkL l ≠ 0 → e = .returned (.tuple #[.pointer none, .bool true])) ∧ (chkL l = 0 → ∃ (p : Pl) (its : List Im), e = .returned (.tuple #[.pointer (some ⟨p.Y, 0, none⟩), .bool true]) ∧ Jt w p its its Ss.nul Ss.nul none 0 none 0 w' ∧ (its.map Im.e).Perm (l.map En.plain) ∧ (∀ i ∈ its, i.v = i.e.df)) := by
  obtain ⟨ao0, cp0, rfl⟩ := hW.shape
  have hBg := Begins_any _ l w hW hn
  clear hW
  generalize hln : l.length = ln at *
  go_enter Tryz.func9, Tryz.ntmps9
  go_wp2_with fail
  refine hBg.mono ?_
  rintro e w1 ⟨B1, hbad, hgood⟩
  clear hBg
  by_cases hc : chkL l = 0
  · obtain ⟨X, D, R, E, its, vL, vV, rfl, N1⟩ := hgood hc
    obtain ⟨M1, hok⟩ := Sm.start N1 hc
    have cX := M1.cX
    have HB1 := hidOf2 B1
    obtain ⟨S, hS⟩ : ∃ n, w1.heap.size = n := ⟨_, rfl⟩
    have hNw := New10_any D w1
    rw [hS] at hNw
    have HM1 := hidOf2 M1
    have HOK := hidOf2 hok
    have HPR := hidOf2 N1.perm
    have HVL := hidOf2 N1.vals
    clear hbad hgood N1 M1 hok B1
    obtain ⟨cX0, cX1⟩ := cX
    go_wp2_with fail
    refine hNw.mono ?_
    rintro e w2 ⟨rfl, hw2⟩
    have hb2 : Below w1.heap.size w1 w2 := hw2 ▸ (Below.refl _ _).alloc (Nat.le_refl _) _
    have pS : Pb S D Ss.nul none 0 w2 := by rw [hw2, ← hS]; exact heap_alloc_new w1 _
    have hs2 : w2.heap.size = S + 1 := by rw [hw2, size_alloc, hS]
    have HM2 := hidOf2 (HM1.out.next hb2)
    obtain ⟨cY0, cY1⟩ := HM2.out.cX
    have hbr := build_rs E
    clear hNw hw2 cX0 cX1
    obtain ⟨w3, hw3⟩ : ∃ x, w2.alloc (.cells (dsC E ⟨0, 0, 0, 0, [], some 0⟩ none 0).toArray 85) = x := ⟨_, rfl⟩
    have dT : Db (S + 1) E ⟨0, 0, 0, 0, [], some 0⟩ none 0 w3 := by rw [← hw3, ← hs2]; exact heap_alloc_new w2 _
    have hb3 : Below w2.heap.size w2 w3 := hw3 ▸ (Below.refl _ _).alloc (Nat.le_refl _) _
    have hs3 : w3.heap.size = S + 2 := by rw [← hw3, size_alloc, hs2]
    have hRs := Rests_any dT
    go_wp2_with fail
    change Calls Tryz.prog _ _ (w2.alloc (.cells (dsC E ⟨0, 0, 0, 0, [], some 0⟩ none 0).toArray 85)) _
    rw [hw3]
    refine hRs.mono ?_
    rintro e w4 ⟨rfl, d4, K4⟩
    have hb23 := hb2.trans (hb3.mono hb2.size)
    have HM4 : Hid (Dct D R its w4 ∧ (∃ vL vV, Rd E (its.map Im.e) vL (its.map Im.v) vV w4) ∧ w4.heap[X]? = some (.cells #[.pointer (some ⟨D, 0, none⟩), .pointer (some ⟨E, 0, none⟩)] 56 (0, 0)) ∧ Pb S D Ss.nul none 0 w4) := by
      have m3 := HM1.out.next hb23
      have hold : ∀ b, b < S + 1 → w4.heap[b]? = w3.heap[b]? := fun b hb => K4.block b (by omega) (by simp; omega)
      have hlt : ∀ (b : Nat) (A : Array Value) (U : TypeId) (fr : Nat × Nat), w1.heap[b]? = some (Obj.cells A U fr) → b < S := fun b A U fr hb => by rw [← hS]; exact (Array.getElem?_eq_some_iff.1 hb).1
      refine ⟨?_, ?_, (hold X (by have := hlt X _ _ _ HM1.out.pair; omega)).trans m3.pair, (hold S (by omega)).trans (pS.below hb3)⟩
      · exact ⟨(hold _ (by have := hlt _ _ _ _ HM1.out.dct.head; omega)).trans m3.dct.head, (hold _ (by have := hlt _ _ _ _ HM1.out.dct.row; omega)).trans m3.dct.row, fun i hi => (m3.dct.items i hi).same (hold _ (by have := hlt _ _ _ _ (HM1.out.dct.b hi); omega)), m3.dct.apart, m3.dct.sorted, m3.dct.len⟩
      · obtain ⟨vL, vV, hr⟩ := m3.rd
        exact ⟨vL, vV, hr.kpT dT K4⟩
    have HX : Hid (X < S ∧ E < S ∧ ∀ b ∈ its.map Im.b, b < S) := by
      refine ⟨by rw [← hS]; exact (Array.getElem?_eq_some_iff.1 HM1.out.pair).1, ?_, fun b hb => ?_⟩
      · obtain ⟨vL, vV, hr⟩ := HM1.out.rd
        rw [← hS]
        exact hr.lt
      · obtain ⟨i, hi, rfl⟩ := List.mem_map.1 hb
        rw [← hS]
        exact (HM1.out.dct.items i hi).lt
    have hw1 := HB1.out.size
    have hK4 : Kp [S, S + 1] w1 w4 := (Kp.of_below hb23).trans (K4.mono (fun b hb => by simp at hb; simp [hb]))
    have hB4 : Below w.heap.size w w4 := hK4.below HB1.out hw1 (fun b hb => by simp at hb; omega)
    have hs4 : S + 1 < w4.heap.size := d4.lt
    obtain ⟨Y, hY⟩ : ∃ n, w4.heap.size = n := ⟨_, rfl⟩
    obtain ⟨w5, hw5⟩ : ∃ x, w4.alloc (.cells #[.pointer (some ⟨X, 0, none⟩), .pointer (some ⟨S, 0, none⟩), .pointer (some ⟨S + 1, 0, none⟩)] 39) = x := ⟨_, rfl⟩
    have hb5 : Below w4.heap.size w4 w5 := hw5 ▸ (Below.refl _ _).alloc (Nat.le_refl _) _
    have pY : w5.heap[Y]? = some (.cells #[.pointer (some ⟨X, 0, none⟩), .pointer (some ⟨S, 0, none⟩), .pointer (some ⟨S + 1, 0, none⟩)] 39 (0, 0)) := by rw [← hw5, ← hY]; exact heap_alloc_new w4 _
    have HJ : Hid (Jt w ⟨Y, X, D, R, E, S, S + 1⟩ its its Ss.nul Ss.nul none 0 none 0 w5) := by
      obtain ⟨d1, d2, d3, d5⟩ := HM4.out
      obtain ⟨x1, x2, x3⟩ := HX.out
      exact ⟨Pv.nul (d1.below hb5) (d5.below hb5) x3, Dv.nul (by obtain ⟨vL, vV, hr⟩ := d2; exact ⟨vL, vV, hr.below hb5⟩) (d4.below hb5) (by show E < S + 1; omega) HM1.out.len HOK.out HM1.out.dct.apart, (hb5.block X (Array.getElem?_eq_some_iff.1 d3).1).trans d3, pY, hB4.trans (hb5.mono hB4.size), HM1.out.base, HM1.out.bE, by show w.heap.size ≤ S; omega, by show w.heap.size ≤ S + 1; omega, by show E < S ∧ S < S + 1 ∧ S + 1 < Y ∧ X < S; omega, (fun b hb => by simp [blk] at hb), (fun b hb => by simp [blk] at hb), fun b hb => by simp [blk] at hb⟩
    clear hRs dT d4 K4 hK4 HM4 pS HM1 HM2 hb2 hb3 hb23 cY0 cY1
    go_wp2_with fail
    go_ret2
    exact ⟨HJ.out.below, fun h => absurd hc h, fun _ => ⟨⟨Y, X, D, R, E, S, S + 1⟩, its, rfl, HJ.out, HPR.out, HVL.out⟩⟩
  · obtain rfl := hbad hc
    clear hbad hgood
    go_wp2
    go_ret2
    exact ⟨B1, fun _ => rfl, fun h => absurd h hc⟩
end Go.Proofs.YtahfnknbmikmkaaGreat
namespace Go.Proofs.YtahfnknbmikmkaaGreat
open Go.RowKit Go.Proofs.Ty
set_option linter.unusedVariables false
set_option maxRecDepth 1000000
set_option linter.unusedSimpArgs false
def v10 : Vl := ⟨6, 5, ⟨#[]⟩, by decide, by decide, by decide⟩
def e10 : En := ⟨8192, 1, 2, false, false, Vl.nul, Vl.nul, v10, by decide, by decide, by decide⟩
def qa : F8 := ⟨64, 0, 32, 1, 0, 0, 0, 0⟩
def qb : F8 := ⟨43, 0, 32, 1, 7, 0, 0, 0⟩
def fa : F8 := ⟨75, 0, 32, 1, 5, 0, 0, 0⟩
def fb : F8 := ⟨96, 0, 32, 1, 0, 0, 0, 0⟩
theorem l10_chk : chkL [e10] = 0 := by decide +kernel
theorem l10_pl : e10.plain = e10 := by
  have h : e10.df.plain = e10.df := (vlB_iff _ _).1 (by decide +kernel)
  show ({ e10 with df := e10.df.plain } : En) = e10
  rw [h]
theorem l10_en : v10.enc = [5, 0] := by decide +kernel
theorem l10_dE : decE 6 [7, 0] = 0 := by decide +kernel
theorem l10_n : (decW 6 [7, 0]).n = 7 := by decide +kernel
section
variable {b : Nat} {v : Vl}
theorem l10_rd : hndO [⟨b, e10, v10⟩] Ss.nul qa = (.ok fa, [⟨b, e10, v10⟩], Ss.nul) := by
  have h1 : hndO [⟨b, e10, v10⟩] Ss.nul qa = redO [⟨b, e10, v10⟩] qa := rfl
  have h2 : rdC [⟨b, e10, v10⟩] (pix qa) (psb qa) = 0 := rfl
  have h3 : rdL [⟨b, e10, v10⟩] (pix qa) (psb qa) = [5, 0] := by
    show v10.enc = [5, 0]
    exact l10_en
  rw [h1]
  unfold redO
  rw [h2, h3]
  rfl
theorem l10_wc : wc [⟨b, e10, v⟩] 8192 1 [7, 0] = 0 := by
  show wcode ⟨b, e10, v⟩ [7, 0] = 0
  unfold wcode
  have hn : ¬ ((⟨b, e10, v⟩ : Im).e.ac ≠ 1 ∧ (⟨b, e10, v⟩ : Im).e.ac ≠ 2) := fun h => h.2 rfl
  have hd : decE (⟨b, e10, v⟩ : Im).e.df.t [7, 0] = 0 := l10_dE
  rw [if_neg hn, if_pos hd]
  rfl
theorem l10_wr : hndO [⟨b, e10, v⟩] Ss.nul qb = (.ok fb, [⟨b, e10, decW 6 [7, 0]⟩], Ss.nul) := by
  have h1 : hndO [⟨b, e10, v⟩] Ss.nul qb = wrtO [⟨b, e10, v⟩] qb := rfl
  have h2 : (qb.l.drop 4).take (cnt [⟨b, e10, v⟩] qb) = [7, 0] := rfl
  have h3 : wrt [⟨b, e10, v⟩] (pix qb) (psb qb) [7, 0] = [⟨b, e10, decW 6 [7, 0]⟩] := by
    show (if wc [⟨b, e10, v⟩] 8192 1 [7, 0] = 0 then _ else _) = _
    rw [if_pos l10_wc]
    show setV [⟨b, e10, v⟩] b (decW 6 [7, 0]) = _
    simp [setV]
  have h4 : wc [⟨b, e10, v⟩] (pix qb) (psb qb) [7, 0] = 0 := l10_wc
  rw [h1, wrtO_at _ _ (by decide), h2, h3, h4]
  rfl
end
theorem bg_one {w x : World} {X D R E : Nat} {its : List Im} {vL vV : Value} (h : Bg w X D R E its [e10] vL vV x) : ∃ b, its = [⟨b, e10, v10⟩] ∧ w.heap.size ≤ b := by
  have hp := h.perm
  have hl : its.length = 1 := by have := hp.length_eq; simpa only [List.length_map, List.length_cons, List.length_nil] using this
  obtain ⟨i, rfl⟩ := List.length_eq_one_iff.1 hl
  have hv := h.vals i (List.mem_singleton.2 rfl)
  have hb := h.base i (List.mem_singleton.2 rfl)
  have he : i.e = e10 := by
    have h2 : [i.e] = [e10.plain] := List.perm_singleton.1 hp
    rw [l10_pl] at h2
    injection h2
  obtain ⟨b, e, v⟩ := i
  simp only at hv he hb
  subst he
  exact ⟨b, by rw [hv]; rfl, hb⟩
theorem eqF {w : World} {ops : Array Oper} {rest : List Oper} {o : Oper} {a : Act} {Q : Exit → Act → World → Prop} {t : TypeId} (f : F8) (hgd : Region.wanted o (yielded ops a.tmps) = true) (x y : Operand) (ho : o.op = .binOp .eql 32 x y t) (hx : a.eval x = .agg f.arr) (hy : a.eval y = .agg f.arr)
    (hh : wpList Tryz.prog ops Q rest (a.put o.dst (.bool true)) w) : wpList Tryz.prog ops Q (o :: rest) a w := by
  refine BigFrame.wpList_want hgd fun K hK => ?_
  have h2 := hK _ _ hh
  unfold Oper.wp
  rw [exec_eql8 f ho hx hy w]
  exact h2
set_option maxHeartbeats 8000000 in
theorem lives10_any (w : World) : Calls Tryz.prog 11 #[] w fun e w' => e = .returned (.bool true) ∧ Below w.heap.size w w' := by
  have hWi := wide_new DE w e10 93
  have b1 : Below w.heap.size w (w.alloc (.cells e10.arr 93)) := (Below.refl _ _).alloc (Nat.le_refl _) _
  have hB := (Begins_any _ _ _ hWi (by decide)).mono fun _ _ h => h.2.2 l10_chk
  obtain ⟨W, hW⟩ : ∃ x, w.alloc (.cells e10.arr 93) = x := ⟨_, rfl⟩
  have HB1 := hidOf2 b1
  clear hWi b1
  go_enter Tryz.func11, Tryz.ntmps11
  go_wp2_with (first | (refine one_bs DE e10 22 93 _ 120 rfl _ rfl rfl Tryz.underlying22 infoEz (by decide) ?_))
  refine hB.mono ?_
  rintro e w2 ⟨X, D, R, E, its, vL, vV, rfl, N2⟩
  obtain ⟨b, rfl, hb⟩ := bg_one N2
  have HB2 := hidOf2 (HB1.out.trans (N2.below.mono HB1.out.size))
  have hbw : w.heap.size ≤ b := Nat.le_trans HB1.out.size hb
  have cX0 : w2.cell? ⟨X, 0, none⟩ = some (.pointer (some ⟨D, 0, none⟩)) := Lib.cell_of_heap N2.pair 0
  have HD2 := hidOf2 N2.dct
  have HX2 := hidOf2 N2.pair
  obtain ⟨S, hS⟩ : ∃ n, w2.heap.size = n := ⟨_, rfl⟩
  have hNw := New10_any D w2
  rw [hS] at hNw
  clear hB N2 hb HB1
  go_wp2_with fail
  refine hNw.mono ?_
  rintro e w3 ⟨rfl, hw3⟩
  have hb3 : Below w2.heap.size w2 w3 := hw3 ▸ (Below.refl _ _).alloc (Nat.le_refl _) _
  have pS : Pb S D Ss.nul none 0 w3 := by rw [hw3, ← hS]; exact heap_alloc_new w2 _
  have P3 := Pv.nul (HD2.out.below hb3) pS (fun c hc => by
    obtain ⟨i, hi, rfl⟩ := List.mem_map.1 hc
    rw [← hS]
    exact (HD2.out.items i hi).lt)
  have B3 := HB2.out.trans (hb3.mono HB2.out.size)
  have hX3 := (hb3.block X (Array.getElem?_eq_some_iff.1 HX2.out).1).trans HX2.out
  have hwS : w.heap.size ≤ S := by rw [← hS]; exact HB2.out.size
  have hH := Handle_any P3 qa
  have HXS := hidOf2 (show X < S by rw [← hS]; exact (Array.getElem?_eq_some_iff.1 HX2.out).1)
  have HXB := hidOf2 (show X ≠ b from fun e => by
    have h1 := HD2.out.b (i := ⟨b, e10, v10⟩) (List.mem_singleton.2 rfl)
    rw [show (⟨b, e10, v10⟩ : Im).b = X from e.symm, HX2.out] at h1
    injection h1 with h1
    injection h1 with _ h2
    revert h2
    decide)
  clear hNw hw3 hb3 pS HD2 HX2 HB2 P3 cX0
  go_wp2_with fail
  refine hH.mono ?_
  rintro e w4 ⟨he, ap, cq, P4, K4, f4⟩
  rw [l10_rd] at he P4
  change e = .returned (.tuple #[.agg fa.arr, .bool true]) at he
  subst he
  have hno : ∀ j, j < S → j ≠ b → j ∉ S :: (wl Ss.nul none ++ ([⟨b, e10, v10⟩] : List Im).map Im.b) := fun j h1 h2 hm => by
    simp [wl, Ss.nul] at hm
    omega
  have B4 : Below w.heap.size w w4 := K4.below B3 B3.size (fun c hc => by simp [wl, Ss.nul] at hc; omega)
  have hX4 := (K4.block X (Array.getElem?_eq_some_iff.1 hX3).1 (hno X HXS.out HXB.out)).trans hX3
  obtain ⟨z, hz⟩ : ∃ n, w4.heap.size = n := ⟨_, rfl⟩
  have y1 : Qb z F8.nul (w4.alloc (.cells zA8 32)) := by rw [← hz]; exact heap_alloc_new w4 _
  have ba : Below w4.heap.size w4 (w4.alloc (.cells zA8 32)) := (Below.refl _ _).alloc (Nat.le_refl _) _
  have y2 := y1.row fa
  have by2 := below_row ba (by omega) (by rw [size_alloc]; omega) (q := z) fa.arr
  have Hy : Hid (∀ Z, Z = (w4.alloc (.cells zA8 32)).setRow z fa.arr → Qb z fa Z ∧ Below w4.heap.size w4 Z) := fun Z hZ => by subst hZ; exact ⟨y2, by2⟩
  have HP4 := hidOf2 P4
  have HB4 := hidOf2 B4
  have HX4 := hidOf2 hX4
  clear hH K4 f4 y2 by2 ba hX3 B3 P4 B4 hX4 hno
  go_upto_region 8 with (first | (refine sdF (g := fa) y1 rfl _ _ rfl rfl rfl ?_))
  change Code.wp Tryz.prog _ _ _ ((w4.alloc (.cells zA8 32)).setRow z fa.arr)
  generalize hZ : (w4.alloc (.cells zA8 32)).setRow z fa.arr = w5
  obtain ⟨y3, b5⟩ := Hy.out w5 hZ.symm
  have P5 := HP4.out.below b5
  have B5 := HB4.out.trans (b5.mono HB4.out.size)
  have hX5 := (b5.block X (Array.getElem?_eq_some_iff.1 HX4.out).1).trans HX4.out
  have hzS : S < z := by rw [← hz]; exact HP4.out.head.lt
  have hH := Handle_any P5 qb
  have hapn : wl Ss.nul ap = [] := rfl
  clear Hy hZ y1 HP4 HB4 HX4
  go_wp2_with fail
  refine hH.mono ?_
  rintro e w6 ⟨he, ar, cr, P6, K6, f6⟩
  rw [l10_wr] at he P6
  change e = .returned (.tuple #[.agg fb.arr, .bool true]) at he
  subst he
  have hno : ∀ j, j ≠ S → j ≠ b → j ∉ S :: (wl Ss.nul ap ++ ([⟨b, e10, v10⟩] : List Im).map Im.b) := fun j h1 h2 hm => by
    rw [hapn] at hm
    simp at hm
    omega
  have hbS : b < S := P5.near b (by simp)
  have B6 : Below w.heap.size w w6 := K6.below B5 B5.size (fun c hc => by rw [hapn] at hc; simp at hc; omega)
  have hX6 := (K6.block X (Array.getElem?_eq_some_iff.1 hX5).1 (hno X (by have := HXS.out; omega) HXB.out)).trans hX5
  have y6 : Qb z fa w6 := (K6.block z y3.lt (hno z (by omega) (by omega))).trans y3
  obtain ⟨zb, hzb⟩ : ∃ n, w6.heap.size = n := ⟨_, rfl⟩
  have x1 : Qb zb F8.nul (w6.alloc (.cells zA8 32)) := by rw [← hzb]; exact heap_alloc_new w6 _
  have ba : Below w6.heap.size w6 (w6.alloc (.cells zA8 32)) := (Below.refl _ _).alloc (Nat.le_refl _) _
  have x2 := x1.row fb
  have bx2 := below_row ba (by omega) (by rw [size_alloc]; omega) (q := zb) fb.arr
  have Hy : Hid (∀ Z, Z = (w6.alloc (.cells zA8 32)).setRow zb fb.arr → Qb zb fb Z ∧ Below w6.heap.size w6 Z) := fun Z hZ => by subst hZ; exact ⟨x2, bx2⟩
  have HP6 := hidOf2 P6
  have HB6 := hidOf2 B6
  have HX6 := hidOf2 hX6
  have HY6 := hidOf2 y6
  clear hH K6 f6 x2 bx2 ba hX5 B5 P5 y3 b5 P6 B6 hX6 y6 hno
  go_upto_region 9 with (first | (refine sdF (g := fb) x1 rfl _ _ rfl rfl rfl ?_))
  change Code.wp Tryz.prog _ _ _ ((w6.alloc (.cells zA8 32)).setRow zb fb.arr)
  generalize hZ : (w6.alloc (.cells zA8 32)).setRow zb fb.arr = w7
  obtain ⟨x3, b7⟩ := Hy.out w7 hZ.symm
  have D7 := HP6.out.dct.below b7
  have B7 := HB6.out.trans (b7.mono HB6.out.size)
  have cX7 : w7.cell? ⟨X, 0, none⟩ = some (.pointer (some ⟨D, 0, none⟩)) := Lib.cell_of_heap ((b7.block X (Array.getElem?_eq_some_iff.1 HX6.out).1).trans HX6.out) 0
  have hG := Get_any D7 8192 1 (by decide) (by decide)
  rw [show getV [⟨b, e10, decW 6 [7, 0]⟩] 8192 1 = decW 6 [7, 0] from rfl, show getE [⟨b, e10, decW 6 [7, 0]⟩] 8192 1 = 0 from rfl] at hG
  have y7 := HY6.out.below b7
  clear Hy hZ x1 HP6 HB6 HX6 HY6 D7 b7
  go_wp2_with fail
  refine hG.mono ?_
  rintro e w8 ⟨rfl, b8⟩
  have y8 := y7.below b8
  have x8 := x3.below b8
  have B8 := B7.trans (b8.mono B7.size)
  obtain ⟨zv, hzv⟩ : ∃ n, w8.heap.size = n := ⟨_, rfl⟩
  have g0 : Va zv Vl.nul (w8.alloc (.cells #[.int .i64 0, .int .u64 0, .string ⟨#[]⟩] 52)) := hzv ▸ Va.new w8 Vl.nul
  have bv : Below w8.heap.size w8 (w8.alloc (.cells #[.int .i64 0, .int .u64 0, .string ⟨#[]⟩] 52)) := (Below.refl _ _).alloc (Nat.le_refl _) _
  have g1 := g0.row (decW 6 [7, 0])
  have bv2 := below_row bv (by omega) (by rw [size_alloc]; omega) (q := zv) (decW 6 [7, 0]).arr
  have Hy : Hid (∀ Z, Z = (w8.alloc (.cells #[.int .i64 0, .int .u64 0, .string ⟨#[]⟩] 52)).setRow zv (decW 6 [7, 0]).arr → Va zv (decW 6 [7, 0]) Z ∧ Below w8.heap.size w8 Z) := fun Z hZ => by subst hZ; exact ⟨g1, bv2⟩
  clear hG g1 bv2 bv B7 y7 x3 b8
  go_upto_region 10 with (first | (refine g0.sd (decW 6 [7, 0]) rfl _ _ rfl rfl rfl ?_))
  generalize hZ : (w8.alloc (.cells #[.int .i64 0, .int .u64 0, .string ⟨#[]⟩] 52)).setRow zv (decW 6 [7, 0]).arr = w9
  obtain ⟨g2, b9⟩ := Hy.out w9 hZ.symm
  have l9 := (y8.below b9).load
  have k9 := (x8.below b9).load
  have B9 := hidOf2 (B8.trans (b9.mono B8.size))
  have c9 := g2.c1
  rw [l10_n] at c9
  clear Hy hZ g0 y8 x8 b9 B8 g2
  go_wp2_with (first | (refine ldG l9 rfl _ rfl rfl ?_) | (refine ldG k9 rfl _ rfl rfl ?_) | (refine eqF fa rfl _ _ rfl rfl rfl ?_) | (refine eqF fb rfl _ _ rfl rfl rfl ?_))
  go_ret
  exact ⟨rfl, B9.out⟩
end Go.Proofs.YtahfnknbmikmkaaGreat
namespace Go.Proofs.YtahfnknbmikmkaaGreat
open Go.RowKit Go.Proofs.Ty
set_option linter.unusedVariables false
set_option maxRecDepth 1000000
set_option linter.unusedSimpArgs false
def expF (s : Ss) : F8 := if s.dn = 0 then F8.nul else frm 128 s.ix s.sb 84148224
def expB (s : Ss) : Bool := decide (s.dn ≠ 0)
def expS (s : Ss) : Ss := if s.dn = 0 then s else Ss.nul
theorem ex_results {Q : Nat} {f : F8} {b : Bool} {w : World} (h : Qb Q f w) (tmps : Array Value) (h2 : tmps[2]?.getD undef = .pointer (some ⟨Q, 0, none⟩)) (h3 : tmps[3]?.getD undef = .bool b) :
    (results Tryz.f12 tmps).run Tryz.prog w = .ok (.tuple #[.agg f.arr, .bool b]) w := by
  have l0 := h.load
  simp [Go.results, Tryz.results12, h2, h3, asAddr, l0]
theorem rex_results {Q : Nat} {f : F8} {b : Bool} {w : World} (h : Qb Q f w) (tmps : Array Value) (h2 : tmps[2]?.getD undef = .pointer (some ⟨Q, 0, none⟩)) (h3 : tmps[3]?.getD undef = .bool b) :
    (results Tryz.f13 tmps).run Tryz.prog w = .ok (.tuple #[.agg f.arr, .bool b]) w := by
  have l0 := h.load
  simp [Go.results, Tryz.results13, h2, h3, asAddr, l0]
theorem enterAb : ∀ args x, (callFunc 18 args).run Tryz.prog x = .ok (.enter 18 args) x := fun _ _ => by rfl
set_option maxHeartbeats 8000000 in
theorem rsExpire_any {T E : Nat} {s : Ss} {ao : Option Addr} {cp : Nat} {its : List Im} {w : World} (h : Dv T E its s ao cp w) : Calls Tryz.prog 13 #[.pointer (some ⟨T, 0, none⟩)] w fun e w' => e = .returned (.tuple #[.agg (expF s).arr, .bool (expB s)]) ∧ ∃ ap cq, Dv T E its (expS s) ap cq w' ∧ Kp [T, E] w w' ∧ ∀ b ∈ blk ap, b ∈ blk ao ∨ w.heap.size ≤ b := by
  obtain ⟨V, hV⟩ : ∃ W, w.alloc (.cells zA8 32) = W := ⟨_, rfl⟩
  obtain ⟨k, hk⟩ : ∃ k, w.heap.size = k := ⟨_, rfl⟩
  have b0 : Below w.heap.size w V := hV ▸ (Below.refl _ _).alloc (Nat.le_refl _) _
  have r0 : Qb k F8.nul V := by rw [← hk, ← hV]; exact heap_alloc_new w _
  have h0 := h.below b0
  have hTk : T < k := by rw [← hk]; exact h.head.lt
  have hET := h.et
  have HLW := hidOf2 (show ∀ b ∈ blk ao, b < k from fun b hb => by rw [← hk]; exact h.lt b hb)
  have c1 := h0.head.c.2.1
  have HH0 := hidOf2 h0
  have HB0 := hidOf2 b0
  have hok := h.ok
  clear h h0 b0
  by_cases hd : s.dn = 0
  · have e1 : expF s = F8.nul := if_pos hd
    have e2 : expB s = false := by unfold expB; simp [hd]
    have e3 : expS s = s := if_pos hd
    rw [e1, e2, e3]
    rw [hd] at c1
    have c1 : V.cell? ⟨T, 1, none⟩ = some (.int .i64 0) := c1
    have r1 := r0.row F8.nul
    have HZ := hidOf2 (HH0.out.row r0 (fun b hb => by have := HLW.out b hb; omega) F8.nul.arr)
    have HK := hidOf2 ((Kp.of_below (bs := [T, E]) HB0.out).fresh (Kp.setRow1 V k F8.nul.arr) (fun b hb => .inr (by simp at hb; omega)))
    clear e1 e2 e3 HH0
    go_enter Tryz.func13, Tryz.ntmps13
    go_upto_region 1 with fail
    change Code.wp Tryz.prog _ _ _ (w.alloc (.cells zA8 32))
    rw [hV]
    go_wp2_with (first | (refine sdF (g := F8.nul) r0 rfl _ _ rfl rfl rfl ?_))
    exact bodyPost_ret (rex_results r1 _ rfl rfl) rfl ⟨rfl, ao, cp, HZ.out, HK.out, fun b hb => .inl hb⟩
  · have e1 : expF s = frm 128 s.ix s.sb 84148224 := if_neg hd
    have e2 : expB s = true := by unfold expB; simp [hd]
    have e3 : expS s = Ss.nul := if_neg hd
    rw [e1, e2, e3]
    have dd : ((s.dn : Int) == 0) = false := by simp; omega
    have hE := ends_any HH0.out.head 84148224 hok.ix hok.sb (by decide)
    obtain ⟨ff, hff⟩ : ∃ f, frm 128 s.ix s.sb 84148224 = f := ⟨_, rfl⟩
    rw [hff] at hE ⊢
    clear e1 e2 e3 hff
    go_enter Tryz.func13, Tryz.ntmps13
    go_upto_region 1 with fail
    change Code.wp Tryz.prog _ _ _ (w.alloc (.cells zA8 32))
    rw [hV]
    go_wp2_with fail
    refine hE.mono ?_
    rintro e w7 ⟨rfl, d7, K7⟩
    have r7 : Qb k F8.nul w7 := (K7.block _ r0.lt (by simp; omega)).trans r0
    have r8 := r7.row ff
    have r7l := r7.lt
    have HZ : Hid (Dv T E its Ss.nul none 0 (w7.setRow k ff.arr) ∧ Kp [T, E] w (w7.setRow k ff.arr)) := by
      obtain ⟨vL, vV, hr⟩ := HH0.out.rd
      exact ⟨Dv.nul ⟨vL, vV, (hr.kpT HH0.out.head K7).row r7 _⟩ ((setRow_other _ _ _ _ (by omega)).trans d7) hET HH0.out.len HH0.out.oks HH0.out.nod, ((Kp.of_below (bs := [T, E]) HB0.out).fresh K7 (fun b hb => .inl (by simp at hb; simp [hb]))).fresh (Kp.setRow1 _ _ _) (fun b hb => .inr (by simp at hb; omega))⟩
    clear hE d7 K7 HH0
    go_wp2_with (first | (refine sdF (g := ff) r7 rfl _ _ rfl rfl rfl ?_))
    exact bodyPost_ret (rex_results r8 _ rfl rfl) rfl ⟨rfl, none, 0, HZ.out.1, HZ.out.2, fun b hb => by simp [blk] at hb⟩
set_option maxHeartbeats 8000000 in
theorem svExpire_any {S D R : Nat} {s : Ss} {ao : Option Addr} {cp : Nat} {its : List Im} {w : World} (h : Pv S D R its s ao cp w) : Calls Tryz.prog 12 #[.pointer (some ⟨S, 0, none⟩)] w fun e w' => e = .returned (.tuple #[.agg (expF s).arr, .bool (expB s)]) ∧ ∃ ap cq, Pv S D R its (expS s) ap cq w' ∧ Kp (S :: (wl s ao ++ its.map Im.b)) w w' ∧ ∀ b ∈ blk ap, b ∈ blk ao ∨ w.heap.size ≤ b := by
  obtain ⟨wb, hV⟩ : ∃ W, w.alloc (.cells zA8 32) = W := ⟨_, rfl⟩
  obtain ⟨k, hk⟩ : ∃ k, w.heap.size = k := ⟨_, rfl⟩
  have b0 : Below w.heap.size w wb := hV ▸ (Below.refl _ _).alloc (Nat.le_refl _) _
  have r0 : Qb k F8.nul wb := by rw [← hk, ← hV]; exact heap_alloc_new w _
  have h0 := h.below b0
  have hSk : S < k := by rw [← hk]; exact h.head.lt
  have HLW := hidOf2 (show ∀ b ∈ blk ao, b < k from fun b hb => by rw [← hk]; exact h.lt b hb)
  have c3 := h0.head.c.2.2.2.1
  have HH0 := hidOf2 h0
  have HB0 := hidOf2 b0
  have hok := h.ok
  clear h h0 b0
  have hty : ∀ {x : World} {f : F8}, Qb k f x → ∀ b ∈ [k], ∃ (A : Array Value) (T : TypeId) (fr : Nat × Nat), x.heap[b]? = some (Obj.cells A T fr) ∧ T ≠ 113 ∧ T ≠ 102 ∧ T ≠ 106 ∧ T ≠ 91 := fun {x f} hq b hb => by
    simp at hb
    subst hb
    exact ⟨_, _, _, hq, by decide, by decide, by decide, by decide⟩
  by_cases hd : s.dn = 0
  · have e1 : expF s = F8.nul := if_pos hd
    have e2 : expB s = false := by unfold expB; simp [hd]
    have e3 : expS s = s := if_pos hd
    rw [e1, e2, e3]
    rw [hd] at c3
    have c3 : wb.cell? ⟨S, 3, none⟩ = some (.int .i64 0) := c3
    have r1 := r0.row F8.nul
    have HZ := hidOf2 (HH0.out.kp (Kp.setRow1 wb k F8.nul.arr) (hty r0) (fun b hb => by have := HLW.out b hb; simp; omega))
    have HK := hidOf2 ((Kp.of_below (bs := S :: (wl s ao ++ its.map Im.b)) HB0.out).fresh (Kp.setRow1 wb k F8.nul.arr) (fun b hb => .inr (by simp at hb; omega)))
    clear e1 e2 e3 HH0 hty
    go_enter Tryz.func12, Tryz.ntmps12
    go_upto_region 1 with fail
    change Code.wp Tryz.prog _ _ _ (w.alloc (.cells zA8 32))
    rw [hV]
    go_wp2_with (first | (refine sdF (g := F8.nul) r0 rfl _ _ rfl rfl rfl ?_))
    exact bodyPost_ret (ex_results r1 _ rfl rfl) rfl ⟨rfl, ao, cp, HZ.out, HK.out, fun b hb => .inl hb⟩
  · have e1 : expF s = frm 128 s.ix s.sb 84148224 := if_neg hd
    have e2 : expB s = true := by unfold expB; simp [hd]
    have e3 : expS s = Ss.nul := if_neg hd
    rw [e1, e2, e3]
    have dd : ((s.dn : Int) == 0) = false := by simp; omega
    have HFR : Hid (∀ V, Calls Tryz.prog 18 #[.int .u16 (s.ix : Int), .int .u8 (s.sb : Int), .int .u32 84148224] V fun e w' => e = .returned (.agg (frm 128 s.ix s.sb 84148224).arr) ∧ Below V.heap.size V w') := fun V => Abort_any _ _ 84148224 V hok.ix hok.sb (by decide)
    obtain ⟨ff, hff⟩ : ∃ f, frm 128 s.ix s.sb 84148224 = f := ⟨_, rfl⟩
    have HSS : Hid (∀ y, Below wb.heap.size wb y → y.cell? ⟨S, 1, none⟩ = some (.int .u16 (s.ix : Int)) ∧ y.cell? ⟨S, 2, none⟩ = some (.int .u8 (s.sb : Int))) := fun y hb => ⟨(HH0.out.head.below hb).c.2.1, (HH0.out.head.below hb).c.2.2.1⟩
    rw [hff] at HFR ⊢
    obtain ⟨ix, hix⟩ : ∃ n, s.ix = n := ⟨_, rfl⟩
    obtain ⟨sb, hsb⟩ : ∃ n, s.sb = n := ⟨_, rfl⟩
    rw [hix, hsb] at HFR HSS
    clear e1 e2 e3 hff hix hsb
    have c0 : Below wb.heap.size wb wb.drew := bdr (Below.refl _ _) 1
    have S0 := HSS.out _ c0
    go_enter Tryz.func12, Tryz.ntmps12
    go_upto_region 1 with fail
    change Code.wp Tryz.prog _ _ _ (w.alloc (.cells zA8 32))
    rw [hV]
    go_upto_region 3 with fail
    refine wp_cut (α := Nat) (fun u y => Qb u ff y ∧ Below wb.heap.size wb y) (fun a u => ((((((((((((((a.put (some 12) (.pointer (some ⟨S, 0, none⟩))).put (some 13) (.pointer (some ⟨S, 0, none⟩))).put (some 14) (.pointer (some ⟨S, 1, none⟩))).put (some 15) (.pointer (some ⟨S, 1, none⟩))).put (some 16) (.pointer (some ⟨S, 1, none⟩))).put (some 17) (.int .u16 (ix : Int))).put (some 18) (.pointer (some ⟨S, 0, none⟩))).put (some 19) (.pointer (some ⟨S, 0, none⟩))).put (some 20) (.pointer (some ⟨S, 1, none⟩))).put (some 21) (.pointer (some ⟨S, 1, none⟩))).put (some 22) (.pointer (some ⟨S, 2, none⟩))).put (some 23) (.int .u8 (sb : Int))).put (some 24) (.agg (ff).arr)).put (some 4) (.pointer (some ⟨u, 0, none⟩)))) ?_ ?_
    · refine wp_region_held (S := fun y => y.cell? ⟨S, 1, none⟩ = some (.int .u16 (ix : Int)) ∧ y.cell? ⟨S, 2, none⟩ = some (.int .u8 (sb : Int))) (by kernel_rfl) ?_
      change wpAnyH _ _ _ _ _ _ _ _ wb.drew
      refine tk 0 (.pointer (some ⟨S, 0, none⟩)) rfl (by kernel_rfl) (fun _ _ _ h => nomatch h.1) rfl (fun _ hS => rfl) S0 ?_
      simp only [zzA, zzB, zzC, Act.put, zzD, zzE, zzF]
      refine tk 1 (.pointer (some ⟨S, 0, none⟩)) rfl (by kernel_rfl) (fun _ _ _ h => nomatch h.1) rfl (fun _ hS => by simp [execOp, go_sem, Act.eval]) S0 ?_
      simp only [zzA, zzB, zzC, Act.put, zzD, zzE, zzF]
      refine tk 2 (.pointer (some ⟨S, 1, none⟩)) rfl (by kernel_rfl) (fun _ _ _ h => nomatch h.1) rfl (fun _ hS => by simp [execOp, go_sem, Act.eval]) S0 ?_
      simp only [zzA, zzB, zzC, Act.put, zzD, zzE, zzF]
      refine tk 3 (.pointer (some ⟨S, 1, none⟩)) rfl (by kernel_rfl) (fun _ _ _ h => nomatch h.1) rfl (fun _ hS => by simp [execOp, go_sem, Act.eval]) S0 ?_
      simp only [zzA, zzB, zzC, Act.put, zzD, zzE, zzF]
      refine tk 4 (.pointer (some ⟨S, 1, none⟩)) rfl (by kernel_rfl) (fun _ _ _ h => nomatch h.1) rfl (fun _ hS => by simp [execOp, go_sem, Act.eval]) S0 ?_
      simp only [zzA, zzB, zzC, Act.put, zzD, zzE, zzF]
      refine tk 5 (.int .u16 (ix : Int)) rfl (by kernel_rfl) (fun _ _ _ h => nomatch h.1) rfl (fun _ hS => exec_load rfl rfl (load_u16 _ _ _ _ hS.1)) S0 ?_
      simp only [zzA, zzB, zzC, Act.put, zzD, zzE, zzF]
      refine tk 6 (.pointer (some ⟨S, 0, none⟩)) rfl (by kernel_rfl) (fun _ _ _ h => nomatch h.1) rfl (fun _ hS => rfl) S0 ?_
      simp only [zzA, zzB, zzC, Act.put, zzD, zzE, zzF]
      refine tk 7 (.pointer (some ⟨S, 0, none⟩)) rfl (by kernel_rfl) (fun _ _ _ h => nomatch h.1) rfl (fun _ hS => by simp [execOp, go_sem, Act.eval]) S0 ?_
      simp only [zzA, zzB, zzC, Act.put, zzD, zzE, zzF]
      refine tk 8 (.pointer (some ⟨S, 1, none⟩)) rfl (by kernel_rfl) (fun _ _ _ h => nomatch h.1) rfl (fun _ hS => by simp [execOp, go_sem, Act.eval]) S0 ?_
      simp only [zzA, zzB, zzC, Act.put, zzD, zzE, zzF]
      refine tk 9 (.pointer (some ⟨S, 1, none⟩)) rfl (by kernel_rfl) (fun _ _ _ h => nomatch h.1) rfl (fun _ hS => by simp [execOp, go_sem, Act.eval]) S0 ?_
      simp only [zzA, zzB, zzC, Act.put, zzD, zzE, zzF]
      refine tk 10 (.pointer (some ⟨S, 2, none⟩)) rfl (by kernel_rfl) (fun _ _ _ h => nomatch h.1) rfl (fun _ hS => by simp [execOp, go_sem, Act.eval]) S0 ?_
      simp only [zzA, zzB, zzC, Act.put, zzD, zzE, zzF]
      refine tk 11 (.int .u8 (sb : Int)) rfl (by kernel_rfl) (fun _ _ _ h => nomatch h.1) rfl (fun _ hS => exec_load rfl rfl (load_u8 _ _ _ _ hS.2)) S0 ?_
      simp only [zzA, zzB, zzC, Act.put, zzD, zzE, zzF]
      refine wpAnyH_all (rs := [12, 13]) (by kernel_rfl) (by simp) ?_
      intro k hk
      simp only [List.mem_cons, List.mem_nil_iff, or_false] at hk
      rcases hk with rfl | rfl
      · refine wpOp_run rfl rfl (wp_call_fn 18 #[.int .u16 (ix : Int), .int .u8 (sb : Int), .int .u32 84148224] (by simp [execOp, go_sem, Act.eval, resolve, invoke, enterAb]) ?_)
        refine (HFR.out wb.drew).mono ?_
        rintro e u1 ⟨rfl, b1⟩
        have c1 := c0.trans (b1.mono c0.size)
        have s1 := HSS.out _ c1
        refine ⟨s1, ?_⟩
        simp only [zzA, zzB, zzC, Act.put, zzD, zzE, zzF]
        refine wpAnyH_all (rs := [13]) (by kernel_rfl) (by simp) ?_
        intro k hk
        simp only [List.mem_cons, List.mem_nil_iff, or_false] at hk
        subst hk
        refine wpOp_run rfl rfl (wp_allocA8 rfl ?_)
        obtain ⟨qv, hqv⟩ : ∃ q, u1.heap.size = q := ⟨_, rfl⟩
        have g2 : Qb u1.heap.size F8.nul (u1.alloc (.cells zA8 32)) := heap_alloc_new u1 (.cells zA8 32)
        have c2 := c1.alloc c1.size (.cells zA8 32)
        have s2 := HSS.out _ c2
        have hqr : wb.heap.size ≤ qv := by rw [← hqv]; exact c1.size
        rw [hqv] at g2 ⊢
        generalize u1.alloc (.cells zA8 32) = u2 at *
        refine ⟨s2, ?_⟩
        simp only [zzA, zzB, zzC, Act.put, zzD, zzE, zzF]
        refine wpAnyH_all (rs := [14]) (by kernel_rfl) (by simp) ?_
        intro k hk
        simp only [List.mem_cons, List.mem_nil_iff, or_false] at hk
        subst hk
        refine wpOp_run rfl rfl (wp_store_row 32 _ _ rfl qv (ff).arr rfl rfl 32 _ g2 (by rw [F8.size]; exact infoA8s) rfl (F8.one _) ?_)
        have gZ := g2.row (ff)
        have cZ := below_row c2 hqr c2.size (q := qv) (ff).arr
        have sZ := HSS.out _ cZ
        refine ⟨sZ, ?_⟩
        simp only [zzA, zzB, zzC, Act.put, zzD, zzE, zzF]
        refine wpAnyH_done (by kernel_rfl) ?_ _
        exact ⟨rfl, qv, rfl, gZ, cZ⟩
      · refine wpOp_run rfl rfl (wp_allocA8 rfl ?_)
        obtain ⟨qv, hqv⟩ : ∃ q, wb.drew.heap.size = q := ⟨_, rfl⟩
        have g1 : Qb wb.drew.heap.size F8.nul (wb.drew.alloc (.cells zA8 32)) := heap_alloc_new wb.drew (.cells zA8 32)
        have c1 := c0.alloc c0.size (.cells zA8 32)
        have s1 := HSS.out _ c1
        have hqr : wb.heap.size ≤ qv := by rw [← hqv]; exact c0.size
        rw [hqv] at g1 ⊢
        generalize wb.drew.alloc (.cells zA8 32) = u1 at *
        refine ⟨s1, ?_⟩
        simp only [zzA, zzB, zzC, Act.put, zzD, zzE, zzF]
        refine wpAnyH_all (rs := [12]) (by kernel_rfl) (by simp) ?_
        intro k hk
        simp only [List.mem_cons, List.mem_nil_iff, or_false] at hk
        subst hk
        refine wpOp_run rfl rfl (wp_call_fn 18 #[.int .u16 (ix : Int), .int .u8 (sb : Int), .int .u32 84148224] (by simp [execOp, go_sem, Act.eval, resolve, invoke, enterAb]) ?_)
        refine (HFR.out u1).mono ?_
        rintro e u2 ⟨rfl, b2⟩
        have c2 := c1.trans (b2.mono c1.size)
        have s2 := HSS.out _ c2
        have g2 := g1.below b2
        refine ⟨s2, ?_⟩
        simp only [zzA, zzB, zzC, Act.put, zzD, zzE, zzF]
        refine wpAnyH_all (rs := [14]) (by kernel_rfl) (by simp) ?_
        intro k hk
        simp only [List.mem_cons, List.mem_nil_iff, or_false] at hk
        subst hk
        refine wpOp_run rfl rfl (wp_store_row 32 _ _ rfl qv (ff).arr rfl rfl 32 _ g2 (by rw [F8.size]; exact infoA8s) rfl (F8.one _) ?_)
        have gZ := g2.row (ff)
        have cZ := below_row c2 hqr c2.size (q := qv) (ff).arr
        have sZ := HSS.out _ cZ
        refine ⟨sZ, ?_⟩
        simp only [zzA, zzB, zzC, Act.put, zzD, zzE, zzF]
        refine wpAnyH_done (by kernel_rfl) ?_ _
        exact ⟨rfl, qv, rfl, gZ, cZ⟩
    intro u y hI
    simp only [Act.put, List.setIfInBounds_toArray, List.set_cons_succ, List.set_cons_zero]
    obtain ⟨g3, b3⟩ := hI
    have P3 := HH0.out.below b3
    have r3 := r0.below b3
    have hR := Reset10_any P3.head
    have HP3 := hidOf2 P3
    have HB3 := hidOf2 (HB0.out.trans (b3.mono HB0.out.size))
    have hSu : S ≠ u := by
      rintro rfl
      have h9 : y.heap[S]? = some (.cells (psA D s ao cp) 91 (0, 0)) := P3.head
      rw [show y.heap[S]? = some (.cells ff.arr 32 (0, 0)) from g3] at h9
      injection h9 with h9
      injection h9 with _ h9
      revert h9
      decide
    clear c0 S0 HSS HFR b3 P3
    go_wp2_with fail
    refine hR.mono ?_
    rintro e w4 ⟨rfl, p4, K4⟩
    have g4 : Qb u ff w4 := (K4.block _ g3.lt (by simp; omega)).trans g3
    have r4 : Qb k F8.nul w4 := (K4.block _ r3.lt (by simp; omega)).trans r3
    have l4 := g4.load
    have r5 := r4.row ff
    have P4 := Pv.nul (HP3.out.dct.kpS HP3.out.head K4) p4 HP3.out.near
    have HP5 := hidOf2 (P4.kp (Kp.setRow1 w4 k ff.arr) (hty r4) (fun b hb => by simp [blk] at hb))
    have HK5 := hidOf2 (((Kp.of_below (bs := S :: (wl s ao ++ its.map Im.b)) HB3.out).fresh K4 (fun b hb => .inl (by simp at hb; simp [hb]))).fresh (Kp.setRow1 w4 k ff.arr) (fun b hb => .inr (by simp at hb; omega)))
    clear hR g3 r3 K4 p4 HB3 P4 hty HP3
    go_wp2_with (first | (refine ldG l4 rfl _ rfl rfl ?_) | (refine sdF (g := ff) r4 rfl _ _ rfl rfl rfl ?_))
    exact bodyPost_ret (ex_results r5 _ rfl rfl) rfl ⟨rfl, none, 0, HP5.out, HK5.out, fun b hb => by simp [blk] at hb⟩
end Go.Proofs.YtahfnknbmikmkaaGreat
