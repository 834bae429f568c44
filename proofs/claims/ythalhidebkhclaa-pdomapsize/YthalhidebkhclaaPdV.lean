/- The small living call of layer 13. -/
import Derived.Test.YthalhidebkhclaaPdU
import Derived.Test.YthalhidebkhclaaPdP
import Derived.Test.YthalhidebkhclaaO15
namespace Go.Proofs.Ythalhidebkhclaa
open Go.RowKit Go.Shelf Go.Proofs.Ty
set_option linter.unusedVariables false
set_option maxRecDepth 1000000
set_option linter.unusedSimpArgs false
def e13 : En := ⟨8192, 0, 2, true, false, Vl.nul, Vl.nul, u5, by decide, by decide, by decide⟩
def s13 : Sl := ⟨8192, 0, 8, by decide, by decide, by decide⟩
theorem l13_chk : chkL [e13] = 0 := by decide +kernel
theorem l13_pl : e13.plain = e13 := by
  have h : e13.df.plain = e13.df := (vlB_iff _ _).1 (by decide +kernel)
  show ({ e13 with df := e13.df.plain } : En) = e13
  rw [h]
theorem l13_en : u5.enc = [5] := by decide +kernel
theorem l13_d : decE 5 [7] = 0 := by decide +kernel
theorem l13_w : (decW 5 [7]).enc = [7] := by decide +kernel
section
variable {b : Nat} {v : Vl}
theorem l13_ref (inn : Bool) : refC [⟨b, e13, v⟩] s13 inn = 0 := by
  have hf : fnd [⟨b, e13, v⟩] s13.ix s13.sb = some ⟨b, e13, v⟩ := rfl
  have ho : opn e13.ac inn = true := by cases inn <;> rfl
  have hb : s13.bt = (siz e13.df.t : Int) * 8 := by decide
  unfold refC
  rw [hf]
  simp only
  rw [if_neg (by rw [ho]; simp [hb]; rfl)]
theorem l13_ck (inn : Bool) : ckC [⟨b, e13, v⟩] inn [s13] = 0 := by
  refine ck_of fun k hk => ?_
  obtain rfl : k = 0 := by simp at hk; exact hk
  exact ⟨l13_ref inn, by decide +kernel⟩
theorem l13_sz : szC [s13] = 1 := by decide +kernel
theorem l13_cat : catK [⟨b, e13, v⟩] [s13] 1 = v.enc := by
  show [] ++ _ = _
  rfl
theorem l13_wc : wc [⟨b, e13, v⟩] 8192 0 [7] = 0 := by
  show wcode ⟨b, e13, v⟩ [7] = 0
  unfold wcode
  rw [if_neg (fun h => h.2 rfl)]
  show (if decE 5 [7] = 0 then bey e13 (decW 5 [7]) else _) = _
  rw [if_pos l13_d]
  rfl
theorem l13_pc : pcL [s13] [7] 0 = [7] := by decide +kernel
theorem l13_wr : wrN [⟨b, e13, v⟩] [s13] [7] 1 = [⟨b, e13, decW 5 [7]⟩] := by
  show wrt [⟨b, e13, v⟩] 8192 0 (pcL [s13] [7] 0) = _
  rw [l13_pc]
  unfold wrt
  rw [if_pos l13_wc]
  show setV [⟨b, e13, v⟩] b (decW 5 [7]) = _
  simp [setV]
end
theorem Dct.b13 {D R : Nat} {its : List Im} {w : World} {i : Im} (h : Dct D R its w) (hi : i ∈ its) : w.heap[i.b]? = some (.cells (imC i.e i.v).toArray 76 (0, 0)) := h.items i hi
theorem build_e13 (x : World) : (Instr.build 59 #[(0, .int .u16 8192), (2, .int .i64 2), (3, .bool true), (7, .agg u5.arr)]).run Try.prog x = .ok (.agg e13.arr) x := by kernel_rfl
theorem build_u5 (x : World) : (Instr.build 42 #[(0, .int .i64 5), (1, .int .u64 5)]).run Try.prog x = .ok (.agg u5.arr) x := by kernel_rfl
theorem build_s13 (x : World) : (Instr.build 47 #[(0, .int .u16 8192), (2, .int .i64 8)]).run Try.prog x = .ok (.agg s13.arr) x := by kernel_rfl
theorem bg_one13 {w x : World} {X D R E : Nat} {its : List Im} {vL vV : Value} (h : Bg w X D R E its [e13] vL vV x) : ∃ b, its = [⟨b, e13, u5⟩] ∧ w.heap.size ≤ b := by
  have hp := h.perm
  have hl : its.length = 1 := by have := hp.length_eq; simpa only [List.length_map, List.length_cons, List.length_nil] using this
  obtain ⟨i, rfl⟩ := List.length_eq_one_iff.1 hl
  have hv := h.vals i (List.mem_singleton.2 rfl)
  have hb := h.base i (List.mem_singleton.2 rfl)
  have he : i.e = e13 := by
    have h2 : [i.e] = [e13.plain] := List.perm_singleton.1 hp
    rw [l13_pl] at h2
    injection h2
  obtain ⟨b, e, v⟩ := i
  simp only at hv he hb
  subst he
  exact ⟨b, by rw [hv]; rfl, hb⟩
set_option maxHeartbeats 8000000 in
theorem lives13_any (w : World) : Calls Try.prog 7 #[] w fun e w' => e = .returned (.bool true) ∧ Below w.heap.size w w' := by
  have hWi := wide_new DE w e13 59
  have b1 : Below w.heap.size w (w.alloc (.cells e13.arr 59)) := (Below.refl _ _).alloc (Nat.le_refl _) _
  have hB := (Begins_any _ _ _ hWi (by decide)).mono fun _ _ h => h.2.2 l13_chk
  obtain ⟨W, hW⟩ : ∃ x, w.alloc (.cells e13.arr 59) = x := ⟨_, rfl⟩
  have HB1 := hidOf2 b1
  have hb1 := build_u5
  have hb2 := build_e13
  clear hWi b1
  go_enter Try.func7, Try.ntmps7
  go_wp2_with (first | (refine one_bs DE e13 22 59 _ 120 rfl _ rfl rfl Try.underlying22 infoEz (by decide) ?_))
  refine hB.mono ?_
  rintro e w2 ⟨X, D, R, E, its, vL, vV, rfl, N2⟩
  have hfit := fit_bg N2 l13_chk
  obtain ⟨b, rfl, hb⟩ := bg_one13 N2
  have HB2 := hidOf2 (HB1.out.trans (N2.below.mono HB1.out.size))
  have hbw : w.heap.size ≤ b := Nat.le_trans HB1.out.size hb
  have HD2 := hidOf2 N2.dct
  have HX2 := hidOf2 N2.pair
  have HF := hidOf2 hfit
  clear hB N2 hb HB1 hb1 hb2 hfit
  have hb3 := build_s13
  have hWs := wide_new DS w2 s13 47
  have b3 : Below w2.heap.size w2 (w2.alloc (.cells s13.arr 47)) := (Below.refl _ _).alloc (Nat.le_refl _) _
  have hqb : b < w2.heap.size := (HD2.out.items _ (List.mem_singleton.2 rfl)).lt
  have hqX : X < w2.heap.size := (Array.getElem?_eq_some_iff.1 HX2.out).1
  have HXb := hidOf2 (show X ≠ b from fun e => by
    have h1 := HD2.out.b13 (i := ⟨b, e13, u5⟩) (List.mem_singleton.2 rfl)
    rw [show (⟨b, e13, u5⟩ : Im).b = X from e.symm, HX2.out] at h1
    injection h1 with h1
    injection h1 with _ h2
    revert h2
    decide)
  have X3 := (b3.block X hqX).trans HX2.out
  have D3 := HD2.out.below b3
  have B3 := HB2.out.trans (b3.mono HB2.out.size)
  obtain ⟨q, hq⟩ : ∃ q, w2.heap.size = q := ⟨_, rfl⟩
  rw [hq] at hWs hqb hqX
  obtain ⟨w3, hw3⟩ : ∃ x, w2.alloc (.cells (DS.dec s13).toArray 47) = x := ⟨_, rfl⟩
  have hw3' : w2.alloc (.cells s13.arr 47) = w3 := hw3
  rw [hw3] at hWs
  rw [hw3'] at X3 D3 B3
  clear hw3'
  have hPk := pdPack_ok D3 _ [s13] hWs (by decide) (l13_ck false) (fit_mn HF.out) (fit_vn HF.out)
  rw [l13_sz, pk_all (fit_vn HF.out) (l13_ck false), show ([s13] : List Sl).length = 1 from rfl, l13_cat, l13_en] at hPk
  have cX3 : w3.cell? ⟨X, 0, none⟩ = some (.pointer (some ⟨D, 0, none⟩)) := Lib.cell_of_heap X3 0
  have HWS := hidOf2 hWs
  have HX3 := hidOf2 X3
  have HD3 := hidOf2 D3
  have HB3 := hidOf2 B3
  clear hWs X3 D3 B3 HD2 HX2 HB2 b3
  go_wp2_with (first | (refine one_bs DS s13 23 47 _ 16 rfl _ rfl rfl Try.underlying23 infoSz3 (by decide) ?_))
  refine hPk.mono ?_
  rintro e w4 ⟨g, rfl, b4, hg4, K4⟩
  have hT := (K4.bytes (cap := 1) 1 rfl).text
  have hWs4 : Wide 3 slC w4 (.slice (some ⟨q, 0, none⟩) 1 1) [s13] := HWS.out.same b4.size (fun b _ hl => b4.block b hl)
  have hSz := pdSize_any _ [s13] hWs4 (by decide)
  rw [l13_sz] at hSz
  have X4 := (b4.block X (Array.getElem?_eq_some_iff.1 HX3.out).1).trans HX3.out
  have D4 := HD3.out.below b4
  have B4 := HB3.out.trans (b4.mono HB3.out.size)
  have HQ := hidOf2 (And.intro hWs4 (And.intro X4 (And.intro D4 B4)))
  clear hPk K4 HWS HX3 HD3 HB3 hWs4 X4 D4 B4 b4 cX3
  go_wp2_with fail
  refine hSz.mono ?_
  rintro e w5 ⟨rfl, b5⟩
  obtain ⟨q1, q2, q3, q4⟩ := HQ.out
  have hWs5 : Wide 3 slC w5 (.slice (some ⟨q, 0, none⟩) 1 1) [s13] := q1.same b5.size (fun b _ hl => b5.block b hl)
  have X5 := (b5.block X (Array.getElem?_eq_some_iff.1 q2).1).trans q2
  have D5 := q3.below b5
  have B5 := q4.trans (b5.mono q4.size)
  have cX5 : w5.cell? ⟨X, 0, none⟩ = some (.pointer (some ⟨D, 0, none⟩)) := Lib.cell_of_heap X5 0
  clear hSz HQ q1 q2 q3 q4 b5 hT
  obtain ⟨w6, hw6⟩ : ∃ x, w5.alloc (.cells #[.int .u8 7] 5) = x := ⟨_, rfl⟩
  have b6 : Below w5.heap.size w5 w6 := by rw [← hw6]; exact (Below.refl _ _).alloc (Nat.le_refl _) _
  have hby : Bytes w6 (.slice (some ⟨w5.heap.size, 0, none⟩) 1 1) [7] := by rw [← hw6]; exact bytes1 w5 7
  have hWs6 : Wide 3 slC w6 (.slice (some ⟨q, 0, none⟩) 1 1) [s13] := hWs5.same b6.size (fun b _ hl => b6.block b hl)
  have X6 := (b6.block X (Array.getElem?_eq_some_iff.1 X5).1).trans X5
  have D6 := D5.below b6
  have B6 := B5.trans (b6.mono B5.size)
  have hb5 : b < w5.heap.size := (D5.items _ (List.mem_singleton.2 rfl)).lt
  have hUn := pdUnpack_ok D6 _ [s13] hWs6 (by decide) _ [7] hby (by rintro ao n c e; injection e with _ e2 e3; omega) (by decide) (l13_ck true) (fit_mn HF.out) (by rw [l13_sz]; decide) (fun k hk => by
    obtain rfl : k = 0 := by simp at hk; exact hk
    rw [l13_pc]
    exact l13_wc) (fun y hy => by simp [Value.ownBlock] at hy; simp; omega) (fun y hy => by simp [Value.ownBlock] at hy; simp; omega)
  rw [show ([s13] : List Sl).length = 1 from rfl, l13_wr] at hUn
  have HQ := hidOf2 (And.intro hWs6 (And.intro X6 B6))
  clear X5 D5 B5 hWs5 hby hWs6 X6 D6 B6 b6
  go_wp2_with fail
  refine hUn.mono ?_
  rintro e w7 ⟨rfl, D7, K7⟩
  obtain ⟨q1, q2, q4⟩ := HQ.out
  have hWs7 : Wide 3 slC w7 (.slice (some ⟨q, 0, none⟩) 1 1) [s13] := K7.wide q1 (fun y hy => by simp [Value.ownBlock] at hy; simp; omega)
  have X7 := (K7.block X (Array.getElem?_eq_some_iff.1 q2).1 (by simp; exact HXb.out)).trans q2
  have B7 := K7.below q4 q4.size (fun y hy => by simp at hy; omega)
  have cX7 : w7.cell? ⟨X, 0, none⟩ = some (.pointer (some ⟨D, 0, none⟩)) := Lib.cell_of_heap X7 0
  clear hUn HQ q1 q2 q4 K7 X7 cX5 hw6
  have hfit7 : ∀ i ∈ ([⟨b, e13, decW 5 [7]⟩] : List Im), Fit i := by
    have := fit_wrN (its := [⟨b, e13, u5⟩]) (by simp) HF.out [s13] [7] 1
    rw [l13_wr] at this
    exact this
  obtain ⟨w8, hw8⟩ : ∃ x, w7.alloc (.cells #[.int .u8 7] 5) = x := ⟨_, rfl⟩
  have b8 : Below w7.heap.size w7 w8 := by rw [← hw8]; exact (Below.refl _ _).alloc (Nat.le_refl _) _
  have hby : Bytes w8 (.slice (some ⟨w7.heap.size, 0, none⟩) 1 1) [7] := by rw [← hw8]; exact bytes1 w7 7
  have hWs8 : Wide 3 slC w8 (.slice (some ⟨q, 0, none⟩) 1 1) [s13] := hWs7.same b8.size (fun b _ hl => b8.block b hl)
  have hSm := pdSame_any (D7.below b8) _ [s13] hWs8 (by decide) (fit_mn hfit7) (fit_vn hfit7) _ [7] hby
  rw [show ([s13] : List Sl).length = 1 from rfl, show pkB ([⟨b, e13, decW 5 [7]⟩] : List Im) [s13] 1 = [7] from (pk_all (fit_vn hfit7) (l13_ck false)).trans (l13_cat.trans l13_w)] at hSm
  rw [decide_eq_true (show ckC ([⟨b, e13, decW 5 [7]⟩] : List Im) false [s13] = 0 ∧ ([7] : List UInt8) = [7] from ⟨l13_ck false, rfl⟩)] at hSm
  have B8 := B7.trans (b8.mono B7.size)
  clear hWs7 D7 hby hWs8 hfit7 b8 B7
  go_wp2_with fail
  refine hSm.mono ?_
  rintro e w9 ⟨rfl, b9⟩
  have B9 := B8.trans (b9.mono B8.size)
  go_wp2
  go_ret
  exact ⟨rfl, B9⟩
end Go.Proofs.Ythalhidebkhclaa
