/- The small living call of every statement on dictionaries answers true. -/
import Derived.Test.YtdcogpadioeclaaO14
namespace Go.Proofs.Ytdcogpadioeclaa
open Go.RowKit Go.Proofs.Ty Go.Sort Go.Lib
set_option linter.unusedVariables false
set_option maxRecDepth 1000000
set_option linter.unusedSimpArgs false
def DE : Dec En := ⟨enC, 14, by decide, fun _ => rfl, fun e u hu => e.one u hu⟩
def u1 : Vl := ⟨5, 1, ⟨#[]⟩, by decide, by decide, by decide⟩
def u5 : Vl := ⟨5, 5, ⟨#[]⟩, by decide, by decide, by decide⟩
def e0 : En := ⟨8192, 0, 2, false, true, u1, u5, u1, by decide, by decide, by decide⟩
theorem infoEz : (Try.prog.info? 47).map (fun i => (i.zero, i.size, i.bytes)) = some (some (.agg #[.int .u16 0, .int .u8 0, .int .i64 0, .bool false, .bool false, .int .i64 0, .int .u64 0, .string ⟨#[]⟩, .int .i64 0, .int .u64 0, .string ⟨#[]⟩, .int .i64 0, .int .u64 0, .string ⟨#[]⟩]), 14, 120) := by kernel_rfl
theorem lv_chk : chkL [e0] = 0 := by decide +kernel
theorem lv_pl : e0.plain = e0 := by
  have h : e0.df.plain = e0.df := (vlB_iff _ _).1 (by decide +kernel)
  show ({ e0 with df := e0.df.plain } : En) = e0
  rw [h]
theorem lv_E6 : decE 5 [6] = 0 := by decide +kernel
theorem lv_E5 : decE 5 [5] = 0 := by decide +kernel
theorem lv_B6 : bey e0 (decW 5 [6]) = 101253169 := by decide +kernel
theorem lv_B5 : bey e0 (decW 5 [5]) = 0 := by decide +kernel
theorem lv_D5 : (decW 5 [5]).enc.length = 1 := by decide +kernel
theorem lv_en : u1.enc = [1] := by decide +kernel
section
variable (b : Nat) (v : Vl)
theorem lv_fnd : fnd [⟨b, e0, v⟩] 8192 0 = some ⟨b, e0, v⟩ := rfl
theorem lv_wc6 : wc [⟨b, e0, v⟩] 8192 0 [6] = 101253169 := by
  show wcode ⟨b, e0, v⟩ [6] = _
  unfold wcode
  rw [if_neg (fun h => h.2 rfl)]
  show (if decE 5 [6] = 0 then bey e0 (decW 5 [6]) else _) = _
  rw [if_pos lv_E6, lv_B6]
theorem lv_wc5 : wc [⟨b, e0, v⟩] 8192 0 [5] = 0 := by
  show wcode ⟨b, e0, v⟩ [5] = _
  unfold wcode
  rw [if_neg (fun h => h.2 rfl)]
  show (if decE 5 [5] = 0 then bey e0 (decW 5 [5]) else _) = _
  rw [if_pos lv_E5, lv_B5]
theorem lv_wr6 : wrt [⟨b, e0, v⟩] 8192 0 [6] = [⟨b, e0, v⟩] := by
  unfold wrt
  rw [if_neg (by rw [lv_wc6]; decide)]
theorem lv_wr5 : wrt [⟨b, e0, v⟩] 8192 0 [5] = [⟨b, e0, decW 5 [5]⟩] := by
  unfold wrt
  rw [if_pos (lv_wc5 b v), lv_fnd]
  show setV [⟨b, e0, v⟩] b (decW 5 [5]) = _
  simp [setV]
theorem lv_rdC : rdC [⟨b, e0, v⟩] 8192 0 = 0 := rfl
theorem lv_rdL : rdL [⟨b, e0, v⟩] 8192 0 = v.enc := rfl
theorem lv_sav : (sav [⟨b, e0, decW 5 [5]⟩]).length = 8 := by
  show (svI ⟨b, e0, decW 5 [5]⟩ ++ []).length = 8
  have h : (⟨b, e0, decW 5 [5]⟩ : Im).e.ac = 2 := rfl
  rw [List.append_nil, svI, if_pos h, List.length_append, List.length_append, hd3_len, lowL_length]
  show 3 + 4 + (decW 5 [5]).enc.length = 8
  rw [lv_D5]
end
theorem build_e0 (x : World) : (Instr.build 47 #[(0, .int .u16 8192), (2, .int .i64 2), (7, .agg u1.arr), (4, .bool true), (5, .agg u1.arr), (6, .agg u5.arr)]).run Try.prog x = .ok (.agg e0.arr) x := by kernel_rfl
theorem bdE0 {w : World} {ops : Array Oper} {rest : List Oper} {p : Oper} {a : Act} {Q : Exit → Act → World → Prop} (hgd : Region.wanted p (yielded ops a.tmps) = true) (x y z : Operand) (ho : p.op = .build 47 #[(0, .const (.int .u16 8192)), (2, .const (.int .i64 2)), (7, x), (4, .const (.bool true)), (5, y), (6, z)]) (hx : a.eval x = .agg u1.arr) (hy : a.eval y = .agg u1.arr) (hz : a.eval z = .agg u5.arr)
    (hh : wpList Try.prog ops Q rest (a.put p.dst (.agg e0.arr)) w) : wpList Try.prog ops Q (p :: rest) a w := by
  refine BigFrame.wpList_want hgd fun K hK => ?_
  have hl := build_e0 w
  have k1 : a.eval (.const (.int .u16 8192)) = .int .u16 8192 := rfl
  have k2 : a.eval (.const (.int .i64 2)) = .int .i64 2 := rfl
  have k3 : a.eval (.const (.bool true)) = .bool true := rfl
  unfold Oper.wp execOp
  simp only [ho, List.map_toArray, List.map_cons, List.map_nil, hx, hy, hz, k1, k2, k3, Sem.run_bind, hl, Result.andThen_ok, Sem.run_pure]
  exact hK _ _ hh
theorem nw_one {w x : World} {D R : Nat} {its : List Im} (h : Nw w D R its [e0] x) : ∃ b, its = [⟨b, e0, u1⟩] ∧ w.heap.size ≤ b := by
  have hp := h.perm
  have hl : its.length = 1 := by have := hp.length_eq; simpa only [List.length_map, List.length_cons, List.length_nil] using this
  obtain ⟨i, rfl⟩ := List.length_eq_one_iff.1 hl
  have hv := h.vals i (List.mem_singleton.2 rfl)
  have hb := h.base i (List.mem_singleton.2 rfl)
  have he : i.e = e0 := by
    have h2 : [i.e] = [e0.plain] := List.perm_singleton.1 hp
    rw [lv_pl] at h2
    injection h2
  obtain ⟨b, e, v⟩ := i
  simp only at hv he hb
  subst he
  exact ⟨b, by rw [hv]; rfl, hb⟩
set_option maxHeartbeats 4000000 in
theorem lives8_any (w : World) : Calls Try.prog 9 #[] w fun e w' => e = .returned (.bool true) ∧ Below w.heap.size w w' := by
  obtain ⟨q, hq⟩ : ∃ q, w.heap.size = q := ⟨_, rfl⟩
  have g0 : Va q Vl.nul (w.alloc (.cells #[.int .i64 0, .int .u64 0, .string ⟨#[]⟩] 33)) := hq ▸ Va.new w Vl.nul
  have g1 := g0.row u1
  have bA : Below w.heap.size w (w.alloc (.cells #[.int .i64 0, .int .u64 0, .string ⟨#[]⟩] 33)) := (Below.refl _ _).alloc (Nat.le_refl _) _
  have B1 := below_row bA (by omega) bA.size (q := q) u1.arr
  go_enter Try.func9, Try.ntmps9
  go_upto_region 2 with (first | (refine g0.sd u1 rfl _ _ rfl rfl rfl ?_))
  generalize ((w.alloc (.cells #[.int .i64 0, .int .u64 0, .string ⟨#[]⟩] 33)).setRow q u1.arr) = W at *
  have hWi := wide_new DE W e0 47
  have b2 : Below W.heap.size W (W.alloc (.cells e0.arr 47)) := (Below.refl _ _).alloc (Nat.le_refl _) _
  have hN := (oNew_any _ _ _ hWi (by decide)).mono fun _ _ h => h.2 lv_chk
  have B2 := B1.trans (b2.mono B1.size)
  go_wp2_with (first | (refine g1.ld rfl _ rfl rfl ?_) | (refine bdE0 rfl _ _ _ rfl rfl rfl rfl ?_) | (refine one_bs DE e0 22 47 _ 120 rfl _ rfl rfl Try.underlying22 infoEz (by decide) ?_))
  refine hN.mono ?_
  rintro e w3 ⟨D, R, its, rfl, N3⟩
  obtain ⟨b, rfl, hb⟩ := nw_one N3
  have D3 := N3.dct
  have B3 := B2.trans (N3.below.mono B2.size)
  have hb' : w.heap.size ≤ b := Nat.le_trans B2.size hb
  clear hN N3 hWi b2 B2 g0 g1 bA B1 hb
  have hRd := Read_any D3 8192 0 (by decide) (by decide)
  rw [lv_rdC, lv_rdL, lv_en] at hRd
  go_wp2_with fail
  refine hRd.mono ?_
  rintro e w4 ⟨x, rfl, hx, b4⟩
  have D4 := D3.below b4
  have B4 := B3.trans (b4.mono B3.size)
  have hT := hx.text
  clear hRd D3 B3 b4
  have b5 : Below w4.heap.size w4 (w4.alloc (.cells #[.int .u8 6] 5)) := (Below.refl _ _).alloc (Nat.le_refl _) _
  have hW6 := Write_any (D4.below b5) 8192 0 (by decide) (by decide) _ _ (bytes1 w4 6)
  rw [lv_wc6, lv_wr6] at hW6
  have B5 := B4.trans (b5.mono B4.size)
  clear hx
  go_wp2_with fail
  refine hW6.mono ?_
  rintro e w6 ⟨rfl, D6, K6⟩
  have B6 := K6.below B5 B5.size (fun y hy => by simp at hy; omega)
  clear hW6 K6 D4 b5 hT B4 B5
  have b7 : Below w6.heap.size w6 (w6.alloc (.cells #[.int .u8 5] 5)) := (Below.refl _ _).alloc (Nat.le_refl _) _
  have hW5 := Write_any (D6.below b7) 8192 0 (by decide) (by decide) _ _ (bytes1 w6 5)
  rw [lv_wc5, lv_wr5] at hW5
  have B7 := B6.trans (b7.mono B6.size)
  go_wp2_with fail
  refine hW5.mono ?_
  rintro e w8 ⟨rfl, D8, K8⟩
  have B8 := K8.below B7 B7.size (fun y hy => by simp at hy; omega)
  clear hW5 K8 D6 b7 B6 B7
  have hS := Save_any D8
  rw [lv_sav] at hS
  go_wp2_with fail
  refine hS.mono ?_
  rintro e w9 ⟨x, rfl, hx, b9⟩
  obtain ⟨ax, cx, rfl⟩ := own_shape5 hx
  have B9 := B8.trans (b9.mono B8.size)
  clear hS D8 B8 hx b9
  go_wp2
  go_ret
  exact ⟨rfl, B9⟩
end Go.Proofs.Ytdcogpadioeclaa
