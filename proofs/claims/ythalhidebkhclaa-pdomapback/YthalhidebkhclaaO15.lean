/- The small living call of every statement on dictionaries answers true. -/
import Derived.Test.YthalhidebkhclaaO14
namespace Go.Proofs.Ythalhidebkhclaa
open Go.RowKit Go.Proofs.Ty Go.Sort Go.Lib
set_option linter.unusedVariables false
set_option maxRecDepth 1000000
set_option linter.unusedSimpArgs false
def DE : Dec En := ⟨enC, 14, by decide, fun _ => rfl, fun e u hu => e.one u hu⟩
def u1 : Vl := ⟨5, 1, ⟨#[]⟩, by decide, by decide, by decide⟩
def u5 : Vl := ⟨5, 5, ⟨#[]⟩, by decide, by decide, by decide⟩
def e0 : En := ⟨8192, 0, 2, false, true, u1, u5, u1, by decide, by decide, by decide⟩
theorem infoEz : (Try.prog.info? 59).map (fun i => (i.zero, i.size, i.bytes)) = some (some (.agg #[.int .u16 0, .int .u8 0, .int .i64 0, .bool false, .bool false, .int .i64 0, .int .u64 0, .string ⟨#[]⟩, .int .i64 0, .int .u64 0, .string ⟨#[]⟩, .int .i64 0, .int .u64 0, .string ⟨#[]⟩]), 14, 120) := by kernel_rfl
theorem lv_chk : chkL [e0] = 0 := by decide +kernel
theorem lv_pl : e0.plain = e0 := by
  have h : e0.df.plain = e0.df := (vlB_iff _ _).1 (by decide +kernel)
  show ({ e0 with df := e0.df.plain } : En) = e0
  rw [h]
theorem lv_E6 : decE 5 [6] = 0 := by decide +kernel
theorem lv_E5 : decE 5 [5] = 0 := by decide +kernel
theorem lv_B6 : bey e0 (decW 5 [6]) = 101253169 := by decide +kernel
theorem lv_B5 : bey e0 (decW 5 [5]) = 0 := by decide +kernel
theorem lv_D5 : (decW 5 [5]).enc.length = 1 := by decide +kernel
theorem lv_en : u1.enc = [1] := by decide +kernel
section
variable (b : Nat) (v : Vl)
theorem lv_fnd : fnd [⟨b, e0, v⟩] 8192 0 = some ⟨b, e0, v⟩ := rfl
theorem lv_wc6 : wc [⟨b, e0, v⟩] 8192 0 [6] = 101253169 := by
  show wcode ⟨b, e0, v⟩ [6] = _
  unfold wcode
  rw [if_neg (fun h => h.2 rfl)]
  show (if decE 5 [6] = 0 then bey e0 (decW 5 [6]) else _) = _
  rw [if_pos lv_E6, lv_B6]
theorem lv_wc5 : wc [⟨b, e0, v⟩] 8192 0 [5] = 0 := by
  show wcode ⟨b, e0, v⟩ [5] = _
  unfold wcode
  rw [if_neg (fun h => h.2 rfl)]
  show (if decE 5 [5] = 0 then bey e0 (decW 5 [5]) else _) = _
  rw [if_pos lv_E5, lv_B5]
theorem lv_wr6 : wrt [⟨b, e0, v⟩] 8192 0 [6] = [⟨b, e0, v⟩] := by
  unfold wrt
  rw [if_neg (by rw [lv_wc6]; decide)]
theorem lv_wr5 : wrt [⟨b, e0, v⟩] 8192 0 [5] = [⟨b, e0, decW 5 [5]⟩] := by
  unfold wrt
  rw [if_pos (lv_wc5 b v), lv_fnd]
  show setV [⟨b, e0, v⟩] b (decW 5 [5]) = _
  simp [setV]
theorem lv_rdC : rdC [⟨b, e0, v⟩] 8192 0 = 0 := rfl
theorem lv_rdL : rdL [⟨b, e0, v⟩] 8192 0 = v.enc := rfl
theorem lv_sav : (sav [⟨b, e0, decW 5 [5]⟩]).length = 8 := by
  show (svI ⟨b, e0, decW 5 [5]⟩ ++ []).length = 8
  have h : (⟨b, e0, decW 5 [5]⟩ : Im).e.ac = 2 := rfl
  rw [List.append_nil, svI, if_pos h, List.length_append, List.length_append, hd3_len, lowL_length]
  show 3 + 4 + (decW 5 [5]).enc.length = 8
  rw [lv_D5]
end
theorem build_e0 (x : World) : (Instr.build 59 #[(0, .int .u16 8192), (2, .int .i64 2), (7, .agg u1.arr), (4, .bool true), (5, .agg u1.arr), (6, .agg u5.arr)]).run Try.prog x = .ok (.agg e0.arr) x := by kernel_rfl
theorem bdE0 {w : World} {ops : Array Oper} {rest : List Oper} {p : Oper} {a : Act} {Q : Exit → Act → World → Prop} (hgd : Region.wanted p (yielded ops a.tmps) = true) (x y z : Operand) (ho : p.op = .build 59 #[(0, .const (.int .u16 8192)), (2, .const (.int .i64 2)), (7, x), (4, .const (.bool true)), (5, y), (6, z)]) (hx : a.eval x = .agg u1.arr) (hy : a.eval y = .agg u1.arr) (hz : a.eval z = .agg u5.arr)
    (hh : wpList Try.prog ops Q rest (a.put p.dst (.agg e0.arr)) w) : wpList Try.prog ops Q (p :: rest) a w := by
  refine BigFrame.wpList_want hgd fun K hK => ?_
  have hl := build_e0 w
  have k1 : a.eval (.const (.int .u16 8192)) = .int .u16 8192 := rfl
  have k2 : a.eval (.const (.int .i64 2)) = .int .i64 2 := rfl
  have k3 : a.eval (.const (.bool true)) = .bool true := rfl
  unfold Oper.wp execOp
  simp only [ho, List.map_toArray, List.map_cons, List.map_nil, hx, hy, hz, k1, k2, k3, Sem.run_bind, hl, Result.andThen_ok, Sem.run_pure]
  exact hK _ _ hh
theorem nw_one {w x : World} {D R : Nat} {its : List Im} (h : Nw w D R its [e0] x) : ∃ b, its = [⟨b, e0, u1⟩] ∧ w.heap.size ≤ b := by
  have hp := h.perm
  have hl : its.length = 1 := by have := hp.length_eq; simpa only [List.length_map, List.length_cons, List.length_nil] using this
  obtain ⟨i, rfl⟩ := List.length_eq_one_iff.1 hl
  have hv := h.vals i (List.mem_singleton.2 rfl)
  have hb := h.base i (List.mem_singleton.2 rfl)
  have he : i.e = e0 := by
    have h2 : [i.e] = [e0.plain] := List.perm_singleton.1 hp
    rw [lv_pl] at h2
    injection h2
  obtain ⟨b, e, v⟩ := i
  simp only at hv he hb
  subst he
  exact ⟨b, by rw [hv]; rfl, hb⟩
end Go.Proofs.Ythalhidebkhclaa
