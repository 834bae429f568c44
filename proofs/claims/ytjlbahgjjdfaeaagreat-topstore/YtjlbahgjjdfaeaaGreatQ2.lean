/- Contracts: the head of saved bytes. -/
import Derived.Test.YtjlbahgjjdfaeaaGreatO2
import Derived.Test.YtjlbahgjjdfaeaaGreatQb
import Derived.Test.YtjlbahgjjdfaeaaGreatQc
import Derived.Test.YtjlbahgjjdfaeaaGreatTy9
namespace Go.Proofs.YtjlbahgjjdfaeaaGreat
open Go.RowKit Go.Proofs.Ty
set_option linter.unusedVariables false
set_option maxRecDepth 1000000
set_option linter.unusedSimpArgs false
/-- A saved value in memory. -/
structure Sw where
  s : Sv
  ao : Option Addr
  cp : Nat
def Sw.bv (x : Sw) : Value := .slice x.ao x.s.raw.length x.cp
def swC (x : Sw) : List Value := [.int .u16 x.s.ix, .int .u8 x.s.sb, .slice x.ao x.s.raw.length x.cp]
def Sw.arr (x : Sw) : Array Value := (swC x).toArray
def Sw.nul : Sw := ⟨⟨0, 0, [], by decide, by decide⟩, none, 0⟩
theorem swC_one (x : Sw) : ∀ u ∈ swC x, u.oneCell' = true := by
  intro u hu
  simp [swC] at hu
  rcases hu with rfl | rfl | rfl <;> rfl
def DS : Dec Sw := ⟨swC, 3, by decide, fun _ => rfl, swC_one⟩
theorem infoS : (Tryz.prog.info? 90).map (·.size) = some 3 := by kernel_rfl
theorem infoSz : (Tryz.prog.info? 90).map (fun i => (i.zero, i.size, i.bytes)) = some (some (.agg #[.int .u16 0, .int .u8 0, .slice none 0 0]), 3, 32) := by kernel_rfl
def Sb (q : Nat) (x : Sw) (w : World) : Prop := w.heap[q]? = some (.cells x.arr 90 (0, 0))
section
variable {q : Nat} {s : Sw} {w : World}
theorem Sb.lt (h : Sb q s w) : q < w.heap.size := (Array.getElem?_eq_some_iff.1 h).1
theorem Sb.new (w : World) (s : Sw) : Sb w.heap.size s (w.alloc (.cells s.arr 90)) := heap_alloc_new w _
theorem Sb.below {w' : World} (h : Sb q s w) (hb : Below w.heap.size w w') : Sb q s w' := (hb.block q h.lt).trans h
theorem Sb.row (h : Sb q s w) (s' : Sw) : Sb q s' (w.setRow q s'.arr) := setRow_heap w q s.arr _ 90 _ h
theorem Sb.c (h : Sb q s w) : w.cell? ⟨q, 0, none⟩ = some (.int .u16 s.s.ix) ∧ w.cell? ⟨q, 1, none⟩ = some (.int .u8 s.s.sb) ∧ w.cell? ⟨q, 2, none⟩ = some (.slice s.ao s.s.raw.length s.cp) := ⟨Lib.cell_of_heap h 0, Lib.cell_of_heap h 1, Lib.cell_of_heap h 2⟩
theorem Sb.load (h : Sb q s w) : (loadVar 90 ⟨q, 0, none⟩).run Tryz.prog w = .ok (.agg s.arr) w :=
  run_loadVar_row w q 90 90 s.arr (0, 0) _ h Tryz.underlying90 rfl (by show _ = some 3; exact infoS)
theorem Sb.ld {ops : Array Oper} {rest : List Oper} {o : Oper} {a : Act} {Q : Exit → Act → World → Prop} (h : Sb q s w) (hgd : Region.wanted o (yielded ops a.tmps) = true) (x : Operand) (ho : o.op = .load 90 x) (hx : a.eval x = .pointer (some ⟨q, 0, none⟩))
    (hh : wpList Tryz.prog ops Q rest (a.put o.dst (.agg s.arr)) w) : wpList Tryz.prog ops Q (o :: rest) a w :=
  BigFrame.wpList_want hgd fun _ hK => wp_load_row 90 x ho q hx 90 s.arr (0, 0) _ h Tryz.underlying90 rfl (by show _ = some 3; exact infoS) (hK _ _ hh)
theorem Sb.sd {ops : Array Oper} {rest : List Oper} {o : Oper} {a : Act} {Q : Exit → Act → World → Prop} (h : Sb q s w) (s' : Sw) (hgd : o.guard = none) (x y : Operand) (ho : o.op = .store 90 x y) (hx : a.eval x = .pointer (some ⟨q, 0, none⟩)) (hy : a.eval y = .agg s'.arr)
    (hh : wpList Tryz.prog ops Q rest (a.put o.dst undef) (w.setRow q s'.arr)) : wpList Tryz.prog ops Q (o :: rest) a w :=
  wpList_store_row hgd 90 x y ho q s'.arr hx hy 90 s.arr h (by show _ = some 3; exact infoS) rfl (all_oneCell_toArray (swC_one s')) hh
end
theorem exec_idxB {a : Act} {o : Oper} {s i : Operand} {b off n c k : Nat} (ho : o.op = .indexAddr 24 s i) (hs : a.eval s = .slice (some ⟨b, off, none⟩) n c) (hi : a.eval i = .int .i64 (k : Int)) (hk : k < n) (w : World) : (execOp a.eval o).run Tryz.prog w = .ok (.value (.pointer (some ⟨b, off + k, none⟩))) w := by
  have h1 : (0 : Int) ≤ (k : Int) := by omega
  have h2 : (k : Int) < (n : Int) := by omega
  unfold execOp
  simp only [ho, hs, hi]
  obtain ⟨i0, hi0, hz0, hz1, hz2⟩ := info_parts info5
  simp [go_sem, run_underlying Tryz.underlying24, sizeOf, typeInfo, hi0, hz1, h1, h2, Addr.add_mid]
theorem load_u8q (x : World) (D k : Nat) (z : Int) (hc : x.cell? ⟨D, k, none⟩ = some (.int .u8 z)) : (loadVar 5 ⟨D, k, none⟩).run Tryz.prog x = .ok (.int .u8 z) x := by
  simp [go_sem, run_underlying Tryz.underlying5, hc]
theorem exec_loadq {a : Act} {o : Oper} {x : Operand} {w : World} {ty : TypeId} {ad : Addr} {v : Value} (ho : o.op = .load ty x) (hx : a.eval x = .pointer (some ad)) (hr : (loadVar ty ad).run Tryz.prog w = .ok v w) : (execOp a.eval o).run Tryz.prog w = .ok (.value v) w := by
  unfold execOp
  simp only [ho, hx, Instr.loadAt, Instr.sureAddr, Sem.run_bind, Sem.run_pure, Result.andThen_ok, hr]
theorem exec_cv16 {a : Act} {o : Oper} {x : Operand} {n : Nat} (ho : o.op = .convert 5 38 x) (hx : a.eval x = .int .u8 (n : Int)) (hn : n < 256) (w : World) : (execOp a.eval o).run Tryz.prog w = .ok (.value (.int .u16 (n : Int))) w := by
  have : IntKind.u16.wrap (n : Int) = (n : Int) := by simp [IntKind.wrap, IntKind.bits, IntKind.signed]; omega
  unfold execOp
  simp only [ho, hx]
  simp [go_sem, convert, run_underlying Tryz.underlying5, run_underlying Tryz.underlying38, this]
theorem exec_shl16 {a : Act} {o : Oper} {x y : Operand} {n : Nat} {t : TypeId} (ho : o.op = .binOp .shl 38 x y t) (hx : a.eval x = .int .u16 (n : Int)) (hy : a.eval y = .int .u64 8) (hn : n < 256) (w : World) : (execOp a.eval o).run Tryz.prog w = .ok (.value (.int .u16 ((n * 256 : Nat) : Int))) w := by
  have : IntKind.u16.wrap ((n : Int) * 256) = ((n * 256 : Nat) : Int) := by simp [IntKind.wrap, IntKind.bits, IntKind.signed]; omega
  unfold execOp
  simp only [ho, hx, hy]
  simp [go_sem, this]
theorem or16 (a b : Nat) (ha : a < 256) (hb : b < 256) : bits BinOp.or IntKind.u16 (a : Int) ((b * 256 : Nat) : Int) = ((a + 256 * b : Nat) : Int) := by
  have h1 : a ||| b * 256 = a + 256 * b := by
    have := Nat.shiftLeft_add_eq_or_of_lt (i := 8) (b := a) (by omega) b
    rw [Nat.shiftLeft_eq] at this
    rw [Nat.or_comm]
    have e : b * 256 ||| a = b * 256 + a := by simpa using this.symm
    omega
  have h2 : (((b * 256 : Nat) : Int) % 65536).toNat = b * 256 := by omega
  have h3 : (((a : Nat) : Int) % 65536).toNat = a := by omega
  show IntKind.u16.wrap ((((((a : Nat) : Int) % 65536).toNat ||| (((b * 256 : Nat) : Int) % 65536).toNat : Nat)) : Int) = _
  rw [h2, h3, h1]
  simp [IntKind.wrap, IntKind.bits, IntKind.signed]
  omega
theorem exec_or16 {a : Act} {o : Oper} {x y : Operand} {m n : Nat} (ho : o.op = .binOp .or 38 x y 38) (hx : a.eval x = .int .u16 (m : Int)) (hy : a.eval y = .int .u16 ((n * 256 : Nat) : Int)) (hm : m < 256) (hn : n < 256) (w : World) : (execOp a.eval o).run Tryz.prog w = .ok (.value (.int .u16 ((m + 256 * n : Nat) : Int))) w := by
  have := or16 m n hm hn
  unfold execOp
  simp only [ho, hx, hy]
  simp [go_sem]
  simpa using this
theorem Bytes.get {w : World} {b off cap : Nat} {l : List UInt8} (h : Bytes w (.slice (some ⟨b, off, none⟩) l.length cap) l) (k : Nat) (hk : k < l.length) : b < w.heap.size ∧ w.cell? ⟨b, off + k, none⟩ = some (.int .u8 l[k].toNat) := by
  obtain ⟨ao, cap', hv, _, hc⟩ := h
  injection hv with e1 _ e3
  subst e1
  obtain ⟨b', off', e, hlt, hr⟩ := hc k hk
  injection e with e
  injection e with e1 e2
  subst e1 e2
  exact ⟨hlt, hr⟩
theorem Bytes.is {w : World} {ao : Option Addr} {cap : Nat} {l : List UInt8} (h : Bytes w (.slice ao l.length cap) l) (hk : 0 < l.length) : ∃ b off, ao = some ⟨b, off, none⟩ := by
  obtain ⟨ao', cap', hv, _, hc⟩ := h
  injection hv with e1 _ e3
  subst e1
  obtain ⟨b', off', e, hlt, hr⟩ := hc 0 hk
  exact ⟨b', off', e⟩
theorem exec_sliceB {a : Act} {o : Oper} {x : Operand} {lo hi : Option Operand} {v u : Value} {lo' hi' : Option Value} (ho : o.op = .slice 24 x lo hi none) (hx : a.eval x = v) (hlo : lo.map a.eval = lo') (hhi : hi.map a.eval = hi') (hr : ∀ W, (Instr.sliceAt 24 v lo' hi' none).run Tryz.prog W = .ok u W) (w : World) : (execOp a.eval o).run Tryz.prog w = .ok (.value u) w := by
  unfold execOp
  simp only [ho, hx, hlo, hhi, Option.map_none, Sem.run_bind, hr, Result.andThen_ok, Sem.run_pure]
theorem slB {w : World} {ops : Array Oper} {rest : List Oper} {Q : Exit → Act → World → Prop} {a : Act} {o : Oper} (x : Operand) (lo hi : Option Operand) (v u : Value) (lo' hi' : Option Value) (hgd : Region.wanted o (yielded ops a.tmps) = true) (ho : o.op = .slice 24 x lo hi none) (hx : a.eval x = v) (hlo : lo.map a.eval = lo') (hhi : hi.map a.eval = hi') (hr : ∀ W, (Instr.sliceAt 24 v lo' hi' none).run Tryz.prog W = .ok u W)
    (hh : wpList Tryz.prog ops Q rest (a.put o.dst u) w) : wpList Tryz.prog ops Q (o :: rest) a w := by
  refine BigFrame.wpList_want hgd fun K hK => ?_
  unfold Oper.wp
  rw [exec_sliceB ho hx hlo hhi hr]
  exact hK _ _ hh
theorem exec_bdS {a : Act} {o : Oper} {x y z : Operand} (ho : o.op = .build 90 #[(0, x), (1, y), (2, z)]) (s : Sw) (hx : a.eval x = .int .u16 s.s.ix) (hy : a.eval y = .int .u8 s.s.sb) (hz : a.eval z = .slice s.ao s.s.raw.length s.cp) (w : World) : (execOp a.eval o).run Tryz.prog w = .ok (.value (.agg s.arr)) w := by
  have hb : (Instr.build 90 #[(0, .int .u16 s.s.ix), (1, .int .u8 s.s.sb), (2, .slice s.ao s.s.raw.length s.cp)]).run Tryz.prog w = .ok (.agg s.arr) w := by kernel_rfl
  unfold execOp
  simp only [ho, List.map_toArray, List.map_cons, List.map_nil, hx, hy, hz, Sem.run_bind, hb, Result.andThen_ok, Sem.run_pure]
theorem head_results {Q : Nat} {s : Sw} {c : Bool} {w : World} (h : Sb Q s w) (tmps : Array Value) (h2 : tmps[2]?.getD undef = .pointer (some ⟨Q, 0, none⟩)) (h3 : tmps[3]?.getD undef = .bool c) :
    (results Tryz.f53 tmps).run Tryz.prog w = .ok (.tuple #[.agg s.arr, .bool c]) w := by
  have l0 := h.load
  simp [Go.results, Tryz.results53, h2, h3, asAddr, l0]
/-- Whether bytes begin with a saved value that is whole. -/
def hdB (l : List UInt8) : Bool := decide (7 ≤ l.length) && decide (hdN l ≤ l.length - 7)
set_option maxHeartbeats 4000000 in
theorem head_any (x : Value) (l : List UInt8) (w : World) (hB : Bytes w x l) (hC : Cp x) (hl : l.length ≤ 140737488351232) :
    Calls Tryz.prog 53 #[x] w fun e w' => ∃ s : Sw, e = .returned (.tuple #[.agg s.arr, .bool (hdB l)]) ∧ Below w.heap.size w w' ∧ (hdB l = true → s.s = svOf l ∧ ∀ y, Bytes y x l → Bytes y s.bv s.s.raw) := by
  obtain ⟨q, hq⟩ : ∃ q, w.heap.size = q := ⟨_, rfl⟩
  have g0 : Sb q Sw.nul (w.alloc (.cells #[.int .u16 0, .int .u8 0, .slice none 0 0] 90)) := hq ▸ Sb.new w Sw.nul
  have bA : Below w.heap.size w (w.alloc (.cells #[.int .u16 0, .int .u8 0, .slice none 0 0] 90)) := (Below.refl _ _).alloc (Nat.le_refl _) _
  have bN := below_row bA (by omega) bA.size (q := q) Sw.nul.arr
  have HH : Hid (hdB l = (decide (7 ≤ l.length) && decide (hdN l ≤ l.length - 7))) := rfl
  have HBW := hidOf2 (hB.below bA)
  have HS := hidOf2 (fun k hk => join_step ((l.drop 3).take 4) k hk (by rw [List.length_take]; omega))
  have HL := hidOf2 (fun (hk : 7 ≤ l.length) => bslice_l hB hC 7 hk)
  obtain ⟨ao, cap, rfl, h0, hc⟩ := hB.below bA
  generalize hdB l = H at *
  go_enter Tryz.func53, Tryz.ntmps53
  by_cases h7 : l.length < 7
  · have d1 : decide ((l.length : Int) < 7) = true := by simp; omega
    have e1 := hidOf2 (show H = false by rw [HH.out, decide_eq_false (by omega)]; rfl)
    clear HH HBW HS HL hc h0 hB
    go_upto_region 1 with fail
    generalize (w.alloc (.cells #[.int .u16 0, .int .u8 0, .slice none 0 0] 90)) = W at *
    try simp only [hq]
    have g1 := g0.row Sw.nul
    go_wp2_with (first | (refine g0.sd Sw.nul rfl _ _ rfl rfl rfl ?_))
    exact bodyPost_ret (head_results g1 _ rfl rfl) rfl ⟨_, by rw [e1.out], by first | exact bN | (rw [← hq]; exact bN), fun h => by rw [e1.out] at h; cases h⟩
  · have d1 : decide ((l.length : Int) < 7) = false := by simp; omega
    obtain ⟨ra, rc, hrun, hrB, hrC⟩ := HL.out (by omega)
    have HrB := hidOf2 hrB
    have HrC := hidOf2 hrC
    have hlen4 : ((l.drop 3).take 4).length = 4 := by rw [List.length_take, List.length_drop]; omega
    have hN : hdN l = joinL (((l.drop 3).take 4).take 4) := by rw [List.take_of_length_le (by omega)]; rfl
    have hNl := hdN_lt l
    clear HL hrB hrC
    go_upto_region 3 with fail
    generalize (w.alloc (.cells #[.int .u16 0, .int .u8 0, .slice none 0 0] 90)) = W at *
    try simp only [hq]
    go_wp2
    go_loop [4, 11] (fun n i => ∃ k : Nat, k ≤ 4 ∧ i = .int .i64 k ∧ n = .int .u64 (joinL (((l.drop 3).take 4).take k))) (fun _ i => 4 - (intOf i).toNat)
    case atStart => exact ⟨0, Nat.zero_le _, rfl, rfl⟩
    case round =>
      obtain ⟨k, hk, rfl, rfl⟩ := hrel
      by_cases hk4 : k < 4
      · obtain ⟨b, off, rfl, hlt, hcell⟩ := hc (3 + k) (by omega)
        have H1 := hidOf (HS.out k (by omega))
        have hcl := l[3 + k].toNat_lt
        have hg : ((l.drop 3).take 4)[k]'(by omega) = l[3 + k] := by simp
        rw [hg] at H1
        generalize hJ : joinL (((l.drop 3).take 4).take k) = J at *
        generalize l[3 + k].toNat = B at *
        go_wp2
        go_round
        case rel => exact ⟨k + 1, by omega, by go_num, val_int (by first | exact H1.out | (rw [← H1.out]; simp))⟩
        case measure => simp [intOf]; omega
      · obtain rfl : k = 4 := by omega
        rw [← hN]
        have DN := hidOf2 (@bslice_h W (.slice ra (l.length - 7) rc) (l.drop 7) (HrB.out W HBW.out) HrC.out .u64 (hdN l))
        clear hc
        by_cases hn : l.length - 7 < hdN l
        · have d2 : decide (((l.length - 7 : Nat) : Int) < ((hdN l : Nat) : Int)) = true := by simp; omega
          have e1 := hidOf2 (show H = false by rw [HH.out, decide_eq_false (show ¬ hdN l ≤ l.length - 7 by omega), Bool.and_false])
          have g1 := g0.row Sw.nul
          clear DN HH HS
          generalize hdN l = N at *
          go_wp2_with (first | (refine slB _ _ _ _ _ _ _ rfl rfl rfl rfl rfl hrun ?_) | (refine g0.sd Sw.nul rfl _ _ rfl rfl rfl ?_))
          exact bodyPost_ret (head_results g1 _ rfl rfl) rfl ⟨_, by rw [e1.out], by rw [← hq] at bN ⊢; exact bN, fun h => by rw [e1.out] at h; cases h⟩
        · have d2 : decide (((l.length - 7 : Nat) : Int) < ((hdN l : Nat) : Int)) = false := by simp; omega
          have e1 := hidOf2 (show H = true by rw [HH.out, decide_eq_true (show 7 ≤ l.length by omega), decide_eq_true (show hdN l ≤ l.length - 7 by omega)]; rfl)
          obtain ⟨ta, tc, trun, tB, tC⟩ := DN.out (by rw [List.length_drop]; omega)
          obtain ⟨b, off, hao⟩ := HBW.out.is (by omega)
          subst hao
          have hc0 := (HBW.out.get 0 (by omega)).2
          have hc1 := (HBW.out.get 1 (by omega)).2
          have hc2 := (HBW.out.get 2 (by omega)).2
          have hsl : ((l.drop 7).take (hdN l)).length = hdN l := by rw [List.length_take, List.length_drop]; omega
          have hA0 := l[0].toNat_lt
          have hA1 := l[1].toNat_lt
          have HX0 := hidOf2 (show (svOf l).ix = l[0].toNat + 256 * l[1].toNat by simp [svOf, List.getD_eq_getElem?_getD, List.getElem?_eq_getElem (show 0 < l.length by omega), List.getElem?_eq_getElem (show 1 < l.length by omega)])
          have HX1 := hidOf2 (show (svOf l).sb = l[2].toNat by simp [svOf, List.getD_eq_getElem?_getD, List.getElem?_eq_getElem (show 2 < l.length by omega)])
          have HX2 := hidOf2 (show (svOf l).raw.length = hdN l from hsl)
          have HTB := hidOf2 (fun x (hx : Bytes x (.slice (some ⟨b, off, none⟩) l.length cap) l) => tB x (HrB.out x hx))
          have BD : Below w.heap.size w W.drew := bdr bA 1
          have HW2 := hidOf2 (hB.below (below_row BD (by omega) BD.size (q := q) (⟨svOf l, ta, tc⟩ : Sw).arr))
          have HbF := hidOf2 (below_row BD (by omega) BD.size (q := q) (⟨svOf l, ta, tc⟩ : Sw).arr)
          have HSB := hidOf2 (show ∀ y, Bytes y (.slice (some ⟨b, off, none⟩) l.length cap) l → Bytes y (.slice ta (hdN l) tc) (svOf l).raw from HTB.out)
          have HSC := hidOf2 (And.intro ((HbF.out.cell (p := ⟨b, off + 0, none⟩) (hB.get 0 (by omega)).1).trans (hB.get 0 (by omega)).2) (And.intro ((HbF.out.cell (p := ⟨b, off + 1, none⟩) (hB.get 1 (by omega)).1).trans (hB.get 1 (by omega)).2) ((HbF.out.cell (p := ⟨b, off + 2, none⟩) (hB.get 2 (by omega)).1).trans (hB.get 2 (by omega)).2)))
          obtain ⟨S, hS⟩ : ∃ S : Sw, (⟨svOf l, ta, tc⟩ : Sw) = S := ⟨_, rfl⟩
          have HSe := hidOf2 (show S.s = svOf l by rw [← hS])
          have hSx : S.s.ix = l[0].toNat + 256 * l[1].toNat := by rw [HSe.out]; exact HX0.out
          have hSb : S.s.sb = l[2].toNat := by rw [HSe.out]; exact HX1.out
          have hSr : S.s.raw.length = hdN l := by rw [HSe.out]; exact HX2.out
          have hSa : S.ao = ta := by rw [← hS]
          have hSc : S.cp = tc := by rw [← hS]
          rw [hS] at HbF HSC
          have HSB2 := hidOf2 (show ∀ y, Bytes y (.slice (some ⟨b, off, none⟩) l.length cap) l → Bytes y S.bv S.s.raw from fun y hy => by
            have := HSB.out y hy
            rw [← HSe.out, ← hSr, ← hSa, ← hSc] at this
            exact this)
          rw [← hSr] at trun
          have gd : Sb q Sw.nul W.drew := g0
          have S0 : W.drew.cell? ⟨b, off + 0, none⟩ = some (.int .u8 l[0].toNat) ∧ W.drew.cell? ⟨b, off + 1, none⟩ = some (.int .u8 l[1].toNat) ∧ W.drew.cell? ⟨b, off + 2, none⟩ = some (.int .u8 l[2].toNat) := ⟨hc0, hc1, hc2⟩
          clear HX0 HX1 HX2 HTB HW2 HSB HH HS DN hS BD tB hc0 hc1 hc2 HBW HrB hB bN bA
          rw [← hSr]
          rw [← hSr] at d2 hNl hn
          clear hN hlen4 hSr
          obtain ⟨N, hSN⟩ : ∃ N, S.s.raw.length = N := ⟨_, rfl⟩
          rw [hSN] at trun d2 hNl hn ⊢
          generalize l[0].toNat = A0 at *
          generalize l[1].toNat = A1 at *
          generalize l[2].toNat = A2 at *
          go_upto_region 12 with (first | (refine slB _ _ _ _ _ _ _ rfl rfl rfl rfl rfl hrun ?_))
          refine wp_region_held (S := fun x => x.cell? ⟨b, off + 0, none⟩ = some (.int .u8 A0) ∧ x.cell? ⟨b, off + 1, none⟩ = some (.int .u8 A1) ∧ x.cell? ⟨b, off + 2, none⟩ = some (.int .u8 A2)) (by kernel_rfl) ?_
          change wpAnyH _ _ _ _ _ _ _ _ W.drew
          refine wpAnyH_take (i := 0) (v := (.slice (some ⟨b, off, none⟩) l.length cap)) rfl (by kernel_rfl) (by kernel_rfl) (by kernel_rfl) (fun _ _ _ h => h) (.inl ⟨rfl, fun _ hS => rfl⟩) S0 ?_
          simp only [List.getElem_toArray, List.getElem_cons_succ, List.getElem_cons_zero, Act.put, List.setIfInBounds_toArray, List.set_cons_succ, List.set_cons_zero]
          refine wpAnyH_take (i := 1) (v := (.pointer (some ⟨b, off + 0, none⟩))) rfl (by kernel_rfl) (by kernel_rfl) (by kernel_rfl) (fun _ _ _ h => h) (.inl ⟨rfl, fun _ hS => exec_idxB (k := 0) rfl rfl rfl (by omega) _⟩) S0 ?_
          simp only [List.getElem_toArray, List.getElem_cons_succ, List.getElem_cons_zero, Act.put, List.setIfInBounds_toArray, List.set_cons_succ, List.set_cons_zero]
          refine wpAnyH_take (i := 2) (v := (.int .u8 (A0 : Int))) rfl (by kernel_rfl) (by kernel_rfl) (by kernel_rfl) (fun _ _ _ h => h) (.inl ⟨rfl, fun _ hS => exec_loadq rfl rfl (load_u8q _ _ _ _ (hS.1))⟩) S0 ?_
          simp only [List.getElem_toArray, List.getElem_cons_succ, List.getElem_cons_zero, Act.put, List.setIfInBounds_toArray, List.set_cons_succ, List.set_cons_zero]
          refine wpAnyH_take (i := 3) (v := (.int .u16 (A0 : Int))) rfl (by kernel_rfl) (by kernel_rfl) (by kernel_rfl) (fun _ _ _ h => h) (.inl ⟨rfl, fun _ hS => exec_cv16 rfl rfl hA0 _⟩) S0 ?_
          simp only [List.getElem_toArray, List.getElem_cons_succ, List.getElem_cons_zero, Act.put, List.setIfInBounds_toArray, List.set_cons_succ, List.set_cons_zero]
          refine wpAnyH_take (i := 4) (v := (.slice (some ⟨b, off, none⟩) l.length cap)) rfl (by kernel_rfl) (by kernel_rfl) (by kernel_rfl) (fun _ _ _ h => h) (.inl ⟨rfl, fun _ hS => rfl⟩) S0 ?_
          simp only [List.getElem_toArray, List.getElem_cons_succ, List.getElem_cons_zero, Act.put, List.setIfInBounds_toArray, List.set_cons_succ, List.set_cons_zero]
          refine wpAnyH_take (i := 5) (v := (.pointer (some ⟨b, off + 1, none⟩))) rfl (by kernel_rfl) (by kernel_rfl) (by kernel_rfl) (fun _ _ _ h => h) (.inl ⟨rfl, fun _ hS => exec_idxB (k := 1) rfl rfl rfl (by omega) _⟩) S0 ?_
          simp only [List.getElem_toArray, List.getElem_cons_succ, List.getElem_cons_zero, Act.put, List.setIfInBounds_toArray, List.set_cons_succ, List.set_cons_zero]
          refine wpAnyH_take (i := 6) (v := (.int .u8 (A1 : Int))) rfl (by kernel_rfl) (by kernel_rfl) (by kernel_rfl) (fun _ _ _ h => h) (.inl ⟨rfl, fun _ hS => exec_loadq rfl rfl (load_u8q _ _ _ _ (hS.2.1))⟩) S0 ?_
          simp only [List.getElem_toArray, List.getElem_cons_succ, List.getElem_cons_zero, Act.put, List.setIfInBounds_toArray, List.set_cons_succ, List.set_cons_zero]
          refine wpAnyH_take (i := 7) (v := (.int .u16 (A1 : Int))) rfl (by kernel_rfl) (by kernel_rfl) (by kernel_rfl) (fun _ _ _ h => h) (.inl ⟨rfl, fun _ hS => exec_cv16 rfl rfl hA1 _⟩) S0 ?_
          simp only [List.getElem_toArray, List.getElem_cons_succ, List.getElem_cons_zero, Act.put, List.setIfInBounds_toArray, List.set_cons_succ, List.set_cons_zero]
          refine wpAnyH_take (i := 8) (v := (.int .u16 ((A1 * 256 : Nat) : Int))) rfl (by kernel_rfl) (by kernel_rfl) (by kernel_rfl) (fun _ _ _ h => h) (.inl ⟨rfl, fun _ hS => exec_shl16 rfl rfl rfl hA1 _⟩) S0 ?_
          simp only [List.getElem_toArray, List.getElem_cons_succ, List.getElem_cons_zero, Act.put, List.setIfInBounds_toArray, List.set_cons_succ, List.set_cons_zero]
          refine wpAnyH_take (i := 9) (v := (.int .u16 ((A0 + 256 * A1 : Nat) : Int))) rfl (by kernel_rfl) (by kernel_rfl) (by kernel_rfl) (fun _ _ _ h => h) (.inl ⟨rfl, fun _ hS => exec_or16 rfl rfl rfl hA0 hA1 _⟩) S0 ?_
          simp only [List.getElem_toArray, List.getElem_cons_succ, List.getElem_cons_zero, Act.put, List.setIfInBounds_toArray, List.set_cons_succ, List.set_cons_zero]
          refine wpAnyH_take (i := 10) (v := (.slice (some ⟨b, off, none⟩) l.length cap)) rfl (by kernel_rfl) (by kernel_rfl) (by kernel_rfl) (fun _ _ _ h => h) (.inl ⟨rfl, fun _ hS => rfl⟩) S0 ?_
          simp only [List.getElem_toArray, List.getElem_cons_succ, List.getElem_cons_zero, Act.put, List.setIfInBounds_toArray, List.set_cons_succ, List.set_cons_zero]
          refine wpAnyH_take (i := 11) (v := (.pointer (some ⟨b, off + 2, none⟩))) rfl (by kernel_rfl) (by kernel_rfl) (by kernel_rfl) (fun _ _ _ h => h) (.inl ⟨rfl, fun _ hS => exec_idxB (k := 2) rfl rfl rfl (by omega) _⟩) S0 ?_
          simp only [List.getElem_toArray, List.getElem_cons_succ, List.getElem_cons_zero, Act.put, List.setIfInBounds_toArray, List.set_cons_succ, List.set_cons_zero]
          refine wpAnyH_take (i := 12) (v := (.int .u8 (A2 : Int))) rfl (by kernel_rfl) (by kernel_rfl) (by kernel_rfl) (fun _ _ _ h => h) (.inl ⟨rfl, fun _ hS => exec_loadq rfl rfl (load_u8q _ _ _ _ (hS.2.2))⟩) S0 ?_
          simp only [List.getElem_toArray, List.getElem_cons_succ, List.getElem_cons_zero, Act.put, List.setIfInBounds_toArray, List.set_cons_succ, List.set_cons_zero]
          refine wpAnyH_take (i := 13) (v := (.slice ra (l.length - 7) rc)) rfl (by kernel_rfl) (by kernel_rfl) (by kernel_rfl) (fun _ _ _ h => h) (.inl ⟨rfl, fun _ hS => rfl⟩) S0 ?_
          simp only [List.getElem_toArray, List.getElem_cons_succ, List.getElem_cons_zero, Act.put, List.setIfInBounds_toArray, List.set_cons_succ, List.set_cons_zero]
          refine wpAnyH_take (i := 14) (v := (.int .u64 (N : Int))) rfl (by kernel_rfl) (by kernel_rfl) (by kernel_rfl) (fun _ _ _ h => h) (.inl ⟨rfl, fun _ hS => rfl⟩) S0 ?_
          simp only [List.getElem_toArray, List.getElem_cons_succ, List.getElem_cons_zero, Act.put, List.setIfInBounds_toArray, List.set_cons_succ, List.set_cons_zero]
          refine wpAnyH_take (i := 15) (v := (.slice ta N tc)) rfl (by kernel_rfl) (by kernel_rfl) (by kernel_rfl) (fun _ _ _ h => h) (.inl ⟨rfl, fun _ hS => exec_sliceB (v := .slice ra (l.length - 7) rc) (lo' := none) (hi' := some (.int .u64 N)) rfl rfl rfl rfl trun _⟩) S0 ?_
          simp only [List.getElem_toArray, List.getElem_cons_succ, List.getElem_cons_zero, Act.put, List.setIfInBounds_toArray, List.set_cons_succ, List.set_cons_zero]
          refine wpAnyH_take (i := 16) (v := (.agg S.arr)) rfl (by kernel_rfl) (by kernel_rfl) (by kernel_rfl) (fun _ _ _ h => h) (.inl ⟨rfl, fun _ hS => exec_bdS rfl S (by rw [hSx]; rfl) (by rw [hSb]; rfl) (by rw [hSa, hSc, hSN]; rfl) _⟩) S0 ?_
          simp only [List.getElem_toArray, List.getElem_cons_succ, List.getElem_cons_zero, Act.put, List.setIfInBounds_toArray, List.set_cons_succ, List.set_cons_zero]
          refine wpAnyH_all (rs := [17]) (by kernel_rfl) (by simp) ?_
          intro k hk
          simp only [List.mem_cons, List.mem_nil_iff, or_false] at hk
          subst hk
          refine wpOp_run rfl rfl (wp_store_row 90 _ _ rfl q S.arr rfl rfl 90 Sw.nul.arr gd (by show _ = some 3; exact infoS) rfl (all_oneCell_toArray (swC_one S)) ?_)
          have D1 := Sb.row gd S
          have S1 := HSC.out
          refine ⟨S1, ?_⟩
          simp only [List.getElem_toArray, List.getElem_cons_succ, List.getElem_cons_zero, Act.put, List.setIfInBounds_toArray, List.set_cons_succ, List.set_cons_zero]
          refine wpAnyH_take (i := 18) (v := (.bool true)) rfl (by kernel_rfl) (by kernel_rfl) (by kernel_rfl) (fun _ _ _ h => h) (.inl ⟨rfl, fun _ hS => by simp [execOp, go_sem, Act.eval]⟩) S1 ?_
          simp only [List.getElem_toArray, List.getElem_cons_succ, List.getElem_cons_zero, Act.put, List.setIfInBounds_toArray, List.set_cons_succ, List.set_cons_zero]
          refine wpAnyH_done (by kernel_rfl) ?_ _
          have HD1 := hidOf2 D1
          go_wp2
          exact bodyPost_ret (head_results D1 _ rfl rfl) rfl ⟨S, by rw [e1.out], by rw [← hq] at HbF ⊢; exact HbF.out, fun _ => ⟨HSe.out, HSB2.out⟩⟩
end Go.Proofs.YtjlbahgjjdfaeaaGreat
