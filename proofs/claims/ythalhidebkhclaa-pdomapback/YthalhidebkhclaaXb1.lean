/- Mappings: slots, plain; contracts: open, refused, valueOf, bytes.Equal. Slots that came in, opened; rooms. Contracts: ends and what it hands back. Contracts: Check. Contracts: Size. A loop over an iterator that itself goes over another iterator. Bytes cut out of bytes. The region of pieces that draws its order, inside a round. The yield of pieces. pieces, as an iterator over an iterator. -/
import Derived.Test.YthalhidebkhclaaXa1
import Derived.Test.YthalhidebkhclaaTy5f
import Derived.Test.YthalhidebkhclaaOOp
import Derived.RangeFuncNested
import Derived.RangeFuncBound
import Derived.RangeFuncCalls
import Derived.RangeFuncLeaves
import Derived.RangeFuncBox
import Derived.Shelf.Abstract
import Derived.OwnWalkIn
import Derived.TacticsInMore
import Derived.LoopNIn
import Derived.LoopIn
import Derived.Sort.QuietIn
import Derived.Test.YthalhidebkhclaaOw
namespace Go.Proofs.Ythalhidebkhclaa
open Go.RowKit Go.Proofs.Ty Go.Sort Go.Lib
set_option linter.unusedVariables false
set_option maxRecDepth 1000000
set_option linter.unusedSimpArgs false
theorem ldG {w : World} {ops : Array Oper} {rest : List Oper} {p : Oper} {a : Act} {Q : Exit → Act → World → Prop} {ty : TypeId} {ad : Addr} {v : Value} (hr : (loadVar ty ad).run Try.prog w = .ok v w) (hgd : Region.wanted p (yielded ops a.tmps) = true) (x : Operand) (ho : p.op = .load ty x) (hx : a.eval x = .pointer (some ad))
    (hh : wpList Try.prog ops Q rest (a.put p.dst v) w) : wpList Try.prog ops Q (p :: rest) a w := by
  refine BigFrame.wpList_want hgd fun K hK => ?_
  unfold Oper.wp execOp
  simp only [ho, hx, Instr.loadAt, Instr.sureAddr, Sem.run_bind, Sem.run_pure, Result.andThen_ok, hr]
  exact hK _ _ hh
/-- A slot: a place, and how many bits. -/
structure Sl where
  ix : Nat
  sb : Nat
  bt : Int
  hx : ix < 65536
  hs : sb < 256
  hb : -9223372036854775808 ≤ bt ∧ bt < 9223372036854775808
def slC (s : Sl) : List Value := [.int .u16 s.ix, .int .u8 s.sb, .int .i64 s.bt]
def Sl.arr (s : Sl) : Array Value := (slC s).toArray
theorem infoSl : (Try.prog.info? 47).map (·.size) = some 3 := by kernel_rfl
theorem Sl.one (s : Sl) : (s.arr.all fun x => x.oneCell') = true := by simp [Sl.arr, slC, Value.oneCell']
def DS : Dec Sl := ⟨slC, 3, by decide, fun _ => rfl, fun s u hu => by
  simp [slC] at hu
  rcases hu with rfl | rfl | rfl <;> rfl⟩
/-- A slot in a block of its own. -/
def Sb (q : Nat) (s : Sl) (w : World) : Prop := w.heap[q]? = some (.cells s.arr 47 (0, 0))
section
variable {q : Nat} {s : Sl} {w x : World}
theorem Sb.lt (h : Sb q s w) : q < w.heap.size := (Array.getElem?_eq_some_iff.1 h).1
theorem Sb.new (w : World) (s : Sl) : Sb w.heap.size s (w.alloc (.cells s.arr 47)) := heap_alloc_new w _
theorem Sb.below (h : Sb q s w) (hb : Below w.heap.size w x) : Sb q s x := (hb.block q h.lt).trans h
theorem Sb.c0 (h : Sb q s w) : w.cell? ⟨q, 0, none⟩ = some (.int .u16 s.ix) := Lib.cell_of_heap h 0
theorem Sb.c1 (h : Sb q s w) : w.cell? ⟨q, 1, none⟩ = some (.int .u8 s.sb) := Lib.cell_of_heap h 1
theorem Sb.c2 (h : Sb q s w) : w.cell? ⟨q, 2, none⟩ = some (.int .i64 s.bt) := Lib.cell_of_heap h 2
theorem Sb.load (h : Sb q s w) : (loadVar 47 ⟨q, 0, none⟩).run Try.prog w = .ok (.agg s.arr) w :=
  run_loadVar_row w q 47 47 s.arr (0, 0) _ h Try.underlying47 rfl infoSl
end
/-- Whether an entry of such access may be put in, or told. -/
def opn (ac : Int) (inn : Bool) : Bool := if inn then decide (ac = 2 ∨ ac = 1) else decide (ac ≠ 1)
theorem open13_any (ac : Int) (inn : Bool) (w : World) : Calls Try.prog 55 #[.int .i64 ac, .bool inn] w fun e w' => e = .returned (.bool (opn ac inn)) ∧ w' = w := by
  cases inn with
  | true =>
    by_cases h2 : ac = 2
    · have d : (ac == 2) = true := by simp; omega
      have e : opn ac true = true := by simp [opn, h2]
      rw [e]
      clear h2 e
      go_enter Try.func55, Try.ntmps55
      go_wp2
      go_ret
      exact ⟨rfl, rfl⟩
    · have d : (ac == 2) = false := by simp; omega
      have e : opn ac true = (ac == 1) := by rw [Bool.eq_iff_iff]; simp [opn, h2]
      rw [e]
      clear h2 e
      go_enter Try.func55, Try.ntmps55
      go_wp2
      go_ret
      exact ⟨rfl, rfl⟩
  | false =>
    have e : opn ac false = (ac != 1) := by rw [Bool.eq_iff_iff]; simp [opn]
    rw [e]
    clear e
    go_enter Try.func55, Try.ntmps55
    go_wp2
    go_ret
    exact ⟨rfl, rfl⟩
def zE14 : Array Value := #[.int .u16 0, .int .u8 0, .int .i64 0, .bool false, .bool false, .int .i64 0, .int .u64 0, .string ⟨#[]⟩, .int .i64 0, .int .u64 0, .string ⟨#[]⟩, .int .i64 0, .int .u64 0, .string ⟨#[]⟩]
def En.nul : En := ⟨0, 0, 0, false, false, Vl.nul, Vl.nul, Vl.nul, by decide, by decide, by decide⟩
/-- What Entry tells. -/
def entO (its : List Im) (ix sb : Nat) : En × Bool := match fnd its ix sb with
  | none => (En.nul, false)
  | some i => (i.e, true)
set_option maxHeartbeats 4000000 in
theorem Entry_any {D R : Nat} {its : List Im} {w : World} (h : Dct D R its w) (ix sb : Nat) (h1 : ix < 65536) (h2 : sb < 256) :
    Calls Try.prog 54 #[.pointer (some ⟨D, 0, none⟩), .int .u16 (ix : Int), .int .u8 (sb : Int)] w fun e w' => e = .returned (.tuple #[.agg (entO its ix sb).1.arr, .bool (entO its ix sb).2]) ∧ Below w.heap.size w w' := by
  cases hf : fnd its ix sb with
  | some i =>
    have e : entO its ix sb = (i.e, true) := by unfold entO; rw [hf]
    rw [e]
    exact Entry_some h ix sb h1 h2 hf
  | none =>
    have e : entO its ix sb = (En.nul, false) := by unfold entO; rw [hf]
    rw [e]
    show Calls Try.prog 54 #[.pointer (some ⟨D, 0, none⟩), .int .u16 (ix : Int), .int .u8 (sb : Int)] w fun e w' => e = .returned (.tuple #[.agg En.nul.arr, .bool false]) ∧ Below w.heap.size w w'
    obtain ⟨q, hq⟩ : ∃ q, w.heap.size = q := ⟨_, rfl⟩
    have hh : (w.alloc (.cells zE14 59)).heap[q]? = some (.cells zE14 59 (0, 0)) := by rw [← hq]; exact heap_alloc_new w _
    have bA : Below w.heap.size w (w.alloc (.cells zE14 59)) := (Below.refl _ _).alloc (Nat.le_refl _) _
    have h0 := h.below bA
    have hF := find_none h0 ix sb h1 h2 hf
    have d1 : ((noc its ix : Int) != 0) = true := by have := noc_ne its ix; simp; omega
    have s0 := bA.size
    generalize noc its ix = C at *
    clear h h0 hf e
    go_enter Try.func54, Try.ntmps54
    go_upto_region 1 with fail
    change Code.wp Try.prog _ _ _ (w.alloc (.cells zE14 59))
    generalize (w.alloc (.cells zE14 59)) = W at *
    try simp only [hq]
    go_wp2_with fail
    refine hF.mono ?_
    rintro e w1 ⟨rfl, b1⟩
    have hh1 : w1.heap[q]? = some (.cells zE14 59 (0, 0)) := (b1.block q (Array.getElem?_eq_some_iff.1 hh).1).trans hh
    have B1 := bA.trans (b1.mono s0)
    have hE := Eb.row hh1 En.nul
    have B2 := below_row B1 (by omega) B1.size (q := q) En.nul.arr
    clear hF bA b1 B1 hh
    go_wp2_with (first | (refine sdE hh1 rfl En.nul rfl _ _ rfl rfl rfl ?_))
    exact bodyPost_ret (ent_results hE _ rfl rfl) rfl ⟨rfl, by first | exact B2 | (rw [← hq] at B2 ⊢; exact B2)⟩
/-- The code by which a slot can't be. -/
def refC (its : List Im) (s : Sl) (inn : Bool) : Nat := match fnd its s.ix s.sb with
  | none => wc its s.ix s.sb []
  | some i => if i.e.mp = false ∨ s.bt ≠ (siz i.e.df.t : Int) * 8 ∨ opn i.e.ac inn = false then 100925505 else 0
section
variable {D R : Nat} {its : List Im} {w : World}
set_option maxHeartbeats 4000000 in
theorem refused_any (h : Dct D R its w) (s : Sl) (inn : Bool) : Calls Try.prog 35 #[.pointer (some ⟨D, 0, none⟩), .agg s.arr, .bool inn] w fun e w' => e = .returned (.int .u32 (refC its s inn : Nat)) ∧ Below w.heap.size w w' := by
  obtain ⟨q, hq⟩ : ∃ q, w.heap.size = q := ⟨_, rfl⟩
  obtain ⟨V, hV⟩ : ∃ V, w.alloc (.cells s.arr 47) = V := ⟨_, rfl⟩
  have b0 : Below w.heap.size w V := by rw [← hV]; exact (Below.refl _ _).alloc (Nat.le_refl _) _
  have s0 : Sb q s V := by rw [← hV, ← hq]; exact Sb.new w s
  have hE := Entry_any (h.below b0) s.ix s.sb s.hx s.hs
  have HD : Hid (∀ y, Below V.heap.size V y → Dct D R its y) := fun y hy => (h.below b0).below hy
  have HS : Hid (∀ y, Below V.heap.size V y → Sb q s y) := fun y hy => s0.below hy
  have y0 := s0.c0
  have y1 := s0.c1
  obtain ⟨RC, hRC⟩ : ∃ c, refC its s inn = c := ⟨_, rfl⟩
  rw [hRC]
  have HRC := hidOf2 hRC
  clear hRC
  obtain ⟨en, hen⟩ : ∃ e, (entO its s.ix s.sb).1 = e := ⟨_, rfl⟩
  obtain ⟨is, his⟩ : ∃ e, (entO its s.ix s.sb).2 = e := ⟨_, rfl⟩
  rw [hen, his] at hE
  have HEN := hidOf2 hen
  have HIS := hidOf2 his
  have hix := s.hx
  have hsb := s.hs
  have HB0 := hidOf2 b0
  have HX : Hid (∀ y z, Below V.heap.size V y → y.heap.size = z → ∀ Z, Z = (y.alloc (.cells zE14 59)).setRow z en.arr → Eb z en Z ∧ Below V.heap.size V Z) := fun y z hy hz Z hZ => by
    subst hz hZ
    have hn : (y.alloc (.cells zE14 59)).heap[y.heap.size]? = some (.cells zE14 59 (0, 0)) := heap_alloc_new y _
    exact ⟨Eb.row hn en, below_row (hy.alloc hy.size _) hy.size (by rw [size_alloc]; have := hy.size; omega) _⟩
  clear hen his b0 s0 h
  go_enter Try.func35, Try.ntmps35
  go_upto_region 2 with (first | (go_at_call 54; refine hE.mono ?_; rintro e w1 ⟨rfl, b1⟩; obtain ⟨z, hz⟩ : ∃ z, w1.heap.size = z := ⟨_, rfl⟩; have hn : (w1.alloc (.cells zE14 59)).heap[z]? = some (.cells zE14 59 (0, 0)) := by { rw [← hz]; exact heap_alloc_new w1 _ }) | (refine sdE hn rfl en rfl _ _ rfl rfl rfl ?_))
  change Code.wp Try.prog _ _ _ ((w1.alloc (.cells zE14 59)).setRow z en.arr)
  obtain ⟨X, hX⟩ : ∃ X, (w1.alloc (.cells zE14 59)).setRow z en.arr = X := ⟨_, rfl⟩
  rw [hX]
  obtain ⟨eX, bX⟩ := HX.out w1 z b1 hz X hX.symm
  have sX := HS.out X bX
  have y0 := sX.c0
  have y1 := sX.c1
  have y2 := sX.c2
  have dX := HD.out X bX
  have BX := HB0.out.trans (bX.mono HB0.out.size)
  have HBX := hidOf2 BX
  clear hn hX HX hE b1 hz bX sX HS HD BX
  cases hf : fnd its s.ix s.sb with
  | none =>
    have e1 : entO its s.ix s.sb = (En.nul, false) := by unfold entO; rw [hf]
    have e2 : is = false := by rw [← HIS.out, e1]
    have HE3 : Hid (RC = wc its s.ix s.sb []) := by show _ = _; rw [← HRC.out]; unfold refC; rw [hf]
    subst e2
    have hM := May_any dX s.ix s.sb s.hx s.hs (.slice none 0 0) [] (Bytes.nil _)
    clear e1 hf dX HEN HIS eX
    go_wp2_with (first | (go_at_call 20; refine hM.mono ?_; rintro e w2 ⟨rfl, b2⟩))
    go_ret
    exact ⟨ret_int (by rw [HE3.out]), HBX.out.trans (b2.mono HBX.out.size)⟩
  | some i =>
    have e1 : entO its s.ix s.sb = (i.e, true) := by unfold entO; rw [hf]
    have e2 : is = true := by rw [← HIS.out, e1]
    have e4 : en = i.e := by rw [← HEN.out, e1]
    have HE3 : Hid (RC = if i.e.mp = false ∨ s.bt ≠ (siz i.e.df.t : Int) * 8 ∨ opn i.e.ac inn = false then 100925505 else 0) := by show _ = _; rw [← HRC.out]; unfold refC; rw [hf]
    subst e2
    rw [e4] at eX
    obtain ⟨_, _, c2, c3, _, c11⟩ := eX.c
    have hSz := Size_any i.e.df.t
    have hOp := open13_any i.e.ac inn
    have hsz : siz i.e.df.t ≤ 8 := by unfold siz; split; omega; split; omega; split; omega; split <;> omega
    clear HRC
    generalize siz i.e.df.t = sz at *
    generalize opn i.e.ac inn = op at *
    generalize i.e.mp = mp at *
    clear e1 e4 hf dX HEN HIS eX
    cases mp with
    | false =>
      have e5 : RC = 100925505 := by rw [HE3.out, if_pos (.inl rfl)]
      subst e5
      clear HE3
      go_wp2_with (first | (go_at_call 52; refine (hSz _).mono ?_; rintro e w2 ⟨rfl, hw2⟩; rw [hw2]; clear hw2 w2))
      go_ret
      exact ⟨rfl, HBX.out⟩
    | true =>
      by_cases hb : s.bt = (sz : Int) * 8
      · have d1 : (s.bt != (sz : Int) * 8) = false := by simp; omega
        cases op with
        | true =>
          have e5 : RC = 0 := by rw [HE3.out, if_neg (by simp [hb])]
          subst e5
          clear HE3 hb
          go_wp2_with (first | (go_at_call 52; refine (hSz _).mono ?_; rintro e w2 ⟨rfl, hw2⟩; rw [hw2]; clear hw2 w2) | (go_at_call 55; refine (hOp _).mono ?_; rintro e w2 ⟨rfl, hw2⟩; rw [hw2]; clear hw2 w2))
          go_ret
          exact ⟨rfl, HBX.out⟩
        | false =>
          have e5 : RC = 100925505 := by rw [HE3.out, if_pos (.inr (.inr rfl))]
          subst e5
          clear HE3 hb
          go_wp2_with (first | (go_at_call 52; refine (hSz _).mono ?_; rintro e w2 ⟨rfl, hw2⟩; rw [hw2]; clear hw2 w2) | (go_at_call 55; refine (hOp _).mono ?_; rintro e w2 ⟨rfl, hw2⟩; rw [hw2]; clear hw2 w2))
          go_ret
          exact ⟨rfl, HBX.out⟩
      · have d1 : (s.bt != (sz : Int) * 8) = true := by simp; omega
        have e5 : RC = 100925505 := by rw [HE3.out, if_pos (.inr (.inl hb))]
        subst e5
        clear HE3 hb
        go_wp2_with (first | (go_at_call 52; refine (hSz _).mono ?_; rintro e w2 ⟨rfl, hw2⟩; rw [hw2]; clear hw2 w2))
        go_ret
        exact ⟨rfl, HBX.out⟩
set_option maxHeartbeats 4000000 in
theorem valueOf_any (h : Dct D R its w) (s : Sl) : Calls Try.prog 22 #[.pointer (some ⟨D, 0, none⟩), .agg s.arr] w fun e w' => ∃ x, e = .returned x ∧ Bytes w' x (getV its s.ix s.sb).enc ∧ Below w.heap.size w w' ∧ (∀ b, x.ownBlock = some b → w.heap.size ≤ b) := by
  obtain ⟨q, hq⟩ : ∃ q, w.heap.size = q := ⟨_, rfl⟩
  obtain ⟨V, hV⟩ : ∃ V, w.alloc (.cells s.arr 47) = V := ⟨_, rfl⟩
  have b0 : Below w.heap.size w V := by rw [← hV]; exact (Below.refl _ _).alloc (Nat.le_refl _) _
  have s0 : Sb q s V := by rw [← hV, ← hq]; exact Sb.new w s
  have hG := Get_any (h.below b0) s.ix s.sb s.hx s.hs
  have y0 := s0.c0
  have y1 := s0.c1
  have HB0 := hidOf2 b0
  obtain ⟨gv, hgv⟩ : ∃ v, getV its s.ix s.sb = v := ⟨_, rfl⟩
  obtain ⟨ge, hge⟩ : ∃ v, getE its s.ix s.sb = v := ⟨_, rfl⟩
  rw [hgv, hge] at hG
  rw [hgv]
  have hix := s.hx
  have hsb := s.hs
  clear hgv hge b0 s0 h
  go_enter Try.func22, Try.ntmps22
  go_upto_region 2 with (first | (go_at_call 12; refine hG.mono ?_; rintro e w1 ⟨rfl, b1⟩; obtain ⟨z, hz⟩ : ∃ z, w1.heap.size = z := ⟨_, rfl⟩; have g0 : Va z Vl.nul (w1.alloc (.cells #[.int .i64 0, .int .u64 0, .string ⟨#[]⟩] 42)) := hz ▸ Va.new w1 Vl.nul) | (refine g0.sd gv rfl _ _ rfl rfl rfl ?_))
  change Code.wp Try.prog _ _ _ ((w1.alloc (.cells #[.int .i64 0, .int .u64 0, .string ⟨#[]⟩] 42)).setRow z gv.arr)
  obtain ⟨X, hX⟩ : ∃ X, (w1.alloc (.cells #[.int .i64 0, .int .u64 0, .string ⟨#[]⟩] 42)).setRow z gv.arr = X := ⟨_, rfl⟩
  rw [hX]
  have gX : Va z gv X := by rw [← hX]; exact g0.row gv
  have bX : Below V.heap.size V X := by rw [← hX]; exact below_row (b1.alloc b1.size _) (by rw [← hz]; exact b1.size) (by rw [size_alloc]; have := b1.size; omega) _
  have hEn := Encode_f gv X
  have HBX := hidOf2 (HB0.out.trans (bX.mono HB0.out.size))
  have lX := gX.load
  clear hX g0 bX b1 hz hG gX
  go_wp2_with (first | (refine ldG lX rfl _ rfl rfl ?_) | (go_at_call 38; refine hEn.mono ?_; rintro e w2 ⟨xv, rfl, hB, b2, hO⟩; have HBY := hidOf2 hB; have HB2 := hidOf2 b2; have HO2 := hidOf2 hO; clear hB b2 hO))
  go_ret
  exact ⟨xv, rfl, HBY.out, HBX.out.trans (HB2.out.mono HBX.out.size), fun b hb => Nat.le_trans HBX.out.size (HO2.out b hb)⟩
theorem Equal_any (v u : Value) (l m : List UInt8) (w : World) (h1 : Bytes w v l) (h2 : Bytes w u m) : Calls Try.prog 26 #[v, u] w fun e w' => e = .returned (.bool (decide (l = m))) ∧ w' = w := by
  have t1 := Bytes.text h1
  have t2 := Bytes.text h2
  obtain ⟨av, cv, rfl⟩ := bytes_shape h1
  obtain ⟨au, cu, rfl⟩ := bytes_shape h2
  clear h1 h2
  go_enter Try.func26, Try.ntmps26
  go_wp2
  go_ret
  exact ⟨ret_bool (by rw [Bool.eq_iff_iff]; simp), rfl⟩
end
end Go.Proofs.Ythalhidebkhclaa
namespace Go.Proofs.Ythalhidebkhclaa
open Go.ChangeShapes Go.WideShapes Go.ChangeAt Go.RowKit Go.Proofs.Ty
set_option linter.unusedVariables false
set_option maxRecDepth 1000000
set_option linter.unusedSimpArgs false
theorem cap_slice {H : Type} {enc : TypeId × Value → H} {W : World} {base : Nat} {v : Value} {d : DataW H} {ps : List MemPlace} {t e : TypeId} (ht : Try.prog.underlying t = some (.slice e)) (hval : Value.okWide Try.prog W .any base t v) (h : DataW.Trod enc Try.prog W 0 (fun _ => true) true t v d ps) : ∀ ao n cap, v = .slice ao n cap → n ≤ cap := by
  obtain ⟨ao, len, cap, rfl⟩ := okWide_slice ht hval
  obtain ⟨fuel, hf⟩ := h
  intro ao' n' cap' hv
  injection hv with e1 e2 e3
  subst e1 e2 e3
  rcases DataW.trod_slice ht hf with ⟨hcs, hx⟩ | ⟨a, len', cap', elems, rest, n, _, hcs, hx, _, hl, hm, hlen, hel, _, _⟩
  · simp [Value.cells] at hcs
    omega
  · simp [Value.cells] at hcs
    omega
theorem cellsSl : Try.prog.cellsOf 47 = 3 := by kernel_rfl
theorem bytesSl : Try.prog.bytesOf 47 = 16 := by kernel_rfl
theorem c1u16_13 : Try.prog.cellsOf 45 = 1 := by kernel_rfl
theorem c1u8_13 : Try.prog.cellsOf 5 = 1 := by kernel_rfl
theorem c1int_13 : Try.prog.cellsOf 3 = 1 := by kernel_rfl
theorem list3s {l : List Value} (h : l.length = 3) : ∃ c0 c1 c2, l = [c0, c1, c2] := by
  match l, h with
  | [c0, c1, c2], _ => exact ⟨c0, c1, c2, rfl⟩
theorem one_sl {H : Type} {enc : TypeId × Value → H} {W : World} (n : Nat) (cs : List Value) (y : DataW H × List MemPlace) (h : DataW.trod enc Try.prog W 0 (fun _ => true) true n 47 cs = some y) : ∃ a : Sl, cs = slC a := by
  obtain ⟨xs, m, _, _, hn, hl, hfs⟩ := DataW.trod_struct Try.underlying47 h
  rw [cellsSl] at hn
  obtain ⟨c0, c1, c2, rfl⟩ := list3s hn
  have g0 := hfs 0 _ rfl
  have g1 := hfs 1 _ rfl
  have g2 := hfs 2 _ rfl
  simp [c1u16_13, c1u8_13, c1int_13] at g0 g1 g2
  match xs, hl with
  | [y0, y1, y2], _ =>
    simp at g0 g1 g2
    obtain ⟨i0, e0, _, w0⟩ := DataW.trod_int Try.underlying45 g0
    obtain ⟨i1, e1, _, w1⟩ := DataW.trod_int Try.underlying5 g1
    obtain ⟨i2, e2, _, w2⟩ := DataW.trod_int Try.underlying3 g2
    simp at e0 e1 e2
    subst e0 e1 e2
    obtain ⟨n0, rfl, l0⟩ := u16_of w0
    obtain ⟨n1, rfl, l1⟩ := u8_of w1
    exact ⟨⟨n0, n1, i2, l0, l1, wf_i64_of w2⟩, rfl⟩
theorem open_slots {H : Type} {enc : TypeId × Value → H} {W : World} {base : Nat} {v : Value} {d : DataW H} {ps : List MemPlace}
    (hval : Value.okWide Try.prog W .any base 23 v) (h : DataW.Trod enc Try.prog W 0 (fun _ => true) true 23 v d ps) (hlt : ∀ x ∈ ps, x.block < W.heap.size) :
    ∃ l, (Wide 3 slC W v l ∧ ∀ ao n cap, v = .slice ao n cap → n ≤ cap) ∧ ((d = .nil ∧ l = []) ∨ ∃ e s, d = .slice e s ∧ e.length = l.length) := by
  obtain ⟨l, h1, h2⟩ := open_wide Try.underlying23 cellsSl (by decide) one_sl hval h hlt
  exact ⟨l, ⟨h1, cap_slice Try.underlying23 hval h⟩, h2⟩
theorem size_slots {H : Type} {ts : List TypeId} {ds : List (DataW H)} {j : Nat} {d : DataW H} {l : List Sl} (h : (DataW.weightsEach Try.prog ts ds).all (· ≤ reachBytes) = true) (ht : ts[j]? = some 23) (hd : ds[j]? = some d) (e : (d = .nil ∧ l = []) ∨ ∃ e s, d = .slice e s ∧ e.length = l.length) : l.length ≤ 8796093022000 := by
  have := size_wide h ht hd Try.underlying23 bytesSl e
  omega
theorem open_bytesC {H : Type} {enc : TypeId × Value → H} {W : World} {base : Nat} {v : Value} {d : DataW H} {ps : List MemPlace}
    (hval : Value.okWide Try.prog W .any base 24 v) (h : DataW.Trod enc Try.prog W 0 (fun _ => true) true 24 v d ps) (hlt : ∀ x ∈ ps, x.block < W.heap.size) :
    ∃ l, (Bytes W v l ∧ ∀ ao n cap, v = .slice ao n cap → n ≤ cap) ∧ ((d = .nil ∧ l = []) ∨ ∃ e s, d = .slice e s ∧ e.length = l.length) := by
  obtain ⟨l, h1, h2⟩ := open_bytes hval h hlt
  exact ⟨l, ⟨h1, cap_slice Try.underlying24 hval h⟩, h2⟩
end Go.Proofs.Ythalhidebkhclaa
namespace Go.Proofs.Ythalhidebkhclaa
open Go.RowKit Go.Shelf Go.Proofs.Ty
set_option linter.unusedVariables false
set_option maxRecDepth 1000000
set_option linter.unusedSimpArgs false
attribute [local go_sem] Oper.semAt_some
def Sl.nul : Sl := ⟨0, 0, 0, by decide, by decide, by decide⟩
/-- The bits of the first k slots. -/
def en (L : List Sl) : Nat → Int
  | 0 => 0
  | k + 1 => wrap64 (en L k + (L.getD k Sl.nul).bt)
/-- What is handed on of slot k. -/
def enV (L : List Sl) (k : Nat) : Array Value := #[.agg (L.getD k Sl.nul).arr, .int .i64 (en L (k + 1))]
/-- These blocks stay. -/
def Kb (bs : List Nat) (A B : World) : Prop := ∀ b ∈ bs, B.heap[b]? = A.heap[b]?
theorem Kb.refl (bs : List Nat) (A : World) : Kb bs A A := fun _ _ => rfl
theorem Kb.trans {bs : List Nat} {A B C : World} (h : Kb bs A B) (k : Kb bs B C) : Kb bs A C := fun b hb => (k b hb).trans (h b hb)
def bks (Bs : Nat) (v : Value) (n : Nat) : List Nat := Bs :: (if 0 < n then v.ownBlock.toList else [])
theorem en_bd (L : List Sl) (k : Nat) : -9223372036854775808 ≤ en L k ∧ en L k < 9223372036854775808 := by
  cases k with
  | zero => simp [en]
  | succ k =>
    unfold en
    generalize en L k + (L.getD k Sl.nul).bt = z
    simp only [wrap64]
    omega
set_option maxRecDepth 100000 in
set_option maxHeartbeats 4000000 in
theorem ends1_in (F : Fence) (n : Nat) (hF : F.fn 45) (hro : F.round = none) (hn : 1 ≤ n) (l Bs : Nat) (v : Value) (L : List Sl) (hL : L.length ≤ 8796093022000) (J Jx : List Nat → World → Prop)
    (hJa : ∀ s A B, J s A → A.grownBy B none → J s B)
    (hY : ∀ pre x W, J pre W → pre.length < L.length → x = pre.length → YieldAt F (n - 1) Try.prog l (enV L x) W fun e W' =>
      (e = .returned (.bool true) ∧ J (pre ++ [x]) W' ∧ Kb (bks Bs v L.length) W W') ∨ (e = .returned (.bool false) ∧ Jx (pre ++ [x]) W'))
    (W : World) (hBs : W.heap[Bs]? = some (.cells #[v] 23 (0, 0))) (hWd : Wide 3 slC W v L) (h0 : J [] W) :
    CallsIn F n Try.prog 45 #[.func (.yield l) #[] #[], .pointer (some ⟨Bs, 0, none⟩)] W fun e W' => (∃ v, e = .returned v) ∧
      ((∃ ys, ys = List.range L.length ∧ J ys W') ∨ (∃ pre, (∃ k, k ≤ L.length ∧ pre = List.range k) ∧ Jx pre W')) := by
  obtain ⟨ao, cap, hv⟩ := hWd.shape
  obtain ⟨N, hN⟩ : ∃ N, L.length = N := ⟨_, rfl⟩
  have HN := hidOf hN
  rw [hN] at hv hL
  subst hv
  have cW : W.cell? ⟨Bs, 0, none⟩ = some (.slice ao N cap) := Lib.cell_of_heap hBs 0
  have HST : Hid (∀ y, Kb (bks Bs (.slice ao N cap) L.length) W y → ∀ k, k < N → ∃ b off, ao = some ⟨b, off, none⟩ ∧ y.cell? ⟨b, off + k * 3, none⟩ = some (.int .u16 ((L.getD k Sl.nul).ix : Int)) ∧ y.cell? ⟨b, off + k * 3 + 1, none⟩ = some (.int .u8 ((L.getD k Sl.nul).sb : Int)) ∧ y.cell? ⟨b, off + k * 3 + 2, none⟩ = some (.int .i64 (L.getD k Sl.nul).bt)) := fun y hy k hk => by
    have hkl : k < L.length := by rw [HN.out]; exact hk
    obtain ⟨ao', cap', he, _, hc⟩ := hWd
    injection he with he
    obtain ⟨b, off, ha, hlt, hr⟩ := hc k hkl
    have e : L.getD k Sl.nul = L[k] := by rw [List.getD_eq_getElem?_getD, List.getElem?_eq_getElem hkl]; rfl
    have hb : y.heap[b]? = W.heap[b]? := hy b (by rw [he, ha]; unfold bks; rw [if_pos (by omega)]; simp [Value.ownBlock])
    rw [e]
    exact ⟨b, off, he.trans ha, (World.cell?_of_block (a := ⟨b, off + k * 3 + 0, none⟩) hb).trans (hr 0 _ rfl), (World.cell?_of_block (a := ⟨b, off + k * 3 + 1, none⟩) hb).trans (hr 1 _ rfl), (World.cell?_of_block (a := ⟨b, off + k * 3 + 2, none⟩) hb).trans (hr 2 _ rfl)⟩
  clear hN hWd
  refine callsIn_of_wp Try.func45 rfl hF ?_ hro
  simp only [Try.ntmps45, List.size_toArray, List.length_cons, List.length_nil, Nat.reduceAdd, Nat.reduceSub, Array.replicate_succ, Array.replicate_zero, List.push_toArray, List.append_toArray, List.nil_append, List.cons_append]
  gi_wp2
  gi_loopw [3, 8] (fun ev i wr => ∃ k : Nat, k ≤ N ∧ i = .int .i64 k ∧ ev = .int .i64 (en L k) ∧ Hid (J (List.range k) wr) ∧ Hid (Kb (bks Bs (.slice ao N cap) L.length) W wr))
    (fun _ i _ => N - (intOf i).toNat)
  case atStart => exact ⟨0, Nat.zero_le _, rfl, rfl, h0, Kb.refl _ _⟩
  case round =>
    obtain ⟨k, hk, rfl, rfl, HJs, HKs⟩ := hrel
    by_cases hlt : k < N
    · have hd : decide ((k : Int) < (N : Int)) = true := by simp; omega
      obtain ⟨b, off, hao, x0, x1, x2⟩ := HST.out wr HKs.out k hlt
      subst hao
      obtain ⟨s, hs⟩ : ∃ s, L.getD k Sl.nul = s := ⟨_, rfl⟩
      have HS := hidOf hs
      rw [hs] at x0 x1 x2
      have hbd := en_bd L k
      have hsb := s.hb
      have hsx := s.hx
      have hss := s.hs
      have HEN : Hid (en L (k + 1) = wrap64 (en L k + s.bt)) := by show _ = _; rw [← hs]; rfl
      have hyd := fun y hy => hY (List.range k) k y (hJa _ _ y HJs.out hy) (by rw [List.length_range, HN.out]; exact hlt) (by rw [List.length_range])
      have HYD := hidOf hyd
      clear hs hyd hY
      generalize en L k = e0 at *
      have hg : wr.grownBy (wr.alloc (.cells #[.int .u16 (s.ix : Int), .int .u8 (s.sb : Int), .int .i64 s.bt] 47)) none := World.grownBy_alloc _ _ none
      have hyd := HYD.out _ hg
      have e9 : enV L k = #[.agg #[.int .u16 (s.ix : Int), .int .u8 (s.sb : Int), .int .i64 s.bt], .int .i64 (wrap64 (e0 + s.bt))] := by unfold enV; rw [HS.out, HEN.out]; rfl
      rw [e9] at hyd
      obtain ⟨fn, tmps, assign, body, hy, hR⟩ := hyd
      have HKA : Hid (∀ W3, Kb (bks Bs (.slice (some ⟨b, off, none⟩) N cap) L.length) (wr.alloc (.cells #[.int .u16 (s.ix : Int), .int .u8 (s.sb : Int), .int .i64 s.bt] 47)) W3 → Kb (bks Bs (.slice (some ⟨b, off, none⟩) N cap) L.length) W W3) := fun W3 h3 => by
        refine HKs.out.trans (Kb.trans (fun b' hb' => hg.block b' ?_ (by simp)) h3)
        have h4 := HKs.out b' hb'
        unfold bks at hb'
        rw [if_pos (by rw [HN.out]; omega)] at hb'
        simp [Value.ownBlock] at hb'
        rcases hb' with rfl | rfl
        · rw [hBs] at h4
          exact (Array.getElem?_eq_some_iff.1 h4).1
        · by_cases hbl : b' < wr.heap.size
          · exact hbl
          · exfalso
            have : wr.cell? ⟨b', off + k * 3, none⟩ = none := by
              unfold World.cell?
              rw [Array.getElem?_eq_none (Nat.le_of_not_lt hbl)]
            rw [this] at x0
            cases x0
      clear HYD hg e9
      gi_wp2
      refine hR.mono ?_
      rintro e W3 (⟨rfl, hJ3, hk3⟩ | ⟨rfl, hJx3⟩)
      · have HK3 := hidOf (HKA.out W3 hk3)
        have HJ3 := hidOf hJ3
        clear hk3 HKA hR hy hJ3
        gi_wp2
        go_roundw
        case rel => exact ⟨k + 1, by omega, by go_num, by rw [HEN.out], by rw [List.range_succ]; exact HJ3, HK3⟩
        case measure => simp [intOf]; omega
      · clear HKA hR hy
        gi_wp2
        refine bodyPost_ret (results_none rfl _ _ _) rfl ?_
        exact ⟨⟨_, rfl⟩, .inr ⟨_, ⟨k + 1, by rw [HN.out]; omega, List.range_succ.symm⟩, hJx3⟩⟩
    · have hd : decide ((k : Int) < (N : Int)) = false := by simp; omega
      obtain rfl : k = N := by omega
      gi_wp2
      go_end0
      exact ⟨⟨_, rfl⟩, .inl ⟨_, by rw [HN.out], HJs.out⟩⟩
end Go.Proofs.Ythalhidebkhclaa
namespace Go.Proofs.Ythalhidebkhclaa
open Go.RowKit Go.Shelf Go.Proofs.Ty
set_option linter.unusedVariables false
set_option maxRecDepth 1000000
set_option linter.unusedSimpArgs false
attribute [local go_sem] Oper.semAt_some
theorem ends_in (F : Fence) (n : Nat) (hF : F.fn 27) (hro : F.round = none) (ao : Option Addr) (N cap : Nat) (w : World) :
    CallsIn F n Try.prog 27 #[.slice ao N cap] w fun e w' => e = .returned (.func (.func 45) #[] #[.pointer (some ⟨w.heap.size, 0, none⟩)]) ∧ w' = w.alloc (.cells #[.slice ao N cap] 23) := by
  refine callsIn_of_wp Try.func27 rfl hF ?_ hro
  simp only [Try.ntmps27, List.size_toArray, List.length_cons, List.length_nil, Nat.reduceAdd, Nat.reduceSub, Array.replicate_succ, Array.replicate_zero, List.push_toArray, List.append_toArray, List.nil_append, List.cons_append]
  gi_wp2
  go_ret
  exact ⟨rfl, rfl⟩
theorem Wide.kb {v : Value} {L : List Sl} {A B : World} (h : Wide 3 slC A v L) (hs : A.heap.size ≤ B.heap.size) (hb : ∀ b, v.ownBlock = some b → b < A.heap.size → B.heap[b]? = A.heap[b]?) : Wide 3 slC B v L := h.same hs hb
theorem ends_stops (F : Fence) (n : Nat) (hF : F.fn 45) (hro : F.round = none) (hn : 1 ≤ n) (Bs : Nat) (v : Value) (L : List Sl) (hL : L.length ≤ 8796093022000) (w : World) (hBs : w.heap[Bs]? = some (.cells #[v] 23 (0, 0))) (hWd : Wide 3 slC w v L) :
    SeqStopsK F n Try.prog 45 #[.pointer (some ⟨Bs, 0, none⟩)] (enV L) (Kb (bks Bs v L.length)) (fun ys => ys = List.range L.length) (fun pre => ∃ k, k ≤ L.length ∧ pre = List.range k) L.length w := fun l J Jx W hW hJ _ hY h0 =>
  ends1_in F n hF hro hn l Bs v L hL J Jx (fun s A B hs hg => hJ s A B none hs hg (fun r e => by cases e)) (fun pre x W h1 h2 _ => hY pre x W h1 h2) W ((hW.block Bs (Array.getElem?_eq_some_iff.1 hBs).1).trans hBs) (hWd.same hW.size (fun b _ hl => hW.block b hl)) h0
/-- The code of the slot k. -/
def ck1 (its : List Im) (inn : Bool) (L : List Sl) (k : Nat) : Nat := if refC its (L.getD k Sl.nul) inn ≠ 0 then refC its (L.getD k Sl.nul) inn else if 64 < en L (k + 1) then 100925506 else 0
/-- Why a mapping can't be. -/
def ckC (its : List Im) (inn : Bool) (L : List Sl) : Nat := (((List.range L.length).map (ck1 its inn L)).find? (fun c => decide (c ≠ 0))).getD 0
theorem ckC_none (its : List Im) (inn : Bool) (L : List Sl) (h : ∀ k ∈ List.range L.length, ck1 its inn L k = 0) : ckC its inn L = 0 := by
  unfold ckC
  rw [List.find?_eq_none.2]
  · rfl
  · intro c hc
    obtain ⟨k, hk, rfl⟩ := List.mem_map.1 hc
    simp [h k hk]
theorem ckC_some (its : List Im) (inn : Bool) (L : List Sl) (k : Nat) (hk : k ≤ L.length) (p : List Nat) (x : Nat) (hp : List.range k = p ++ [x]) (h0 : ∀ y ∈ p, ck1 its inn L y = 0) (hx : ck1 its inn L x ≠ 0) : ckC its inn L = ck1 its inn L x := by
  unfold ckC
  have e : List.range L.length = List.range k ++ (List.range (L.length - k)).map (k + ·) := by
    rw [← List.range_add, Nat.add_sub_cancel' hk]
  rw [e, hp, List.map_append, List.map_append, List.find?_append, List.find?_append, List.find?_eq_none.2]
  · simp [hx]
  · intro c hc
    obtain ⟨y, hy, rfl⟩ := List.mem_map.1 hc
    simp [h0 y hy]
theorem grown_cells {A B : World} {row : Option Nat} {k : Nat} {cs : Array Value} {T : TypeId} {fr : Nat × Nat} (h : A.heap[k]? = some (.cells cs T fr)) (hg : A.grownBy B row) (hr : ∀ r, row = some r → ∃ o : Obj, A.heap[r]? = some o ∧ o.isCells = false) : B.heap[k]? = A.heap[k]? := by
  refine hg.block k (Array.getElem?_eq_some_iff.1 h).1 (fun e => ?_)
  obtain ⟨o, ho, hc⟩ := hr k e.symm
  rw [h] at ho
  injection ho with ho
  subst ho
  cases hc
/-- What stands between two rounds of Check. -/
structure Ck (w : World) (q D : Nat) (inn : Bool) (W : World) : Prop where
  b3 : W.heap[q]? = some (.cells #[.pointer (some ⟨D, 0, none⟩)] 31 (0, 0))
  b5 : W.heap[q + 1]? = some (.cells #[.bool inn] 4 (0, 0))
  b6 : W.heap[q + 2]? = some (.cells #[.int .u32 0] 38 (0, 0))
  old : Below w.heap.size w W
  sz : q + 4 ≤ W.heap.size
theorem below_grown {w A W : World} {B : Nat} {row : Option Nat} (h : Below w.heap.size w A) (hB : w.heap.size ≤ B) (hg : A.grownBy W row) (hr : ∀ r, row = some r → B ≤ r) : Below w.heap.size w W :=
  ⟨hg.os.trans h.os, hg.tape.trans h.tape, hg.output.trans h.output, Nat.le_trans h.size hg.size, fun k hk => (hg.block k (Nat.lt_of_lt_of_le hk h.size) (fun e => by have := hr k e.symm; omega)).trans (h.block k hk)⟩
theorem Ck.grown {w : World} {q D : Nat} {inn : Bool} {B : Nat} {A W : World} {row : Option Nat} (h : Ck w q D inn A) (hB : w.heap.size ≤ B) (hg : A.grownBy W row) (hr : ∀ r, row = some r → B ≤ r ∧ ∃ o : Obj, A.heap[r]? = some o ∧ o.isCells = false) : Ck w q D inn W := by
  have hr2 := fun r e => (hr r e).2
  exact ⟨(grown_cells h.b3 hg hr2).trans h.b3, (grown_cells h.b5 hg hr2).trans h.b5, (grown_cells h.b6 hg hr2).trans h.b6, below_grown h.old hB hg (fun r e => (hr r e).1), Nat.le_trans h.sz hg.size⟩
theorem Ck.below {w : World} {q D : Nat} {inn : Bool} {A W : World} (h : Ck w q D inn A) (hb : Below A.heap.size A W) : Ck w q D inn W :=
  ⟨(hb.block q (Array.getElem?_eq_some_iff.1 h.b3).1).trans h.b3, (hb.block _ (Array.getElem?_eq_some_iff.1 h.b5).1).trans h.b5, (hb.block _ (Array.getElem?_eq_some_iff.1 h.b6).1).trans h.b6, h.old.trans (hb.mono h.old.size), Nat.le_trans h.sz hb.size⟩
theorem Kp.cell1 (w : World) (g k : Nat) (v : Value) : Kp [g] w (w.setCell ⟨g, k, none⟩ v) :=
  ⟨rfl, rfl, rfl, by simp [World.setCell], fun k hk hn => Below.heap_setCell w _ v k (by simpa using hn)⟩
theorem noc_lt (its : List Im) (ix : Nat) : noc its ix < 4294967296 := by unfold noc; split <;> decide
theorem wc_lt (its : List Im) (ix sb : Nat) (l : List UInt8) : wc its ix sb l < 4294967296 := by
  unfold wc
  split
  · exact noc_lt _ _
  · unfold wcode
    split
    · decide
    · split
      · unfold bey
        split
        · decide
        · split
          · decide
          · split <;> decide
      · split
        · decide
        · split <;> decide
/-- The result is written. -/
structure Cr (w : World) (q c : Nat) (W : World) : Prop where
  b6 : W.heap[q + 2]? = some (.cells #[.int .u32 (c : Int)] 38 (0, 0))
  old : Below w.heap.size w W
  sz : q + 4 ≤ W.heap.size
theorem Cr.c {w : World} {q c : Nat} {W : World} (h : Cr w q c W) : W.cell? ⟨q + 2, 0, none⟩ = some (.int .u32 (c : Int)) := Lib.cell_of_heap h.b6 0
theorem Cr.grown {w : World} {q c : Nat} {B : Nat} {A W : World} {row : Option Nat} (h : Cr w q c A) (hB : w.heap.size ≤ B) (hg : A.grownBy W row) (hr : ∀ r, row = some r → B ≤ r ∧ ∃ o : Obj, A.heap[r]? = some o ∧ o.isCells = false) : Cr w q c W :=
  ⟨(grown_cells h.b6 hg (fun r e => (hr r e).2)).trans h.b6, below_grown h.old hB hg (fun r e => (hr r e).1), Nat.le_trans h.sz hg.size⟩
theorem Ck.res {w : World} {q D : Nat} {inn : Bool} {W : World} (h : Ck w q D inn W) (hq : w.heap.size ≤ q) (c : Nat) : Cr w q c (W.setCell ⟨q + 2, 0, none⟩ (.int .u32 (c : Int))) := by
  refine ⟨?_, ?_, by simpa [World.setCell] using h.sz⟩
  · simp only [World.setCell, Array.getElem?_modify, h.b6]
    simp
  · exact (Kp.cell1 W (q + 2) 0 _).below h.old h.old.size (fun b hb => by simp at hb; omega)
theorem Cr.put {w : World} {q c : Nat} {W : World} (h : Cr w q c W) (hq : w.heap.size ≤ q) {D : Nat} (hD : q + 4 ≤ D ∨ w.heap.size ≤ D) (hn : D ≠ q + 2) (o : Obj) : Cr w q c (W.putObj D o) :=
  ⟨(World.putObj_heap_other (fun e => hn e.symm)).trans h.b6, ⟨h.old.os, h.old.tape, h.old.output, by simpa [World.putObj] using h.old.size, fun k hk => (World.putObj_heap_other (by omega)).trans (h.old.block k hk)⟩, by simpa [World.putObj] using h.sz⟩
theorem refC_lt (its : List Im) (s : Sl) (inn : Bool) : refC its s inn < 4294967296 := by
  unfold refC
  split
  · exact wc_lt its s.ix s.sb []
  · split <;> omega
theorem keepsFrom_below {B : Nat} {A W : World} (h : Below A.heap.size A W) : KeepsFrom B A W := ⟨h.size, fun k o _ hk _ => (h.block k (Array.getElem?_eq_some_iff.1 hk).1).trans hk⟩
set_option maxRecDepth 100000 in
set_option maxHeartbeats 8000000 in
theorem pdCheck_any {D R : Nat} {its : List Im} {w : World} (h : Dct D R its w) (v : Value) (L : List Sl) (hWd : Wide 3 slC w v L) (hL : L.length ≤ 8796093022000) (inn : Bool) : Calls Try.prog 18 #[.pointer (some ⟨D, 0, none⟩), v, .bool inn] w fun e w' => e = .returned (.int .u32 (ckC its inn L : Nat)) ∧ Below w.heap.size w w' := by
  obtain ⟨ao, cap, hv⟩ := hWd.shape
  obtain ⟨N, hN⟩ : ∃ N, L.length = N := ⟨_, rfl⟩
  have HN := hidOf hN
  rw [hN] at hv
  subst hv
  obtain ⟨q, hq⟩ : ∃ q, w.heap.size = q := ⟨_, rfl⟩
  obtain ⟨u1, hu1⟩ : ∃ x, w.alloc (.cells #[.pointer (some ⟨D, 0, none⟩)] 31) = x := ⟨_, rfl⟩
  obtain ⟨u2, hu2⟩ : ∃ x, u1.alloc (.cells #[.bool inn] 4) = x := ⟨_, rfl⟩
  obtain ⟨w1, hw1⟩ : ∃ x, u2.alloc (.cells #[.int .u32 0] 38) = x := ⟨_, rfl⟩
  obtain ⟨w2, hw2⟩ : ∃ x, w1.alloc (.cells #[.slice ao N cap] 23) = x := ⟨_, rfl⟩
  have su1 : u1.heap.size = q + 1 := by rw [← hu1, size_alloc, hq]
  have su2 : u2.heap.size = q + 2 := by rw [← hu2, size_alloc, su1]
  have hs1 : w1.heap.size = q + 3 := by rw [← hw1, size_alloc, su2]
  have hs2 : w2.heap.size = q + 4 := by rw [← hw2, size_alloc, hs1]
  have bu1 : Below w.heap.size w u1 := by rw [← hu1]; exact (Below.refl _ w).alloc (Nat.le_refl _) _
  have bu2 : Below u1.heap.size u1 u2 := by rw [← hu2]; exact (Below.refl _ u1).alloc (Nat.le_refl _) _
  have bu3 : Below u2.heap.size u2 w1 := by rw [← hw1]; exact (Below.refl _ u2).alloc (Nat.le_refl _) _
  have bu4 : Below w1.heap.size w1 w2 := by rw [← hw2]; exact (Below.refl _ w1).alloc (Nat.le_refl _) _
  have B1 : Below w.heap.size w w1 := (bu1.trans (bu2.mono bu1.size)).trans (bu3.mono (bu1.trans (bu2.mono bu1.size)).size)
  have B2 := B1.trans (bu4.mono B1.size)
  have x3 : w1.heap[q]? = some (.cells #[.pointer (some ⟨D, 0, none⟩)] 31 (0, 0)) := (bu3.block q (by omega)).trans ((bu2.block q (by omega)).trans (by rw [← hu1, ← hq]; exact heap_alloc_new w _))
  have x5 : w1.heap[q + 1]? = some (.cells #[.bool inn] 4 (0, 0)) := (bu3.block (q + 1) (by omega)).trans (by rw [← hu2, ← su1]; exact heap_alloc_new u1 _)
  have x6 : w1.heap[q + 2]? = some (.cells #[.int .u32 0] 38 (0, 0)) := by rw [← hw1, ← su2]; exact heap_alloc_new u2 _
  have hBs : w2.heap[q + 3]? = some (.cells #[.slice ao N cap] 23 (0, 0)) := by rw [← hw2, ← hs1]; exact heap_alloc_new w1 _
  have HCK : Hid (Ck w q D inn w2) := ⟨(bu4.block q (by omega)).trans x3, (bu4.block (q + 1) (by omega)).trans x5, (bu4.block (q + 2) (by omega)).trans x6, B2, by omega⟩
  have hseq := ends_stops Fence.wide 3 trivial rfl (by omega) (q + 3) (.slice ao N cap) L hL w2 hBs (hWd.same B2.size (fun b _ hl => B2.block b hl))
  have c3 : w1.cell? ⟨q, 0, none⟩ = some (.pointer (some ⟨D, 0, none⟩)) := Lib.cell_of_heap x3 0
  have HOB : Hid (∀ b, (Value.slice ao N cap).ownBlock = some b → 0 < L.length → b < q) := fun b hb h0 => by
    obtain ⟨ao', cap', he, _, hc⟩ := hWd
    injection he with he
    obtain ⟨b', off, ha, hlt, _⟩ := hc 0 h0
    rw [he, ha] at hb
    simp [Value.ownBlock] at hb
    show b < q
    omega
  have HD := hidOf h
  have HBS := hidOf hBs
  clear bu1 bu2 bu3 bu4 B1 B2 x3 x5 x6 h hBs hWd
  refine (callsIn_wide (n := 4)).1 ?_
  refine callsIn_of_wp_marks Try.func18 rfl trivial ?_ rfl
  simp only [Try.ntmps18, List.size_toArray, List.length_cons, List.length_nil, Nat.reduceAdd, Nat.reduceSub, Array.replicate_succ, Array.replicate_zero, List.push_toArray, List.append_toArray, List.nil_append, List.cons_append]
  gi_wp2_with (refine ⟨trivial, ?_⟩; gi_at_call 27; refine (ends_in Fence.wide 3 trivial rfl ao N cap _).mono ?_; rintro e w' ⟨rfl, rfl⟩)
  have hBl : ∀ b ∈ bks (q + 3) (.slice ao N cap) L.length, b < q + 4 := fun b hb => by
    unfold bks at hb
    simp only [List.mem_cons] at hb
    rcases hb with rfl | hb
    · omega
    · split at hb
      · have := HOB.out b (by simpa using hb) (by assumption)
        omega
      · cases hb
  refine wpIn_rangeFunc_ownH (F := Fence.wide) rfl (by omega) (gf := 45) (lb := #[.pointer (some ⟨q + 3, 0, none⟩)]) rfl trivial (enters_of Try.func45 (by kernel_rfl) rfl) hseq (fun h k => h.trans k) ?hKb (Below.refl _ _) (fun _ => rfl)
    (fun pre W => (∀ y ∈ pre, ck1 its inn L y = 0) ∧ Ck w q D inn W)
    (fun cd pre W => cd = .ret ∧ ∃ p x, pre = p ++ [x] ∧ (∀ y ∈ p, ck1 its inn L y = 0) ∧ ck1 its inn L x ≠ 0 ∧ Cr w q (ck1 its inn L x) W)
    ?hI ?hIx ?h0
    (fun x a' W => ∃ zz, a' = { tmps := #[.pointer (some ⟨D, 0, none⟩), .slice ao N cap, .bool inn, .pointer (some ⟨q, 0, none⟩), undef, .pointer (some ⟨q + 1, 0, none⟩), .pointer (some ⟨q + 2, 0, none⟩), .pointer (some ⟨zz, 0, none⟩), .int .i64 (en L (x + 1)), undef, .pointer (some ⟨D, 0, none⟩), .bool false, .slice ao N cap, .func (.func 45) #[] #[.pointer (some ⟨q + 3, 0, none⟩)], .agg (L.getD x Sl.nul).arr, .int .i64 (en L (x + 1)), undef, undef, undef, undef, undef, undef, undef, undef, undef], defers := [] } ∧ Sb zz (L.getD x Sl.nul) W)
    ?hAx ?assign ?body ?done ?stop
  case hKb =>
    intro W l o o' hl ho _ _ b hb
    rw [hs2] at hl
    exact World.putObj_heap_other (by have := hBl b hb; omega)
  case hI => exact fun s A B row hs hg hr => ⟨hs.1, hs.2.grown (by omega) hg hr⟩
  case hIx =>
    rintro cd s A B row ⟨h1, p, x, h2, h3, h4, h5⟩ hg hr
    exact ⟨h1, p, x, h2, h3, h4, h5.grown (by omega) hg hr⟩
  case h0 => exact ⟨by simp, HCK.out⟩
  case hAx =>
    rintro x a' _ A B row ⟨zz, h1, h2⟩ hg hr
    exact ⟨zz, h1, (grown_cells h2 hg (fun r e => (hr r e).2)).trans h2⟩
  case assign =>
    rintro l pre x W K ⟨hi1, hi2⟩ hK
    obtain ⟨s, hs⟩ : ∃ s, L.getD x Sl.nul = s := ⟨_, rfl⟩
    have HS := hidOf hs
    have b9 : Below W.heap.size W (W.alloc (.cells #[.int .u16 (s.ix : Int), .int .u8 (s.sb : Int), .int .i64 s.bt] 47)) := (Below.refl _ _).alloc (Nat.le_refl _) _
    have HF := hidOf (hK { tmps := #[.pointer (some ⟨D, 0, none⟩), .slice ao N cap, .bool inn, .pointer (some ⟨q, 0, none⟩), undef, .pointer (some ⟨q + 1, 0, none⟩), .pointer (some ⟨q + 2, 0, none⟩), .pointer (some ⟨W.heap.size, 0, none⟩), .int .i64 (en L (x + 1)), undef, .pointer (some ⟨D, 0, none⟩), .bool false, .slice ao N cap, .func (.func 45) #[] #[.pointer (some ⟨q + 3, 0, none⟩)], .agg (L.getD x Sl.nul).arr, .int .i64 (en L (x + 1)), undef, undef, undef, undef, undef, undef, undef, undef, undef], defers := [] } _ (keepsFrom_below b9) (fun b hb => b9.block b (by have := hBl b hb; have := hi2.sz; omega)) ⟨hi1, hi2.below b9⟩ ⟨_, rfl, by rw [hs]; exact heap_alloc_new W _⟩)
    simp only [enV]
    rw [hs] at HF ⊢
    simp only [Sl.arr, slC] at HF ⊢
    gi_wp2
    exact HF.out
  case body =>
    rintro l pre x a' W hl hlr ⟨hi1, hi2⟩ ⟨zz, rfl, hz⟩ hlen
    obtain ⟨s, hs⟩ : ∃ s, L.getD x Sl.nul = s := ⟨_, rfl⟩
    have HCX : Hid (ck1 its inn L x = if refC its s inn ≠ 0 then refC its s inn else if 64 < en L (x + 1) then 100925506 else 0) := by show _ = _; rw [← hs]; rfl
    rw [hs] at hz ⊢
    have hRf : Calls Try.prog 35 #[.pointer (some ⟨D, 0, none⟩), .agg #[.int .u16 (s.ix : Int), .int .u8 (s.sb : Int), .int .i64 s.bt], .bool inn] W fun e w' => e = .returned (.int .u32 (refC its s inn : Nat)) ∧ Below W.heap.size W w' := refused_any (HD.out.below hi2.old) s inn
    have y3 : W.cell? ⟨q, 0, none⟩ = some (.pointer (some ⟨D, 0, none⟩)) := Lib.cell_of_heap hi2.b3 0
    have y5 : W.cell? ⟨q + 1, 0, none⟩ = some (.bool inn) := Lib.cell_of_heap hi2.b5 0
    have z0 := hz.c0
    have z1 := hz.c1
    have z2 := hz.c2
    have hebd := en_bd L (x + 1)
    obtain ⟨RC, hRC⟩ : ∃ c, refC its s inn = c := ⟨_, rfl⟩
    rw [hRC] at hRf HCX
    obtain ⟨ee, hee⟩ : ∃ c, en L (x + 1) = c := ⟨_, rfl⟩
    rw [hee] at HCX hebd ⊢
    have hrl : RC < 4294967296 := by rw [← hRC]; exact refC_lt its s inn
    have HW := hidOf (And.intro hi1 hi2)
    clear hs hz hRC hee hi1 hi2
    by_cases c1 : RC = 0
    · have d1 : ((RC : Int) != 0) = false := by simp; omega
      by_cases c2 : 64 < ee
      · have d2 : decide ((64 : Int) < ee) = true := by simp; omega
        gi_wp2_with (refine ⟨trivial, ?_⟩; gi_at_call 35; refine (CallsIn.inRound l (callsIn_wide.2 hRf)).mono ?_; rintro e X3 ⟨rfl, b3⟩; have HC3 := hidOf (HW.out.2.below b3); have HB3 := hidOf b3; have c6 : X3.cell? ⟨q + 2, 0, none⟩ = some (.int .u32 0) := Lib.cell_of_heap HC3.out.b6 0; have f6 : X3.frozen? ⟨q + 2, 0, none⟩ = false := Lib.frozen_of_heap HC3.out.b6 0; clear b3)
        have e9 : ck1 its inn L x = 100925506 := by rw [HCX.out, if_neg (by simpa using c1), if_pos c2]
        refine ⟨(keepsFrom_below HB3.out).trans ((KeepsOthers.setCell X3 _ _).from _), rfl, pre, x, rfl, HW.out.1, by rw [e9]; decide, ?_⟩
        rw [e9]
        exact HC3.out.res (by omega) 100925506
      · have d2 : decide ((64 : Int) < ee) = false := by simp; omega
        gi_wp2_with (refine ⟨trivial, ?_⟩; gi_at_call 35; refine (CallsIn.inRound l (callsIn_wide.2 hRf)).mono ?_; rintro e X3 ⟨rfl, b3⟩; have HC3 := hidOf (HW.out.2.below b3); have HB3 := hidOf b3; clear b3)
        have e9 : ck1 its inn L x = 0 := by rw [HCX.out, if_neg (by simpa using c1), if_neg (by omega)]
        refine ⟨keepsFrom_below HB3.out, fun b hb => HB3.out.block b (by have := hBl b hb; have := HW.out.2.sz; omega), ?_, HC3.out⟩
        intro y hy
        simp at hy
        rcases hy with hy | rfl
        · exact HW.out.1 y hy
        · exact e9
    · have d1 : ((RC : Int) != 0) = true := by simp; omega
      gi_wp2_with (refine ⟨trivial, ?_⟩; gi_at_call 35; refine (CallsIn.inRound l (callsIn_wide.2 hRf)).mono ?_; rintro e X3 ⟨rfl, b3⟩; have HC3 := hidOf (HW.out.2.below b3); have HB3 := hidOf b3; have c6 : X3.cell? ⟨q + 2, 0, none⟩ = some (.int .u32 0) := Lib.cell_of_heap HC3.out.b6 0; have f6 : X3.frozen? ⟨q + 2, 0, none⟩ = false := Lib.frozen_of_heap HC3.out.b6 0; clear b3)
      have e9 : ck1 its inn L x = RC := by rw [HCX.out, if_pos c1]
      refine ⟨(keepsFrom_below HB3.out).trans ((KeepsOthers.setCell X3 _ _).from _), rfl, pre, x, rfl, HW.out.1, by rw [e9]; exact c1, ?_⟩
      rw [e9]
      exact HC3.out.res (by omega) RC
  case done =>
    rintro DD ys W hDD rfl ⟨hz, hck⟩ hK
    have hcc := ckC_none its inn L hz
    have c6 : W.cell? ⟨q + 2, 0, none⟩ = some (.int .u32 0) := Lib.cell_of_heap hck.b6 0
    have f6 : W.frozen? ⟨q + 2, 0, none⟩ = false := Lib.frozen_of_heap hck.b6 0
    have hqD : DD ≠ q + 2 := by intro e; rw [e, hck.b6] at hK; cases hK
    have hK2 : (W.setCell ⟨q + 2, 0, none⟩ (.int .u32 0)).heap[DD]? = some (.deferred (some [])) := (Below.heap_setCell W ⟨q + 2, 0, none⟩ _ DD hqD).trans hK
    gi_wp2
    refine ⟨by simp, .inl ⟨_, _, rfl, run_takeDeferred hK2, ?_⟩⟩
    have hr := (hck.res (by omega) 0).put (by omega) (.inl (by omega)) hqD (.deferred none)
    have c6' : ((W.setCell ⟨q + 2, 0, none⟩ (.int .u32 0)).putObj DD (.deferred none)).cell? ⟨q + 2, 0, none⟩ = some (.int .u32 0) := hr.c
    exact ⟨.int .u32 0, by simp [results, Try.results18, asAddr, go_sem, run_underlying Try.underlying38, c6'], by rw [hcc]; rfl, hr.old⟩
  case stop =>
    rintro DD cd pre W hDD ⟨k, hk, rfl⟩ ⟨rfl, p, x, hp, h3, h4, hcr⟩ hK
    have hcc := ckC_some its inn L k hk p x hp h3 h4
    have hqD : DD ≠ q + 2 := by intro e; rw [e, hcr.b6] at hK; cases hK
    gi_wp2
    refine ⟨by simp, .inl ⟨_, _, rfl, run_takeDeferred hK, ?_⟩⟩
    have hr := hcr.put (by omega) (.inl (by omega)) hqD (.deferred none)
    have c6' := hr.c
    exact ⟨.int .u32 (ck1 its inn L x : Nat), by simp [results, Try.results18, asAddr, go_sem, run_underlying Try.underlying38, c6'], by rw [hcc], hr.old⟩
end Go.Proofs.Ythalhidebkhclaa
namespace Go.Proofs.Ythalhidebkhclaa
open Go.RowKit Go.Shelf Go.Proofs.Ty
set_option linter.unusedVariables false
set_option maxRecDepth 1000000
set_option linter.unusedSimpArgs false
attribute [local go_sem] Oper.semAt_some
/-- A slot has from 0 to 64 bits. -/
def gdS (L : List Sl) (k : Nat) : Prop := 0 ≤ (L.getD k Sl.nul).bt ∧ (L.getD k Sl.nul).bt ≤ 64
instance (L : List Sl) (k : Nat) : Decidable (gdS L k) := by unfold gdS; infer_instance
/-- How many bytes a mapping has. -/
def szC (L : List Sl) : Nat := if 64 < L.length then 0 else if ∀ k ∈ List.range L.length, gdS L k then ((en L L.length + 7) / 8).toNat else 0
theorem en_good (L : List Sl) (n : Nat) (hn : n ≤ 64) (h : ∀ k, k < n → gdS L k) : 0 ≤ en L n ∧ en L n ≤ 64 * n := by
  induction n with
  | zero => simp [en]
  | succ n ih =>
    obtain ⟨h1, h2⟩ := ih (by omega) (fun k hk => h k (by omega))
    obtain ⟨h3, h4⟩ := h n (by omega)
    unfold en
    simp only [wrap64]
    omega
/-- What stands between two rounds of Size. -/
structure Cz (w : World) (q : Nat) (a : Int) (W : World) : Prop where
  b0 : W.heap[q]? = some (.cells #[.int .i64 0] 3 (0, 0))
  b1 : W.heap[q + 1]? = some (.cells #[.int .i64 a] 3 (0, 0))
  old : Below w.heap.size w W
  sz : q + 3 ≤ W.heap.size
section
variable {w : World} {q : Nat} {a : Int} {A W : World}
theorem Cz.grown {B : Nat} {row : Option Nat} (h : Cz w q a A) (hB : w.heap.size ≤ B) (hg : A.grownBy W row) (hr : ∀ r, row = some r → B ≤ r ∧ ∃ o : Obj, A.heap[r]? = some o ∧ o.isCells = false) : Cz w q a W := by
  have hr2 := fun r e => (hr r e).2
  exact ⟨(grown_cells h.b0 hg hr2).trans h.b0, (grown_cells h.b1 hg hr2).trans h.b1, below_grown h.old hB hg (fun r e => (hr r e).1), Nat.le_trans h.sz hg.size⟩
theorem Cz.below (h : Cz w q a A) (hb : Below A.heap.size A W) : Cz w q a W :=
  ⟨(hb.block q (Array.getElem?_eq_some_iff.1 h.b0).1).trans h.b0, (hb.block _ (Array.getElem?_eq_some_iff.1 h.b1).1).trans h.b1, h.old.trans (hb.mono h.old.size), Nat.le_trans h.sz hb.size⟩
theorem Cz.next (h : Cz w q a W) (hq : w.heap.size ≤ q) (b : Int) : Cz w q b (W.setCell ⟨q + 1, 0, none⟩ (.int .i64 b)) := by
  refine ⟨(Below.heap_setCell W ⟨q + 1, 0, none⟩ _ q (by show q ≠ q + 1; omega)).trans h.b0, ?_, (Kp.cell1 W (q + 1) 0 _).below h.old h.old.size (fun b hb => by simp at hb; omega), by simpa [World.setCell] using h.sz⟩
  simp only [World.setCell, Array.getElem?_modify, h.b1]
  simp
/-- The result is written. -/
structure Cs (w : World) (q : Nat) (c : Int) (W : World) : Prop where
  b0 : W.heap[q]? = some (.cells #[.int .i64 c] 3 (0, 0))
  old : Below w.heap.size w W
theorem Cs.c {c : Int} (h : Cs w q c W) : W.cell? ⟨q, 0, none⟩ = some (.int .i64 c) := Lib.cell_of_heap h.b0 0
theorem Cs.grown {c : Int} {B : Nat} {row : Option Nat} (h : Cs w q c A) (hB : w.heap.size ≤ B) (hg : A.grownBy W row) (hr : ∀ r, row = some r → B ≤ r ∧ ∃ o : Obj, A.heap[r]? = some o ∧ o.isCells = false) : Cs w q c W :=
  ⟨(grown_cells h.b0 hg (fun r e => (hr r e).2)).trans h.b0, below_grown h.old hB hg (fun r e => (hr r e).1)⟩
theorem Cz.res (h : Cz w q a W) (hq : w.heap.size ≤ q) (c : Int) : Cs w q c (W.setCell ⟨q, 0, none⟩ (.int .i64 c)) := by
  refine ⟨?_, (Kp.cell1 W q 0 _).below h.old h.old.size (fun b hb => by simp at hb; omega)⟩
  simp only [World.setCell, Array.getElem?_modify, h.b0]
  simp
theorem Cs.put {c : Int} (h : Cs w q c W) {D : Nat} (hD : w.heap.size ≤ D) (hn : D ≠ q) (o : Obj) : Cs w q c (W.putObj D o) :=
  ⟨(World.putObj_heap_other (fun e => hn e.symm)).trans h.b0, ⟨h.old.os, h.old.tape, h.old.output, by simpa [World.putObj] using h.old.size, fun k hk => (World.putObj_heap_other (by omega)).trans (h.old.block k hk)⟩⟩
end
/-- The bits behind the last of these. -/
def zv (L : List Sl) (pre : List Nat) : Int := (pre.getLast?.map (fun x => en L (x + 1))).getD 0
theorem zv_snoc (L : List Sl) (pre : List Nat) (x : Nat) : zv L (pre ++ [x]) = en L (x + 1) := by simp [zv]
theorem zv_range (L : List Sl) (n : Nat) : zv L (List.range n) = en L n := by
  cases n with
  | zero => rfl
  | succ n => rw [List.range_succ, zv_snoc]
set_option maxRecDepth 100000 in
set_option maxHeartbeats 8000000 in
theorem pdSize_any {w : World} (v : Value) (L : List Sl) (hWd : Wide 3 slC w v L) (hL : L.length ≤ 8796093022000) : Calls Try.prog 14 #[v] w fun e w' => e = .returned (.int .i64 (szC L : Nat)) ∧ Below w.heap.size w w' := by
  obtain ⟨ao, cap, hv⟩ := hWd.shape
  obtain ⟨N, hN⟩ : ∃ N, L.length = N := ⟨_, rfl⟩
  have HN := hidOf hN
  rw [hN] at hv hL
  subst hv
  obtain ⟨q, hq⟩ : ∃ q, w.heap.size = q := ⟨_, rfl⟩
  obtain ⟨u1, hu1⟩ : ∃ x, w.alloc (.cells #[.int .i64 0] 3) = x := ⟨_, rfl⟩
  have su1 : u1.heap.size = q + 1 := by rw [← hu1, size_alloc, hq]
  have bu1 : Below w.heap.size w u1 := by rw [← hu1]; exact (Below.refl _ w).alloc (Nat.le_refl _) _
  have x0 : u1.heap[q]? = some (.cells #[.int .i64 0] 3 (0, 0)) := by rw [← hu1, ← hq]; exact heap_alloc_new w _
  by_cases h64 : 64 < N
  · have d : decide ((64 : Int) < (N : Int)) = true := by simp; omega
    have hz : szC L = 0 := by unfold szC; rw [if_pos (by rw [HN.out]; exact h64)]
    have c0 : u1.cell? ⟨q, 0, none⟩ = some (.int .i64 0) := Lib.cell_of_heap x0 0
    have f0 : u1.frozen? ⟨q, 0, none⟩ = false := Lib.frozen_of_heap x0 0
    have HC : Hid (Cs w q 0 (u1.setCell ⟨q, 0, none⟩ (.int .i64 0))) := by
      refine ⟨?_, (Kp.cell1 u1 q 0 _).below bu1 bu1.size (fun b hb => by simp at hb; omega)⟩
      simp only [World.setCell, Array.getElem?_modify, x0]
      simp
    rw [hz]
    clear bu1 x0 hz
    refine (callsIn_wide (n := 4)).1 ?_
    refine callsIn_of_wp_marks Try.func14 rfl trivial ?_ rfl
    simp only [Try.ntmps14, List.size_toArray, List.length_cons, List.length_nil, Nat.reduceAdd, Nat.reduceSub, Array.replicate_succ, Array.replicate_zero, List.push_toArray, List.append_toArray, List.nil_append, List.cons_append]
    gi_wp2
    have c9 := HC.out.c
    exact ⟨.int .i64 0, by simp [results, Try.results14, asAddr, go_sem, run_underlying Try.underlying3, c9], rfl, HC.out.old⟩
  · have d : decide ((64 : Int) < (N : Int)) = false := by simp; omega
    obtain ⟨u2, hu2⟩ : ∃ x, u1.alloc (.cells #[.int .i64 0] 3) = x := ⟨_, rfl⟩
    obtain ⟨w1, hw1⟩ : ∃ x, u2.setCell ⟨q + 1, 0, none⟩ (.int .i64 0) = x := ⟨_, rfl⟩
    obtain ⟨w2, hw2⟩ : ∃ x, w1.alloc (.cells #[.slice ao N cap] 23) = x := ⟨_, rfl⟩
    have su2 : u2.heap.size = q + 2 := by rw [← hu2, size_alloc, su1]
    have x2 : u2.heap[q + 1]? = some (.cells #[.int .i64 0] 3 (0, 0)) := by rw [← hu2, ← su1]; exact heap_alloc_new u1 _
    have y1 : u2.cell? ⟨q + 1, 0, none⟩ = some (.int .i64 0) := Lib.cell_of_heap x2 0
    have f1 : u2.frozen? ⟨q + 1, 0, none⟩ = false := Lib.frozen_of_heap x2 0
    have hs1 : w1.heap.size = q + 2 := by rw [← hw1]; simpa [World.setCell] using su2
    have hs2 : w2.heap.size = q + 3 := by rw [← hw2, size_alloc, hs1]
    have bu2 : Below u1.heap.size u1 w1 := by
      rw [← hw1, ← hu2]
      exact (Kp.cell1 _ (q + 1) 0 _).below ((Below.refl _ u1).alloc (Nat.le_refl _) _) (by rw [size_alloc]; omega) (fun b hb => by simp at hb; omega)
    have bu3 : Below w1.heap.size w1 w2 := by rw [← hw2]; exact (Below.refl _ w1).alloc (Nat.le_refl _) _
    have B1 : Below w.heap.size w w1 := bu1.trans (bu2.mono bu1.size)
    have B2 := B1.trans (bu3.mono B1.size)
    have x1 : w1.heap[q + 1]? = some (.cells #[.int .i64 0] 3 (0, 0)) := by
      rw [← hw1]
      simp only [World.setCell, Array.getElem?_modify, x2]
      simp
    have hBs : w2.heap[q + 2]? = some (.cells #[.slice ao N cap] 23 (0, 0)) := by rw [← hw2, ← hs1]; exact heap_alloc_new w1 _
    have HCZ : Hid (Cz w q 0 w2) := ⟨(bu3.block q (by omega)).trans ((bu2.block q (by omega)).trans x0), (bu3.block (q + 1) (by omega)).trans x1, B2, by omega⟩
    have hseq := ends_stops Fence.wide 3 trivial rfl (by omega) (q + 2) (.slice ao N cap) L (by rw [hN]; exact hL) w2 hBs (hWd.same B2.size (fun b _ hl => B2.block b hl))
    have HOB : Hid (∀ b, (Value.slice ao N cap).ownBlock = some b → 0 < L.length → b < q) := fun b hb h0 => by
      obtain ⟨ao', cap', he, _, hc⟩ := hWd
      injection he with he
      obtain ⟨b', off, ha, hlt, _⟩ := hc 0 h0
      rw [he, ha] at hb
      simp [Value.ownBlock] at hb
      show b < q
      omega
    have HBS := hidOf hBs
    clear bu1 bu2 bu3 B1 B2 x0 x1 x2 hBs hWd hN
    refine (callsIn_wide (n := 4)).1 ?_
    refine callsIn_of_wp_marks Try.func14 rfl trivial ?_ rfl
    simp only [Try.ntmps14, List.size_toArray, List.length_cons, List.length_nil, Nat.reduceAdd, Nat.reduceSub, Array.replicate_succ, Array.replicate_zero, List.push_toArray, List.append_toArray, List.nil_append, List.cons_append]
    gi_wp2_with (refine ⟨trivial, ?_⟩; gi_at_call 27; refine (ends_in Fence.wide 3 trivial rfl ao N cap _).mono ?_; rintro e w' ⟨rfl, rfl⟩)
    have hBl : ∀ b ∈ bks (q + 2) (.slice ao N cap) L.length, b < q + 3 ∧ b ≠ q ∧ b ≠ q + 1 := fun b hb => by
      unfold bks at hb
      simp only [List.mem_cons] at hb
      rcases hb with rfl | hb
      · omega
      · split at hb
        · have := HOB.out b (by simpa using hb) (by assumption)
          omega
        · cases hb
    refine wpIn_rangeFunc_ownH (F := Fence.wide) rfl (by omega) (gf := 45) (lb := #[.pointer (some ⟨q + 2, 0, none⟩)]) rfl trivial (enters_of Try.func45 (by kernel_rfl) rfl) hseq (fun h k => h.trans k) ?hKb (Below.refl _ _) (fun _ => rfl)
      (fun pre W => (∀ y ∈ pre, gdS L y) ∧ Cz w q (zv L pre) W)
      (fun cd pre W => cd = .ret ∧ (∃ y ∈ pre, ¬ gdS L y) ∧ Cs w q 0 W)
      ?hI ?hIx ?h0
      (fun x a' W => ∃ zz, a' = { tmps := #[.slice ao N cap, undef, .pointer (some ⟨q, 0, none⟩), .pointer (some ⟨q + 1, 0, none⟩), .pointer (some ⟨zz, 0, none⟩), .int .i64 (en L (x + 1)), .slice ao N cap, .int .i64 (N : Int), .bool false, .slice ao N cap, .func (.func 45) #[] #[.pointer (some ⟨q + 2, 0, none⟩)], .agg (L.getD x Sl.nul).arr, .int .i64 (en L (x + 1)), undef, undef, undef, undef, undef, undef, undef, undef, undef, undef, undef, undef, undef], defers := [] } ∧ Sb zz (L.getD x Sl.nul) W)
      ?hAx ?assign ?body ?done ?stop
    case hKb =>
      intro W l o o' hl ho _ _ b hb
      rw [hs2] at hl
      exact World.putObj_heap_other (by have := hBl b hb; omega)
    case hI => exact fun s A B row hs hg hr => ⟨hs.1, hs.2.grown (by omega) hg hr⟩
    case hIx =>
      rintro cd s A B row ⟨h1, h2, h5⟩ hg hr
      exact ⟨h1, h2, h5.grown (by omega) hg hr⟩
    case h0 => exact ⟨by simp, HCZ.out⟩
    case hAx =>
      rintro x a' _ A B row ⟨zz, h1, h2⟩ hg hr
      exact ⟨zz, h1, (grown_cells h2 hg (fun r e => (hr r e).2)).trans h2⟩
    case assign =>
      rintro l pre x W K ⟨hi1, hi2⟩ hK
      obtain ⟨s, hs⟩ : ∃ s, L.getD x Sl.nul = s := ⟨_, rfl⟩
      have b9 : Below W.heap.size W (W.alloc (.cells #[.int .u16 (s.ix : Int), .int .u8 (s.sb : Int), .int .i64 s.bt] 47)) := (Below.refl _ _).alloc (Nat.le_refl _) _
      have HF := hidOf (hK { tmps := #[.slice ao N cap, undef, .pointer (some ⟨q, 0, none⟩), .pointer (some ⟨q + 1, 0, none⟩), .pointer (some ⟨W.heap.size, 0, none⟩), .int .i64 (en L (x + 1)), .slice ao N cap, .int .i64 (N : Int), .bool false, .slice ao N cap, .func (.func 45) #[] #[.pointer (some ⟨q + 2, 0, none⟩)], .agg (L.getD x Sl.nul).arr, .int .i64 (en L (x + 1)), undef, undef, undef, undef, undef, undef, undef, undef, undef, undef, undef, undef, undef], defers := [] } _ (keepsFrom_below b9) (fun b hb => b9.block b (by have := hBl b hb; have := hi2.sz; omega)) ⟨hi1, hi2.below b9⟩ ⟨_, rfl, by rw [hs]; exact heap_alloc_new W _⟩)
      simp only [enV]
      rw [hs] at HF ⊢
      simp only [Sl.arr, slC] at HF ⊢
      gi_wp2
      exact HF.out
    case body =>
      rintro l pre x a' W hl hlr ⟨hi1, hi2⟩ ⟨zz, rfl, hz⟩ hlen
      obtain ⟨s, hs⟩ : ∃ s, L.getD x Sl.nul = s := ⟨_, rfl⟩
      have HGD : Hid (gdS L x ↔ (0 ≤ s.bt ∧ s.bt ≤ 64)) := by show _ ↔ _; unfold gdS; rw [hs]
      rw [hs] at hz ⊢
      have z2 := hz.c2
      have hsb := s.hb
      have hebd := en_bd L (x + 1)
      have c0 : W.cell? ⟨q, 0, none⟩ = some (.int .i64 0) := Lib.cell_of_heap hi2.b0 0
      have f0 : W.frozen? ⟨q, 0, none⟩ = false := Lib.frozen_of_heap hi2.b0 0
      have c1 : W.cell? ⟨q + 1, 0, none⟩ = some (.int .i64 (zv L pre)) := Lib.cell_of_heap hi2.b1 0
      have f1 : W.frozen? ⟨q + 1, 0, none⟩ = false := Lib.frozen_of_heap hi2.b1 0
      have HW := hidOf (And.intro hi1 hi2)
      have HZS : Hid (zv L (pre ++ [x]) = en L (x + 1)) := zv_snoc L pre x
      generalize zv L pre = zp at *
      generalize en L (x + 1) = ee at *
      clear hs hz hi1 hi2
      by_cases k1 : s.bt < 0
      · have d1 : decide (s.bt < 0) = true := by simp; omega
        gi_wp2
        exact ⟨(KeepsOthers.setCell W _ _).from _, rfl, ⟨x, by simp, fun h => by have := HGD.out.1 h; omega⟩, HW.out.2.res (by omega) 0⟩
      · have d1 : decide (s.bt < 0) = false := by simp; omega
        by_cases k2 : 64 < s.bt
        · have d2 : decide (64 < s.bt) = true := by simp; omega
          gi_wp2
          exact ⟨(KeepsOthers.setCell W _ _).from _, rfl, ⟨x, by simp, fun h => by have := HGD.out.1 h; omega⟩, HW.out.2.res (by omega) 0⟩
        · have d2 : decide (64 < s.bt) = false := by simp; omega
          gi_wp2
          refine ⟨(KeepsOthers.setCell W _ _).from _, fun b hb => Below.heap_setCell W ⟨q + 1, 0, none⟩ _ b (by have := hBl b hb; exact this.2.2), ?_, ?_⟩
          · intro y hy
            simp at hy
            rcases hy with hy | rfl
            · exact HW.out.1 y hy
            · exact HGD.out.2 (by omega)
          · rw [HZS.out]
            exact HW.out.2.next (by omega) ee
    case done =>
      rintro DD ys W hDD rfl ⟨hz, hck⟩ hK
      rw [zv_range] at hck
      have hg := en_good L L.length (by have := HN.out; omega) (fun k hk => hz k (by simpa using hk))
      obtain ⟨ee, hee⟩ : ∃ e, en L L.length = e := ⟨_, rfl⟩
      have hsz : (szC L : Int) = (ee + 8 - 1) / 8 := by
        unfold szC
        rw [if_neg (by have := HN.out; omega), if_pos hz, hee]
        omega
      rw [hee] at hck hg
      have c0 : W.cell? ⟨q, 0, none⟩ = some (.int .i64 0) := Lib.cell_of_heap hck.b0 0
      have f0 : W.frozen? ⟨q, 0, none⟩ = false := Lib.frozen_of_heap hck.b0 0
      have c1 : W.cell? ⟨q + 1, 0, none⟩ = some (.int .i64 ee) := Lib.cell_of_heap hck.b1 0
      have hqD : DD ≠ q := by intro e; rw [e, hck.b0] at hK; cases hK
      have hlo : 0 ≤ ee := hg.1
      have hhi : ee ≤ 5000 := by have := hg.2; have := HN.out; omega
      have hr := (hck.res (by omega) ((ee + 8 - 1) / 8)).put (D := DD) (by omega) hqD (.deferred none)
      have hK2 : (W.setCell ⟨q, 0, none⟩ (.int .i64 ((ee + 8 - 1) / 8))).heap[DD]? = some (.deferred (some [])) := (Below.heap_setCell W ⟨q, 0, none⟩ _ DD hqD).trans hK
      have HR := hidOf hr
      have HSZ := hidOf hsz
      clear hr hsz hz hck hee hg
      set_option pp.deepTerms true in gi_wp2
      refine ⟨by simp, .inl ⟨_, _, rfl, run_takeDeferred hK2, ?_⟩⟩
      have c6' := HR.out.c
      exact ⟨.int .i64 ((ee + 8 - 1) / 8), by simp [results, Try.results14, asAddr, go_sem, run_underlying Try.underlying3, c6'], by rw [HSZ.out], HR.out.old⟩
    case stop =>
      rintro DD cd pre W hDD ⟨k, hk, rfl⟩ ⟨rfl, ⟨y, hy, hng⟩, hcr⟩ hK
      have hsz : szC L = 0 := by
        unfold szC
        rw [if_neg (by have := HN.out; omega), if_neg]
        intro hall
        exact hng (hall y (by simp at hy ⊢; omega))
      have hqD : DD ≠ q := by intro e; rw [e, hcr.b0] at hK; cases hK
      gi_wp2
      refine ⟨by simp, .inl ⟨_, _, rfl, run_takeDeferred hK, ?_⟩⟩
      have hr := hcr.put (D := DD) (by omega) hqD (.deferred none)
      have c6' := hr.c
      exact ⟨.int .i64 0, by simp [results, Try.results14, asAddr, go_sem, run_underlying Try.underlying3, c6'], by rw [hsz]; rfl, hr.old⟩
end Go.Proofs.Ythalhidebkhclaa
namespace Go.Proofs.Ythalhidebkhclaa
open Go.RowKit Go.Shelf Go.Proofs.Ty
set_option linter.unusedVariables false
set_option maxRecDepth 1000000
set_option linter.unusedSimpArgs false
/-- These blocks stay, and all from b on that are there. -/
structure Ka (bs : List Nat) (b : Nat) (A B : World) : Prop where
  old : Kb bs A B
  size : A.heap.size ≤ B.heap.size
  new : ∀ k, b ≤ k → k < A.heap.size → B.heap[k]? = A.heap[k]?
theorem Ka.trans {bs : List Nat} {b : Nat} {A B C : World} (h : Ka bs b A B) (k : Ka bs b B C) : Ka bs b A C := ⟨h.old.trans k.old, Nat.le_trans h.size k.size, fun j h1 h2 => (k.new j h1 (Nat.lt_of_lt_of_le h2 h.size)).trans (h.new j h1 h2)⟩
theorem Ka.below {bs : List Nat} {b : Nat} {A B : World} (h : Below A.heap.size A B) (hb : ∀ x ∈ bs, x < A.heap.size) : Ka bs b A B := ⟨fun x hx => h.block x (hb x hx), h.size, fun k _ h2 => h.block k h2⟩
theorem Ka.mono {bs : List Nat} {b c : Nat} {A B : World} (h : Ka bs b A B) (hbc : b ≤ c) : Ka bs c A B := ⟨h.old, h.size, fun k h1 h2 => h.new k (Nat.le_trans hbc h1) h2⟩
theorem Ka.put {bs : List Nat} {b k : Nat} (A : World) (o : Obj) (hb : ∀ x ∈ bs, x ≠ k) (hk : k < b) : Ka bs b A (A.putObj k o) := ⟨fun x hx => World.putObj_heap_other (hb x hx), by simp [World.putObj], fun j h1 h2 => World.putObj_heap_other (by omega)⟩
/-- What such an iterator does. -/
def SeqN (gf : Nat) (lb : Array Value) (encs : Nat → Array Value) (bs : List Nat) (N : Nat) (w : World) : Prop :=
  ∀ (l : Nat) (J Jx : Nat → World → Prop) (W : World), Below w.heap.size w W → OwnFrom W.heap.size J → OwnFrom W.heap.size Jx →
    (∀ k W1, J k W1 → k < N → YieldAt Fence.wide 0 Try.prog l (encs k) W1 fun e W' => (e = .returned (.bool true) ∧ J (k + 1) W' ∧ Ka bs W.heap.size W1 W') ∨ (e = .returned (.bool false) ∧ Jx (k + 1) W' ∧ Ka [] W.heap.size W1 W')) →
    J 0 W → CallsIn Fence.wide 0 Try.prog gf (#[.func (.yield l) #[] #[]] ++ lb) W fun e W' => (∃ v, e = .returned v) ∧ (J N W' ∨ ∃ k, k ≤ N ∧ Jx k W')
theorem roundIn_any {m m' l : Nat} {f : FuncId} {tmps : Array Value} {assign body : Code} {w : World} {R : Ending → World → Prop} (h : RoundIn Fence.wide m Try.prog l f tmps assign body w R) : RoundIn Fence.wide m' Try.prog l f tmps assign body w R :=
  ⟨trivial, fun c cs _ => h.2 c cs (fun d e => by cases e)⟩
theorem yieldAt_any {m l : Nat} (m' : Nat) {args : Array Value} {W : World} {R : Ending → World → Prop} (h : YieldAt Fence.wide m Try.prog l args W R) : YieldAt Fence.wide m' Try.prog l args W R := by
  obtain ⟨fn, tmps, assign, body, hy, hR⟩ := h
  exact ⟨fn, tmps, assign, body, hy, roundIn_any hR⟩
/-- A block of a lower number stands whatever is turned behind. -/
theorem low_stands {A B : World} {row : Option Nat} {k b : Nat} (hg : A.grownBy B row) (hr : ∀ r, row = some r → b ≤ r) (hk : k < b) (hl : k < A.heap.size) : B.heap[k]? = A.heap[k]? :=
  hg.block k hl (fun e => by have := hr k e.symm; omega)
theorem own_low_row {α : Type} {b : Nat} {I : List α → World → Prop} (hI : OwnFrom b I) {c : Nat} (hbc : b ≤ c) : OwnFrom c I := fun s A B row h hg hr => hI s A B row h hg (fun r e => ⟨Nat.le_trans hbc (hr r e).1, (hr r e).2⟩)
section
variable {g : Operand} {ps : Array Tmp} {assign body : Code} {Q : Exit → Act → World → Prop} {a : Act} {w : World} {n : Nat}
/-- How a round is left. -/
def roundQ (b : Nat) (bs : List Nat) (I Ix : Nat → World → Prop) (k : Nat) (W : World) : Exit → Act → World → Prop
  | .normal, _, X => Ka bs b W X ∧ I k X
  | .ret, _, X => Ka [] b W X ∧ Ix k X
  | _, _, _ => False
theorem rf_over {gf : Nat} {lb : Array Value} {encs : Nat → Array Value} {bs : List Nat} {N : Nat} (hg : a.eval g = .func (.func gf) #[] lb) (eg : ∀ args x, (callFunc gf args).run Try.prog x = .ok (.enter gf args) x)
    (hseq : SeqN gf lb encs bs N w) (hps : ∀ x, (encs x).size = ps.size) (hbs : ∀ b ∈ bs, b < w.heap.size)
    (I Ix : Nat → World → Prop) (hI : OwnFrom w.heap.size I) (hIx : OwnFrom w.heap.size Ix) (h0 : I 0 w)
    (hround : ∀ (l k : Nat) (W : World), I k W → k < N → w.heap.size ≤ l → l < W.heap.size → ∃ P : Act → World → Prop,
      assign.wpIn (Fence.wide.inRound l) (n - 1 - 1) Try.prog (Exit.then (fun a1 W1 => Ka bs w.heap.size W W1 ∧ P a1 W1) (fun _ _ _ => False)) { tmps := (ps.zip (encs k)).foldl (fun t (p, v) => t.setIfInBounds p v) a.tmps, defers := [] } W ∧
      ∀ a1 W1 X, P a1 W1 → (∃ r r', W1.heap[l]? = some (.loop r) ∧ X = W1.putObj l (.loop r')) → body.wpIn (Fence.wide.inRound l) (n - 1 - 1) Try.prog (roundQ w.heap.size bs I Ix (k + 1) X) a1 X)
    (hdone : ∀ (D : Nat) (W : World), w.heap.size ≤ D → I N W → W.heap[D]? = some (.deferred (some [])) → Q .normal { a with defers := { target := .collected D, args := #[] } :: a.defers } W)
    (hstop : ∀ (D k : Nat) (W : World), w.heap.size ≤ D → k ≤ N → Ix k W → W.heap[D]? = some (.deferred (some [])) → Code.ret.wpIn Fence.wide n Try.prog Q { a with defers := { target := .collected D, args := #[] } :: a.defers } W) :
    (Code.rangeFunc g ps assign body).wpIn Fence.wide n Try.prog Q a w := by
  refine wpIn_rangeFunc fun fn hfn => ?_
  obtain ⟨rc, hrc⟩ : ∃ rc : LoopState → Option Code → Loop, rc = fun st pe => { state := st, pending := pe, fn, tmps := a.tmps, params := ps, assign, body, defers := w.heap.size } := ⟨_, rfl⟩
  have ent := run_enterLoop_outer (P := Try.prog) (w := w) fn a.tmps ps assign body
  obtain ⟨d, hd⟩ : ∃ d, w.heap.size = d := ⟨_, rfl⟩
  obtain ⟨V, hV⟩ : ∃ V, (w.alloc (.deferred (some []))).alloc (.loop (rc .ready none)) = V := ⟨_, rfl⟩
  have sV : V.heap.size = d + 2 := by rw [← hV]; simp [hd]
  have gV : w.grownBy V none := by
    rw [← hV]
    exact ⟨rfl, rfl, rfl, by simp; omega, fun k hk _ => (Lib.alloc_old _ _ k (by rw [size_alloc]; omega)).trans (Lib.alloc_old _ _ k hk)⟩
  have lV : V.heap[d + 1]? = some (.loop (rc .ready none)) := by
    rw [← hV, ← hd]
    have := heap_alloc_new (w.alloc (.deferred (some []))) (.loop (rc .ready none))
    rwa [size_alloc] at this
  have dV : V.heap[d]? = some (.deferred (some [])) := by
    rw [← hV, ← hd]
    exact (Lib.alloc_old _ _ _ (by rw [size_alloc]; omega)).trans (heap_alloc_new w _)
  have bV : Below w.heap.size w V := ⟨gV.os, gV.tape, gV.output, gV.size, fun k hk => gV.block k hk (by simp)⟩
  have own2 : ∀ (T : Nat → World → Prop) (st : LoopState) (pe : Option Code), OwnFrom w.heap.size T → OwnFrom V.heap.size (fun s X => T s X ∧ X.heap[d + 1]? = some (.loop (rc st pe)) ∧ X.heap[d]? = some (.deferred (some []))) := fun T st pe hT s A B row hs hgr hr => by
    have hr1 : ∀ r, row = some r → d + 2 ≤ r := fun r e => by have := (hr r e).1; omega
    refine ⟨hT s A B row hs.1 hgr (fun r e => ⟨by have := hr1 r e; omega, (hr r e).2⟩), ?_, ?_⟩
    · exact (low_stands hgr hr1 (by omega) (Array.getElem?_eq_some_iff.1 hs.2.1).1).trans hs.2.1
    · exact (low_stands hgr hr1 (by omega) (Array.getElem?_eq_some_iff.1 hs.2.2).1).trans hs.2.2
  have put : ∀ (T : Nat → World → Prop) (s : Nat) (X : World) (r : Loop) (o : Obj), OwnFrom w.heap.size T → T s X → X.heap[d + 1]? = some (.loop r) → T s (X.putObj (d + 1) o) := fun T s X r o hT hs hx => hT.putObj o hs (by omega) hx rfl
  have hpb : ∀ x ∈ bs, x ≠ d + 1 := fun x hx => by have := hbs x hx; omega
  rw [hd] at ent
  refine ⟨d + 1, [{ target := .collected d, args := #[] }], V, { target := .fn (.func gf) lb, args := #[.func (.yield (d + 1)) #[] #[]] }, V, gf, #[.func (.yield (d + 1)) #[] #[]] ++ lb, V, ?_, ?_, fun _ _ => trivial, ?_, (fun h => by cases h), ?_⟩
  · show (Instr.enterLoop fn a.tmps ps assign body none).run Try.prog w = _
    rw [ent, ← hV, hrc, hd]
  · simp only [resolve, hg]
    simp [go_sem]
  · simp [invoke, go_sem, eg]
  have any0 : ∀ {f : Nat} {args : Array Value} {X : World} {R : Ending → World → Prop}, CallsIn Fence.wide 0 Try.prog f args X R → CallsIn Fence.wide (n - 1) Try.prog f args X R := fun h => callsIn_wide.2 (callsIn_wide.1 h)
  refine any0 ((hseq (d + 1) (fun s X => I s X ∧ X.heap[d + 1]? = some (.loop (rc .ready none)) ∧ X.heap[d]? = some (.deferred (some []))) (fun s X => Ix s X ∧ X.heap[d + 1]? = some (.loop (rc .done (some .ret))) ∧ X.heap[d]? = some (.deferred (some []))) V bV (own2 I _ _ hI) (own2 Ix _ _ hIx) ?_ ⟨hI _ _ _ none h0 gV (fun r e => by cases e), lV, dV⟩).mono ?_)
  · -- a round
    rintro k W ⟨hi, hl, hk⟩ hlen
    have hy := run_yield (P := Try.prog) (args := encs k) hl (by rw [hrc]; exact hps k)
    rw [hrc] at hy
    obtain ⟨P, hass, hbod⟩ := hround (d + 1) k W hi hlen (by omega) (Array.getElem?_eq_some_iff.1 hl).1
    refine ⟨fn, _, assign, body, hy, roundIn_any (m := n - 1 - 1) (roundIn_of_wpIn hfn (wpIn_mono hass ?_))⟩
    intro e a1 W1 he
    cases e with
    | normal =>
      obtain ⟨k1, p1⟩ := he
      have hl1 := (k1.new _ (by omega) (Array.getElem?_eq_some_iff.1 hl).1).trans hl
      have hk1 := (k1.new _ (by omega) (Array.getElem?_eq_some_iff.1 hk).1).trans hk
      refine ⟨_, run_beginRound hl1 (by rw [hrc]), ?_⟩
      refine wpIn_mono (hbod a1 W1 _ p1 ⟨_, _, hl1, rfl⟩) ?_
      have busy : (W1.putObj (d + 1) (.loop { rc .ready none with state := .busy })).heap[d + 1]? = some (.loop { rc .ready none with state := .busy }) := World.putObj_heap_same (Array.getElem?_eq_some_iff.1 hl1).1
      have def2 : (W1.putObj (d + 1) (.loop { rc .ready none with state := .busy })).heap[d]? = some (.deferred (some [])) := (World.putObj_heap_other (by omega)).trans hk1
      intro e3 a3 W3 h3
      cases e3 with
      | normal =>
        obtain ⟨k3, i3⟩ := h3
        have hl3 := (k3.new _ (by omega) (Array.getElem?_eq_some_iff.1 busy).1).trans busy
        have hk3 := (k3.new _ (by omega) (Array.getElem?_eq_some_iff.1 def2).1).trans def2
        have er := run_endRound (P := Try.prog) none hl3
        rw [hrc] at er
        refine ⟨_, _, er, .inl ⟨rfl, ⟨put I _ _ _ _ hI i3 hl3, ?_, (World.putObj_heap_other (by omega)).trans hk3⟩, ?_⟩⟩
        · rw [hrc]
          exact World.putObj_heap_same (Array.getElem?_eq_some_iff.1 hl3).1
        · exact (k1.mono (by omega)).trans ((Ka.put W1 _ hpb (by omega)).trans ((k3.mono (by omega)).trans (Ka.put W3 _ hpb (by omega))))
      | ret =>
        obtain ⟨k3, i3⟩ := h3
        have hl3 := (k3.new _ (by omega) (Array.getElem?_eq_some_iff.1 busy).1).trans busy
        have hk3 := (k3.new _ (by omega) (Array.getElem?_eq_some_iff.1 def2).1).trans def2
        have er := run_endRound (P := Try.prog) (some .ret) hl3
        rw [hrc] at er
        refine ⟨_, _, er, .inr ⟨rfl, ⟨put Ix _ _ _ _ hIx i3 hl3, ?_, (World.putObj_heap_other (by omega)).trans hk3⟩, ?_⟩⟩
        · rw [hrc]
          exact World.putObj_heap_same (Array.getElem?_eq_some_iff.1 hl3).1
        · have k1' : Ka [] V.heap.size W W1 := ⟨fun x hx => (by cases hx), k1.size, (k1.mono (c := V.heap.size) (by omega)).new⟩
          exact k1'.trans ((Ka.put W1 _ (fun x hx => by cases hx) (by omega)).trans ((k3.mono (by omega)).trans (Ka.put W3 _ (fun x hx => by cases hx) (by omega))))
      | exit _ => exact h3.elim
      | goto _ => exact h3.elim
      | panic _ => exact h3.elim
      | outgrown => exact h3.elim
    | ret => exact he.elim
    | exit _ => exact he.elim
    | goto _ => exact he.elim
    | panic _ => exact he.elim
    | outgrown => exact he.elim
  · -- behind it
    rintro e X ⟨⟨v, rfl⟩, (⟨hi, hl, hk⟩ | ⟨k, hkN, hi, hl, hk⟩)⟩
    · have el := run_endLoop (P := Try.prog) hl (by rw [hrc]; simp)
      rw [hrc] at el
      exact ⟨none, _, el, hdone d _ (by omega) (put I _ _ _ _ hI hi hl) ((World.putObj_heap_other (by omega)).trans hk)⟩
    · have el := run_endLoop (P := Try.prog) hl (by rw [hrc]; simp)
      rw [hrc] at el
      exact ⟨some .ret, _, el, hstop d k _ (by omega) hkN (put Ix _ _ _ _ hIx hi hl) ((World.putObj_heap_other (by omega)).trans hk)⟩
end
/-- An operation that is no defer does within a round what it does outside. -/
theorem opIn_round {n : Nat} {P : Program} {o : Oper} {a : Act} {w : World} {K : Act → World → Prop} {Q : Exit → Act → World → Prop} (l : Nat) (hd : ∀ c, o.op ≠ .defer c) (h : o.wpIn Fence.wide n P a w K Q) : o.wpIn (Fence.wide.inRound l) n P a w K Q := by
  unfold Oper.wpIn at *
  refine ⟨h.1, ?_⟩
  have h2 := h.2
  rw [Oper.semAt_plain _ _ _ hd] at h2 ⊢
  generalize (execOp a.eval o).run P w = r at *
  cases r with
  | ok x w' => cases x <;> exact h2
  | halt x w' => cases x <;> exact h2
theorem opsIn_round {n : Nat} {P : Program} {ops : Array Oper} {Q : Exit → Act → World → Prop} (l : Nat) (hd : ∀ (i : Nat) o c, ops[i]? = some o → o.op ≠ .defer c) : ∀ (s : List Nat) (a : Act) (w : World), wpOpsIn Fence.wide n P ops Q s a w → wpOpsIn (Fence.wide.inRound l) n P ops Q s a w
  | [], _, _, h => h
  | i :: s, a, w, h => by
    rw [wpOpsIn_cons] at h ⊢
    unfold wpOpIn at h ⊢
    cases ho : ops[i]? with
    | none => rw [ho] at h; exact opsIn_round l hd s a w h
    | some o =>
      rw [ho] at h
      simp only at h ⊢
      split
      · rename_i hw
        rw [if_pos hw] at h
        exact opIn_round l (fun c => hd i o c ho) (Oper.wpIn_mono (fun a w h => opsIn_round l hd s a w h) h)
      · rename_i hw
        rw [if_neg hw] at h
        exact ⟨h.1, opsIn_round l hd s _ _ h.2⟩
theorem any_sound {n : Nat} {P : Program} {id l : Nat} {ops : Array Oper} {Q : Exit → Act → World → Prop} {a : Act} {w : World} (hd : ∀ (i : Nat) o c, ops[i]? = some o → o.op ≠ .defer c) (hm : P.follows .mixedOrders = true)
    (h : wpAnyIn Fence.wide n P .any ops Q ops.size (Array.replicate ops.size false) a { w with drawn := w.drawn + 1 }) : (Code.region id ops true).wpIn (Fence.wide.inRound l) n P Q a w :=
  wpIn_region_draw fun t => by
    refine opsIn_round l hd _ _ _ ?_
    simp only [Region.schedule, hm, Bool.true_or, if_true]
    exact wpAnyIn_sound ops.size t _ a _ h
/-- ends, as such an iterator. -/
theorem ends_seqN (Bs : Nat) (v : Value) (L : List Sl) (hL : L.length ≤ 8796093022000) (w : World) (hBs : w.heap[Bs]? = some (.cells #[v] 23 (0, 0))) (hWd : Wide 3 slC w v L) :
    SeqN 45 #[.pointer (some ⟨Bs, 0, none⟩)] (enV L) (bks Bs v L.length) L.length w := fun l J Jx W hW hJ _ hY h0 => by
  have h := ends1_in Fence.wide 1 trivial rfl (by omega) l Bs v L hL (fun pre X => J pre.length X) (fun pre X => Jx pre.length X) (fun s A B hs hg => hJ _ A B none hs hg (fun r e => by cases e))
    (fun pre x X hj hl hx => by
      subst hx
      obtain ⟨fn, tmps, assign, body, hy, hR⟩ := hY pre.length X hj hl
      refine ⟨fn, tmps, assign, body, hy, RoundIn.mono hR ?_⟩
      rintro e W' (⟨h1, h2, h3⟩ | ⟨h1, h2, h3⟩)
      · exact .inl ⟨h1, by simpa using h2, h3.old⟩
      · exact .inr ⟨h1, by simpa using h2⟩)
    W ((hW.block Bs (Array.getElem?_eq_some_iff.1 hBs).1).trans hBs) (hWd.same hW.size (fun b _ hl => hW.block b hl)) h0
  refine callsIn_wide.2 (callsIn_wide.1 (h.mono ?_))
  rintro e W' ⟨h1, (⟨ys, rfl, h2⟩ | ⟨pre, ⟨k, hk, rfl⟩, h2⟩)⟩
  · exact ⟨h1, .inl (by simpa using h2)⟩
  · exact ⟨h1, .inr ⟨k, hk, by simpa using h2⟩⟩
end Go.Proofs.Ythalhidebkhclaa
namespace Go.Proofs.Ythalhidebkhclaa
open Go.RowKit Go.Proofs.Ty Go.Sort Go.Lib
set_option linter.unusedVariables false
set_option maxRecDepth 1000000
set_option linter.unusedSimpArgs false
/-- A slice that has room for what it holds. -/
def Cp (v : Value) : Prop := ∀ ao n c, v = .slice ao n c → n ≤ c
theorem own_cp {w : World} {B : Nat} {e : TypeId} {c n : Nat} {v : Value} {xs : List Value} (h : w.ownsRow B e c v n xs) : Cp v := by
  rintro ao m k rfl
  rcases h.2 with ⟨h1, h2⟩ | ⟨g, cap, cur, h1, _, _, h2, _⟩
  · injection h1 with e1 e2 e3; omega
  · injection h1 with e1 e2 e3; omega
/-- Where a part of bytes begins. -/
def adB (a : Addr) (lo cap : Nat) : Addr := if cap = lo then a else if lo = 0 then a else ⟨a.block, a.off + lo, none⟩
theorem bytes_part {x : World} {a : Addr} {cap : Nat} {l : List UInt8} (hx : Bytes x (.slice (some a) l.length cap) l) (lo hi : Nat) (h1 : lo ≤ hi) (h2 : hi ≤ l.length) (hc : l.length ≤ cap) (c2 : Nat) : Bytes x (.slice (some (adB a lo cap)) (hi - lo) c2) ((l.drop lo).take (hi - lo)) := by
  obtain ⟨ao', cap', hv, h0, hcell⟩ := hx
  injection hv with e1 _ e3
  subst e1 e3
  have hlen : ((l.drop lo).take (hi - lo)).length = hi - lo := by rw [List.length_take, List.length_drop]; omega
  refine ⟨_, _, by rw [hlen], (fun h => by cases h), fun j hj => ?_⟩
  rw [hlen] at hj
  obtain ⟨b, off, e, hlt, hr⟩ := hcell (lo + j) (by omega)
  injection e with e
  subst e
  unfold adB
  rw [if_neg (by omega)]
  by_cases hk0 : lo = 0
  · rw [if_pos hk0]
    subst hk0
    refine ⟨b, off, rfl, hlt, ?_⟩
    simp only [Nat.zero_add] at hr
    simp only [List.getElem_take, List.getElem_drop, Nat.zero_add]
    exact hr
  · rw [if_neg hk0]
    refine ⟨b, off + lo, rfl, hlt, ?_⟩
    simp only [List.getElem_take, List.getElem_drop]
    rw [show off + lo + j = off + (lo + j) by omega]
    exact hr
section
variable {w : World} {v : Value} {l : List UInt8}
theorem bslice_nil (h : Bytes w v l) (hao : ∃ cap, v = .slice none l.length cap) : l = [] ∧ v = .slice none 0 0 := by
  obtain ⟨cap, rfl⟩ := hao
  obtain ⟨ao', cap', hv, h0, _⟩ := h
  injection hv with e1 _ e3
  obtain ⟨rfl, rfl⟩ := h0 e1.symm
  subst e3
  exact ⟨rfl, rfl⟩
theorem bslice_lh (h : Bytes w v l) (hc : Cp v) (lo hi : Nat) (h1 : lo ≤ hi) (h2 : hi ≤ l.length) : ∃ a c, (∀ W, (Instr.sliceAt 24 v (some (.int .i64 lo)) (some (.int .i64 hi)) none).run Try.prog W = .ok (.slice a (hi - lo) c) W) ∧ (∀ x, Bytes x v l → Bytes x (.slice a (hi - lo) c) ((l.drop lo).take (hi - lo))) ∧ Cp (.slice a (hi - lo) c) := by
  obtain ⟨i0, hi0, hz0, hz1, hz2⟩ := info_parts info5
  obtain ⟨ao, cap, rfl⟩ : ∃ ao cap, v = .slice ao l.length cap := by obtain ⟨ao, cap, h, _⟩ := h; exact ⟨ao, cap, h⟩
  have hcap := hc _ _ _ rfl
  have a0 : (0 : Int) ≤ (lo : Int) := by omega
  have a1 : (lo : Int) ≤ (hi : Int) := by omega
  have a2 : (hi : Int) ≤ (cap : Int) := by omega
  cases ao with
  | none =>
    obtain ⟨rfl, hv⟩ := bslice_nil h ⟨_, rfl⟩
    injection hv with _ _ e3
    subst e3
    obtain rfl : hi = 0 := by simpa using h2
    obtain rfl : lo = 0 := by omega
    refine ⟨none, 0, fun W => ?_, fun x hx => by simpa using hx, fun _ _ _ e => by injection e; omega⟩
    simp [Instr.sliceAt, run_underlying Try.underlying24, go_sem, sizeOf, typeInfo, hi0, hz1, Addr.add]
  | some a =>
    refine ⟨some (adB a lo cap), cap - lo, fun W => ?_, fun x hx => bytes_part hx lo hi h1 h2 hcap _, fun _ _ _ e => by injection e; omega⟩
    simp [Instr.sliceAt, run_underlying Try.underlying24, go_sem, sizeOf, typeInfo, hi0, hz1, Addr.add, a0, a1, a2, adB]
    try (split <;> rfl)
theorem bslice_l (h : Bytes w v l) (hc : Cp v) (lo : Nat) (h1 : lo ≤ l.length) : ∃ a c, (∀ W, (Instr.sliceAt 24 v (some (.int .i64 lo)) none none).run Try.prog W = .ok (.slice a (l.length - lo) c) W) ∧ (∀ x, Bytes x v l → Bytes x (.slice a (l.length - lo) c) (l.drop lo)) ∧ Cp (.slice a (l.length - lo) c) := by
  obtain ⟨i0, hi0, hz0, hz1, hz2⟩ := info_parts info5
  obtain ⟨ao, cap, rfl⟩ : ∃ ao cap, v = .slice ao l.length cap := by obtain ⟨ao, cap, h, _⟩ := h; exact ⟨ao, cap, h⟩
  have hcap := hc _ _ _ rfl
  have a0 : (0 : Int) ≤ (lo : Int) := by omega
  have a1 : (lo : Int) ≤ (l.length : Int) := by omega
  have a2 : (l.length : Int) ≤ (cap : Int) := by omega
  cases ao with
  | none =>
    obtain ⟨rfl, hv⟩ := bslice_nil h ⟨_, rfl⟩
    injection hv with _ _ e3
    subst e3
    obtain rfl : lo = 0 := by simpa using h1
    refine ⟨none, 0, fun W => ?_, fun x hx => by simpa using hx, fun _ _ _ e => by injection e; omega⟩
    simp [Instr.sliceAt, run_underlying Try.underlying24, go_sem, sizeOf, typeInfo, hi0, hz1, Addr.add]
  | some a =>
    refine ⟨some (adB a lo cap), cap - lo, fun W => ?_, fun x hx => ?_, fun _ _ _ e => by injection e; omega⟩
    · simp [Instr.sliceAt, run_underlying Try.underlying24, go_sem, sizeOf, typeInfo, hi0, hz1, Addr.add, a0, a1, a2, adB]
      try (split <;> rfl)
    · have := bytes_part hx lo l.length h1 (Nat.le_refl _) hcap (cap - lo)
      rw [List.take_of_length_le (by rw [List.length_drop]; omega)] at this
      exact this
theorem bslice_h (h : Bytes w v l) (hc : Cp v) (kd : IntKind) (hi : Nat) (h2 : hi ≤ l.length) : ∃ a c, (∀ W, (Instr.sliceAt 24 v none (some (.int kd hi)) none).run Try.prog W = .ok (.slice a hi c) W) ∧ (∀ x, Bytes x v l → Bytes x (.slice a hi c) (l.take hi)) ∧ Cp (.slice a hi c) := by
  obtain ⟨i0, hi0, hz0, hz1, hz2⟩ := info_parts info5
  obtain ⟨ao, cap, rfl⟩ : ∃ ao cap, v = .slice ao l.length cap := by obtain ⟨ao, cap, h, _⟩ := h; exact ⟨ao, cap, h⟩
  have hcap := hc _ _ _ rfl
  have a0 : (0 : Int) ≤ (hi : Int) := by omega
  have a2 : (hi : Int) ≤ (cap : Int) := by omega
  cases ao with
  | none =>
    obtain ⟨rfl, hv⟩ := bslice_nil h ⟨_, rfl⟩
    injection hv with _ _ e3
    subst e3
    obtain rfl : hi = 0 := by simpa using h2
    refine ⟨none, 0, fun W => ?_, fun x hx => by simpa using hx, fun _ _ _ e => by injection e; omega⟩
    simp [Instr.sliceAt, run_underlying Try.underlying24, go_sem, sizeOf, typeInfo, hi0, hz1, Addr.add]
  | some a =>
    refine ⟨some (adB a 0 cap), cap, fun W => ?_, fun x hx => ?_, fun _ _ _ e => by injection e; omega⟩
    · simp [Instr.sliceAt, run_underlying Try.underlying24, go_sem, sizeOf, typeInfo, hi0, hz1, Addr.add, a0, a2, adB]
    · have := bytes_part hx 0 hi (Nat.zero_le _) h2 hcap cap
      simpa using this
end
end Go.Proofs.Ythalhidebkhclaa
namespace Go.Proofs.Ythalhidebkhclaa
open Go.RowKit Go.Shelf Go.Proofs.Ty
set_option linter.unusedVariables false
set_option maxRecDepth 1000000
set_option linter.unusedSimpArgs false
/-- The operations of the region. -/
noncomputable def pcOps : Array Oper := match Try.f36.body with
  | some (.seq _ (.seq _ (.block _ (.rangeFunc _ _ _ (.block _ (.seq (.region _ ops _) _)))))) => ops
  | _ => #[]
def sel (l : Bool) (v : Value) : Value := match l with
  | true => v
  | false => undef
theorem step_val {n i : Nat} {P : Program} {ops : Array Oper} {o : Oper} {v : Value} {K : Act → World → Prop} {Q : Exit → Act → World → Prop} {a : Act} {w : World} (ho : ops[i]? = some o) (hw : Region.wanted o (yielded ops a.tmps) = true) (hr : (execOp a.eval o).run P w = .ok (.value v) w) (hk : K (a.put o.dst v) w) : wpOpIn Fence.wide n P ops Q i K a w := by
  unfold wpOpIn
  rw [ho]
  simp only [hw, if_true]
  refine ⟨fun _ _ => trivial, ?_⟩
  show Oper.uponIn _ _ _ _ _ _ _ ((execOp a.eval o).run P w)
  rw [hr]
  exact hk
theorem exec_sub13 {a : Act} {o : Oper} {x y : Operand} {m n : Int} {k : Nat} (ho : o.op = .binOp .sub 3 x y 3) (hx : a.eval x = .int .i64 m) (hy : a.eval y = .int .i64 n) (h : m - n = 8 * (k : Int)) (hk : k ≤ 8) (w : World) : (execOp a.eval o).run Try.prog w = .ok (.value (.int .i64 (m - n))) w := by
  unfold execOp
  simp only [ho, hx, hy]
  have e : IntKind.i64.wrap (m - n) = m - n := by rw [h]; simp [IntKind.wrap, IntKind.bits, IntKind.signed]; omega
  simp [go_sem, run_underlying Try.underlying3, e]
theorem exec_quo13 {a : Act} {o : Oper} {x y : Operand} {m : Int} {k : Nat} (ho : o.op = .binOp .quo 3 x y 3) (hx : a.eval x = .int .i64 m) (hy : a.eval y = .int .i64 8) (h : m = 8 * (k : Int)) (hk : k ≤ 8) (w : World) : (execOp a.eval o).run Try.prog w = .ok (.value (.int .i64 (k : Nat))) w := by
  unfold execOp
  simp only [ho, hx, hy]
  have e1 : (8 * (k : Int)).tdiv 8 = (k : Int) := by rw [Int.mul_comm]; exact Int.mul_tdiv_cancel _ (by decide)
  have e : IntKind.i64.wrap (k : Int) = (k : Int) := by simp [IntKind.wrap, IntKind.bits, IntKind.signed]; omega
  subst h
  simp [go_sem, run_underlying Try.underlying3, e1, e]
theorem exec_slice13 {a : Act} {o : Oper} {x : Operand} {lo hi : Option Operand} {v u : Value} {lo' hi' : Option Value} (ho : o.op = .slice 24 x lo hi none) (hx : a.eval x = v) (hlo : lo.map a.eval = lo') (hhi : hi.map a.eval = hi') (hr : ∀ W, (Instr.sliceAt 24 v lo' hi' none).run Try.prog W = .ok u W) (w : World) : (execOp a.eval o).run Try.prog w = .ok (.value u) w := by
  unfold execOp
  simp only [ho, hx, hlo, hhi, Option.map_none, Sem.run_bind, hr, Result.andThen_ok, Sem.run_pure]
section
variable {n : Nat} {Q : Exit → Act → World → Prop} {X : World} {q0 zz Bb lo hi : Nat} {e : Int} {s : Sl} {t0 t1 t6 t7 t8 t9 vy vb vp : Value}
/-- What stands when these have come up. -/
def pcA (q0 zz Bb lo hi : Nat) (e : Int) (s : Sl) (t0 t1 t6 t7 t8 t9 vy vb vp : Value) (l0 l1 l2 l3 l4 l5 l6 l7 l8 l9 l10 : Bool) : Act := { tmps := #[t0, t1, .pointer (some ⟨Bb, 0, none⟩), .pointer (some ⟨q0, 0, none⟩), .pointer (some ⟨zz, 0, none⟩), .int .i64 e, t6, t7, t8, t9, sel l0 vy, sel l1 (.agg s.arr), sel l2 vb, sel l3 (.int .i64 e), sel l4 (.pointer (some ⟨zz, 2, none⟩)), sel l5 (.int .i64 s.bt), sel l6 (.int .i64 (e - s.bt)), sel l7 (.int .i64 (lo : Nat)), sel l8 (.int .i64 e), sel l9 (.int .i64 (hi : Nat)), sel l10 vp, undef, undef], defers := [] }
set_option maxHeartbeats 2000000 in
/-- All of them but the call come up, in whatever order. -/
theorem pc_any (hy : (loadVar 93 ⟨q0, 0, none⟩).run Try.prog X = .ok vy X) (hs : (loadVar 47 ⟨zz, 0, none⟩).run Try.prog X = .ok (.agg s.arr) X) (hb : (loadVar 24 ⟨Bb, 0, none⟩).run Try.prog X = .ok vb X) (hz : (loadVar 3 ⟨zz, 2, none⟩).run Try.prog X = .ok (.int .i64 s.bt) X)
    (he : e = 8 * (hi : Int)) (hd : e - s.bt = 8 * (lo : Int)) (hi8 : hi ≤ 8) (hlh : lo ≤ hi)
    (hp : ∀ W, (Instr.sliceAt 24 vb (some (.int .i64 (lo : Nat))) (some (.int .i64 (hi : Nat))) none).run Try.prog W = .ok vp W)
    (HL : wpAnyIn Fence.wide n Try.prog .any pcOps Q 2 #[true, true, true, true, true, true, true, true, true, true, true, false, false] (pcA q0 zz Bb lo hi e s t0 t1 t6 t7 t8 t9 vy vb vp true true true true true true true true true true true) X) :
    ∀ (m : Nat) (l0 l1 l2 l3 l4 l5 l6 l7 l8 l9 l10 : Bool), (!l0).toNat + (!l1).toNat + (!l2).toNat + (!l3).toNat + (!l4).toNat + (!l5).toNat + (!l6).toNat + (!l7).toNat + (!l8).toNat + (!l9).toNat + (!l10).toNat = m → (l5 = true → l4 = true) → (l6 = true → l3 = true ∧ l5 = true) → (l7 = true → l6 = true) → (l9 = true → l8 = true) → (l10 = true → l2 = true ∧ l7 = true ∧ l9 = true) →
      wpAnyIn Fence.wide n Try.prog .any pcOps Q (m + 2) #[l0, l1, l2, l3, l4, l5, l6, l7, l8, l9, l10, false, false] (pcA q0 zz Bb lo hi e s t0 t1 t6 t7 t8 t9 vy vb vp l0 l1 l2 l3 l4 l5 l6 l7 l8 l9 l10) X := by
  intro m
  induction m with
  | zero =>
    intro l0 l1 l2 l3 l4 l5 l6 l7 l8 l9 l10 hm h5 h6 h7 h9 h10
    obtain rfl : l0 = true := by cases l0 <;> simp at hm ⊢
    obtain rfl : l1 = true := by cases l1 <;> simp at hm ⊢
    obtain rfl : l2 = true := by cases l2 <;> simp at hm ⊢
    obtain rfl : l3 = true := by cases l3 <;> simp at hm ⊢
    obtain rfl : l4 = true := by cases l4 <;> simp at hm ⊢
    obtain rfl : l5 = true := by cases l5 <;> simp at hm ⊢
    obtain rfl : l6 = true := by cases l6 <;> simp at hm ⊢
    obtain rfl : l7 = true := by cases l7 <;> simp at hm ⊢
    obtain rfl : l8 = true := by cases l8 <;> simp at hm ⊢
    obtain rfl : l9 = true := by cases l9 <;> simp at hm ⊢
    obtain rfl : l10 = true := by cases l10 <;> simp at hm ⊢
    exact HL
  | succ m ih =>
    intro l0 l1 l2 l3 l4 l5 l6 l7 l8 l9 l10 hm h5 h6 h7 h9 h10
    constructor
    · intro h0
      exfalso
      have hno : ∀ j, j ∉ Region.ready .any pcOps #[l0, l1, l2, l3, l4, l5, l6, l7, l8, l9, l10, false, false] := fun j hj => by rw [h0] at hj; cases hj
      obtain rfl : l0 = true := by
        cases l0 with
        | true => rfl
        | false => exact absurd (mem_ready.2 ⟨rfl, pcOps[0]'(by decide), rfl, fun e he _ => by have he2 : e ∈ (#[] : Array Edge) := he; exact by (simp at he2)⟩) (hno 0)
      obtain rfl : l1 = true := by
        cases l1 with
        | true => rfl
        | false => exact absurd (mem_ready.2 ⟨rfl, pcOps[1]'(by decide), rfl, fun e he _ => by have he2 : e ∈ (#[] : Array Edge) := he; exact by (simp at he2)⟩) (hno 1)
      obtain rfl : l2 = true := by
        cases l2 with
        | true => rfl
        | false => exact absurd (mem_ready.2 ⟨rfl, pcOps[2]'(by decide), rfl, fun e he _ => by have he2 : e ∈ (#[] : Array Edge) := he; exact by (simp at he2)⟩) (hno 2)
      obtain rfl : l3 = true := by
        cases l3 with
        | true => rfl
        | false => exact absurd (mem_ready.2 ⟨rfl, pcOps[3]'(by decide), rfl, fun e he _ => by have he2 : e ∈ (#[] : Array Edge) := he; exact by (simp at he2)⟩) (hno 3)
      obtain rfl : l4 = true := by
        cases l4 with
        | true => rfl
        | false => exact absurd (mem_ready.2 ⟨rfl, pcOps[4]'(by decide), rfl, fun e he _ => by have he2 : e ∈ (#[] : Array Edge) := he; exact by (simp at he2)⟩) (hno 4)
      obtain rfl : l5 = true := by
        cases l5 with
        | true => rfl
        | false => exact absurd (mem_ready.2 ⟨rfl, pcOps[5]'(by decide), rfl, fun e he _ => by have he2 : e ∈ (#[{ on := 4, ground := .data }] : Array Edge) := he; exact by (simp at he2; subst he2; rfl)⟩) (hno 5)
      obtain rfl : l6 = true := by
        cases l6 with
        | true => rfl
        | false => exact absurd (mem_ready.2 ⟨rfl, pcOps[6]'(by decide), rfl, fun e he _ => by have he2 : e ∈ (#[{ on := 3, ground := .data }, { on := 5, ground := .data }] : Array Edge) := he; exact by (simp at he2; rcases he2 with rfl | rfl <;> rfl)⟩) (hno 6)
      obtain rfl : l7 = true := by
        cases l7 with
        | true => rfl
        | false => exact absurd (mem_ready.2 ⟨rfl, pcOps[7]'(by decide), rfl, fun e he _ => by have he2 : e ∈ (#[{ on := 6, ground := .data }] : Array Edge) := he; exact by (simp at he2; subst he2; rfl)⟩) (hno 7)
      obtain rfl : l8 = true := by
        cases l8 with
        | true => rfl
        | false => exact absurd (mem_ready.2 ⟨rfl, pcOps[8]'(by decide), rfl, fun e he _ => by have he2 : e ∈ (#[] : Array Edge) := he; exact by (simp at he2)⟩) (hno 8)
      obtain rfl : l9 = true := by
        cases l9 with
        | true => rfl
        | false => exact absurd (mem_ready.2 ⟨rfl, pcOps[9]'(by decide), rfl, fun e he _ => by have he2 : e ∈ (#[{ on := 8, ground := .data }] : Array Edge) := he; exact by (simp at he2; subst he2; rfl)⟩) (hno 9)
      obtain rfl : l10 = true := by
        cases l10 with
        | true => rfl
        | false => exact absurd (mem_ready.2 ⟨rfl, pcOps[10]'(by decide), rfl, fun e he _ => by have he2 : e ∈ (#[{ on := 2, ground := .data }, { on := 7, ground := .data }, { on := 9, ground := .data }] : Array Edge) := he; exact by (simp at he2; rcases he2 with rfl | rfl | rfl <;> rfl)⟩) (hno 10)
      simp at hm
    · intro i hi'
      obtain ⟨hl, o, ho, hdep⟩ := mem_ready.1 hi'
      have hi13 : i < 13 := by
        have := (Array.getElem?_eq_some_iff.1 ho).1
        exact this
      match i, hi13 with
      | 0, _ =>
        obtain rfl : l0 = false := hl
        refine step_val rfl rfl (exec_load rfl rfl hy) ?_
        exact ih true l1 l2 l3 l4 l5 l6 l7 l8 l9 l10 (by simp only [Bool.not_false, Bool.not_true, Bool.toNat_true, Bool.toNat_false] at hm ⊢; omega) (fun h => h5 h) (fun h => ⟨(h6 h).1, (h6 h).2⟩) (fun h => h7 h) (fun h => h9 h) (fun h => ⟨(h10 h).1, (h10 h).2.1, (h10 h).2.2⟩)
      | 1, _ =>
        obtain rfl : l1 = false := hl
        refine step_val rfl rfl (exec_load rfl rfl hs) ?_
        exact ih l0 true l2 l3 l4 l5 l6 l7 l8 l9 l10 (by simp only [Bool.not_false, Bool.not_true, Bool.toNat_true, Bool.toNat_false] at hm ⊢; omega) (fun h => h5 h) (fun h => ⟨(h6 h).1, (h6 h).2⟩) (fun h => h7 h) (fun h => h9 h) (fun h => ⟨(h10 h).1, (h10 h).2.1, (h10 h).2.2⟩)
      | 2, _ =>
        obtain rfl : l2 = false := hl
        refine step_val rfl rfl (exec_load rfl rfl hb) ?_
        exact ih l0 l1 true l3 l4 l5 l6 l7 l8 l9 l10 (by simp only [Bool.not_false, Bool.not_true, Bool.toNat_true, Bool.toNat_false] at hm ⊢; omega) (fun h => h5 h) (fun h => ⟨(h6 h).1, (h6 h).2⟩) (fun h => h7 h) (fun h => h9 h) (fun h => ⟨rfl, (h10 h).2.1, (h10 h).2.2⟩)
      | 3, _ =>
        obtain rfl : l3 = false := hl
        refine step_val rfl rfl (rfl) ?_
        exact ih l0 l1 l2 true l4 l5 l6 l7 l8 l9 l10 (by simp only [Bool.not_false, Bool.not_true, Bool.toNat_true, Bool.toNat_false] at hm ⊢; omega) (fun h => h5 h) (fun h => ⟨rfl, (h6 h).2⟩) (fun h => h7 h) (fun h => h9 h) (fun h => ⟨(h10 h).1, (h10 h).2.1, (h10 h).2.2⟩)
      | 4, _ =>
        obtain rfl : l4 = false := hl
        refine step_val rfl rfl (by rfl) ?_
        exact ih l0 l1 l2 l3 true l5 l6 l7 l8 l9 l10 (by simp only [Bool.not_false, Bool.not_true, Bool.toNat_true, Bool.toNat_false] at hm ⊢; omega) (fun h => rfl) (fun h => ⟨(h6 h).1, (h6 h).2⟩) (fun h => h7 h) (fun h => h9 h) (fun h => ⟨(h10 h).1, (h10 h).2.1, (h10 h).2.2⟩)
      | 5, _ =>
        obtain rfl : l5 = false := hl
        have k4 : l4 = true := by
          obtain rfl := Option.some.inj ho.symm
          exact hdep { on := 4, ground := .data } (show _ ∈ (#[{ on := 4, ground := .data }] : Array Edge) from by simp) rfl
        subst k4
        refine step_val rfl rfl (exec_load rfl rfl hz) ?_
        exact ih l0 l1 l2 l3 true true l6 l7 l8 l9 l10 (by simp only [Bool.not_false, Bool.not_true, Bool.toNat_true, Bool.toNat_false] at hm ⊢; omega) (fun h => rfl) (fun h => ⟨(h6 h).1, rfl⟩) (fun h => h7 h) (fun h => h9 h) (fun h => ⟨(h10 h).1, (h10 h).2.1, (h10 h).2.2⟩)
      | 6, _ =>
        obtain rfl : l6 = false := hl
        have k3 : l3 = true := by
          obtain rfl := Option.some.inj ho.symm
          exact hdep { on := 3, ground := .data } (show _ ∈ (#[{ on := 3, ground := .data }, { on := 5, ground := .data }] : Array Edge) from by simp) rfl
        have k5 : l5 = true := by
          obtain rfl := Option.some.inj ho.symm
          exact hdep { on := 5, ground := .data } (show _ ∈ (#[{ on := 3, ground := .data }, { on := 5, ground := .data }] : Array Edge) from by simp) rfl
        subst k3
        subst k5
        refine step_val rfl rfl (exec_sub13 rfl rfl rfl hd (Nat.le_trans hlh hi8) _) ?_
        exact ih l0 l1 l2 true l4 true true l7 l8 l9 l10 (by simp only [Bool.not_false, Bool.not_true, Bool.toNat_true, Bool.toNat_false] at hm ⊢; omega) (fun h => h5 h) (fun h => ⟨rfl, rfl⟩) (fun h => rfl) (fun h => h9 h) (fun h => ⟨(h10 h).1, (h10 h).2.1, (h10 h).2.2⟩)
      | 7, _ =>
        obtain rfl : l7 = false := hl
        have k6 : l6 = true := by
          obtain rfl := Option.some.inj ho.symm
          exact hdep { on := 6, ground := .data } (show _ ∈ (#[{ on := 6, ground := .data }] : Array Edge) from by simp) rfl
        subst k6
        refine step_val rfl rfl (exec_quo13 rfl rfl rfl hd (Nat.le_trans hlh hi8) _) ?_
        exact ih l0 l1 l2 l3 l4 l5 true true l8 l9 l10 (by simp only [Bool.not_false, Bool.not_true, Bool.toNat_true, Bool.toNat_false] at hm ⊢; omega) (fun h => h5 h) (fun h => ⟨(h6 h).1, (h6 h).2⟩) (fun h => rfl) (fun h => h9 h) (fun h => ⟨(h10 h).1, rfl, (h10 h).2.2⟩)
      | 8, _ =>
        obtain rfl : l8 = false := hl
        refine step_val rfl rfl (rfl) ?_
        exact ih l0 l1 l2 l3 l4 l5 l6 l7 true l9 l10 (by simp only [Bool.not_false, Bool.not_true, Bool.toNat_true, Bool.toNat_false] at hm ⊢; omega) (fun h => h5 h) (fun h => ⟨(h6 h).1, (h6 h).2⟩) (fun h => h7 h) (fun h => rfl) (fun h => ⟨(h10 h).1, (h10 h).2.1, (h10 h).2.2⟩)
      | 9, _ =>
        obtain rfl : l9 = false := hl
        have k8 : l8 = true := by
          obtain rfl := Option.some.inj ho.symm
          exact hdep { on := 8, ground := .data } (show _ ∈ (#[{ on := 8, ground := .data }] : Array Edge) from by simp) rfl
        subst k8
        refine step_val rfl rfl (exec_quo13 rfl rfl rfl he hi8 _) ?_
        exact ih l0 l1 l2 l3 l4 l5 l6 l7 true true l10 (by simp only [Bool.not_false, Bool.not_true, Bool.toNat_true, Bool.toNat_false] at hm ⊢; omega) (fun h => h5 h) (fun h => ⟨(h6 h).1, (h6 h).2⟩) (fun h => h7 h) (fun h => rfl) (fun h => ⟨(h10 h).1, (h10 h).2.1, rfl⟩)
      | 10, _ =>
        obtain rfl : l10 = false := hl
        have k2 : l2 = true := by
          obtain rfl := Option.some.inj ho.symm
          exact hdep { on := 2, ground := .data } (show _ ∈ (#[{ on := 2, ground := .data }, { on := 7, ground := .data }, { on := 9, ground := .data }] : Array Edge) from by simp) rfl
        have k7 : l7 = true := by
          obtain rfl := Option.some.inj ho.symm
          exact hdep { on := 7, ground := .data } (show _ ∈ (#[{ on := 2, ground := .data }, { on := 7, ground := .data }, { on := 9, ground := .data }] : Array Edge) from by simp) rfl
        have k9 : l9 = true := by
          obtain rfl := Option.some.inj ho.symm
          exact hdep { on := 9, ground := .data } (show _ ∈ (#[{ on := 2, ground := .data }, { on := 7, ground := .data }, { on := 9, ground := .data }] : Array Edge) from by simp) rfl
        subst k2
        subst k7
        subst k9
        refine step_val rfl rfl (exec_slice13 (v := vb) (lo' := some (.int .i64 (lo : Nat))) (hi' := some (.int .i64 (hi : Nat))) rfl rfl rfl rfl hp _) ?_
        exact ih l0 l1 true l3 l4 l5 l6 true l8 true true (by simp only [Bool.not_false, Bool.not_true, Bool.toNat_true, Bool.toNat_false] at hm ⊢; omega) (fun h => h5 h) (fun h => ⟨(h6 h).1, (h6 h).2⟩) (fun h => h7 h) (fun h => h9 h) (fun h => ⟨rfl, rfl, rfl⟩)
      | 11, _ =>
        exfalso
        obtain rfl := Option.some.inj ho.symm
        have k0 : l0 = true := hdep { on := 0, ground := .data } (show _ ∈ (#[{ on := 0, ground := .data }, { on := 1, ground := .data }, { on := 10, ground := .data }] : Array Edge) from by simp) rfl
        have k1 : l1 = true := hdep { on := 1, ground := .data } (show _ ∈ (#[{ on := 0, ground := .data }, { on := 1, ground := .data }, { on := 10, ground := .data }] : Array Edge) from by simp) rfl
        have k10 : l10 = true := hdep { on := 10, ground := .data } (show _ ∈ (#[{ on := 0, ground := .data }, { on := 1, ground := .data }, { on := 10, ground := .data }] : Array Edge) from by simp) rfl
        obtain ⟨k2, k7, k9⟩ := h10 k10
        have k6 := h7 k7
        obtain ⟨k3, k5⟩ := h6 k6
        have k4 := h5 k5
        have k8 := h9 k9
        subst k0 k1 k2 k3 k4 k5 k6 k7 k8 k9 k10
        simp at hm
      | 12, _ =>
        exfalso
        obtain rfl := Option.some.inj ho.symm
        have k11 : false = true := hdep { on := 11, ground := .data } (show _ ∈ (#[{ on := 11, ground := .data }] : Array Edge) from by simp) rfl
        cases k11
end
end Go.Proofs.Ythalhidebkhclaa
namespace Go.Proofs.Ythalhidebkhclaa
open Go.RowKit Go.Shelf Go.Proofs.Ty
set_option linter.unusedVariables false
set_option maxRecDepth 1000000
set_option linter.unusedSimpArgs false
/-- What stands behind the yield. -/
def pcB (q0 zz Bb lo hi : Nat) (e : Int) (s : Sl) (t0 t1 t6 t7 t8 t9 vy vb vp : Value) (t : Bool) : Act := { tmps := #[t0, t1, .pointer (some ⟨Bb, 0, none⟩), .pointer (some ⟨q0, 0, none⟩), .pointer (some ⟨zz, 0, none⟩), .int .i64 e, t6, t7, t8, t9, vy, .agg s.arr, vb, .int .i64 e, .pointer (some ⟨zz, 2, none⟩), .int .i64 s.bt, .int .i64 (e - s.bt), .int .i64 (lo : Nat), .int .i64 e, .int .i64 (hi : Nat), vp, .bool t, .bool (!t)], defers := [] }
theorem step_run {n i : Nat} {P : Program} {ops : Array Oper} {o : Oper} {K : Act → World → Prop} {Q : Exit → Act → World → Prop} {a : Act} {w : World} (ho : ops[i]? = some o) (hw : Region.wanted o (yielded ops a.tmps) = true) (h : o.uponIn Fence.wide n P a K Q ((execOp a.eval o).run P w)) : wpOpIn Fence.wide n P ops Q i K a w := by
  unfold wpOpIn
  rw [ho]
  simp only [hw, if_true]
  exact ⟨fun _ _ => trivial, h⟩
theorem pc_leaf {n l : Nat} {Q : Exit → Act → World → Prop} {X : World} {q0 zz Bb lo hi : Nat} {e : Int} {s : Sl} {t0 t1 t6 t7 t8 t9 vb vp : Value} {R : Ending → World → Prop} (hY : YieldAt Fence.wide 0 Try.prog l #[.agg s.arr, vp] X R)
    (hR : ∀ en W', R en W' → ∃ t, en = .returned (.bool t) ∧ Q .normal (pcB q0 zz Bb lo hi e s t0 t1 t6 t7 t8 t9 (.func (.yield l) #[] #[]) vb vp t) W') :
    wpAnyIn Fence.wide n Try.prog .any pcOps Q 2 #[true, true, true, true, true, true, true, true, true, true, true, false, false] (pcA q0 zz Bb lo hi e s t0 t1 t6 t7 t8 t9 (.func (.yield l) #[] #[]) vb vp true true true true true true true true true true true) X := by
  obtain ⟨fn, tmps, assign, body, hy, hRd⟩ := hY
  refine wpAnyIn_all (rs := [11]) (by kernel_rfl) (by simp) ?_
  intro i hi
  simp only [List.mem_cons, List.mem_nil_iff, or_false] at hi
  subst hi
  have hx : ∀ a : Act, a.eval (.tmp 10) = .func (.yield l) #[] #[] → a.tmps[11]?.getD undef = .agg s.arr → a.tmps[20]?.getD undef = vp → (execOp a.eval (pcOps[11]'(by decide))).run Try.prog X = .ok (.round l fn tmps assign body) X := fun a h1 h2 h3 => by
    show (execOp a.eval { dst := some 21, op := .call { callee := .value (.tmp 10), args := #[.tmp 11, .tmp 20], argTypes := #[47, 24] }, type := 4, pos := _, after := _, guard := none }).run Try.prog X = _
    unfold execOp
    simp only [resolve, h1]
    simp [go_sem]
    rw [h2, h3, hy]
  refine step_run (o := pcOps[11]'(by decide)) rfl rfl ?_
  rw [hx _ rfl rfl rfl]
  refine ⟨fun h => (by cases h), RoundIn.mono (roundIn_any hRd) ?_⟩
  intro en W' hen
  obtain ⟨t, rfl, hq⟩ := hR en W' hen
  refine wpAnyIn_all (rs := [12]) (by kernel_rfl) (by simp) ?_
  intro i hi
  simp only [List.mem_cons, List.mem_nil_iff, or_false] at hi
  subst hi
  refine step_val (v := .bool (!t)) rfl rfl (by rfl) ?_
  exact wpAnyIn_done (by kernel_rfl) hq _
theorem pieces_in (F : Fence) (n : Nat) (hF : F.fn 19) (hro : F.round = none) (ao ab : Option Addr) (N cap nb cb : Nat) (w : World) :
    CallsIn F n Try.prog 19 #[.slice ao N cap, .slice ab nb cb] w fun e w' => e = .returned (.func (.func 36) #[] #[.pointer (some ⟨w.heap.size, 0, none⟩), .pointer (some ⟨w.heap.size + 1, 0, none⟩)]) ∧ w' = (w.alloc (.cells #[.slice ao N cap] 23)).alloc (.cells #[.slice ab nb cb] 24) := by
  refine callsIn_of_wp Try.func19 rfl hF ?_ hro
  simp only [Try.ntmps19, List.size_toArray, List.length_cons, List.length_nil, Nat.reduceAdd, Nat.reduceSub, Array.replicate_succ, Array.replicate_zero, List.push_toArray, List.append_toArray, List.nil_append, List.cons_append]
  gi_wp2
  go_ret
  exact ⟨by simp, rfl⟩
end Go.Proofs.Ythalhidebkhclaa
namespace Go.Proofs.Ythalhidebkhclaa
open Go.RowKit Go.Shelf Go.Proofs.Ty
set_option linter.unusedVariables false
set_option maxRecDepth 1000000
set_option linter.unusedSimpArgs false
attribute [local go_sem] Oper.semAt_some
theorem pc_nodefer (i : Nat) (o : Oper) (c : Call) (h : pcOps[i]? = some o) : o.op ≠ .defer c := fun e => by
  have hall : (pcOps.toList.all fun o => match o.op with | .defer _ => false | _ => true) = true := by kernel_rfl
  have := List.all_eq_true.1 hall o (Array.mem_toList_iff.2 (Array.mem_of_getElem? h))
  rw [e] at this
  cases this
/-- The values handed on. -/
def pcV (L : List Sl) (bp : Nat → Value) (k : Nat) : Array Value := #[.agg (L.getD k Sl.nul).arr, bp k]
theorem ld_yield {X : World} {q : Nat} {l : Nat} (h : X.heap[q]? = some (.cells #[.func (.yield l) #[] #[]] 93 (0, 0))) : (loadVar 93 ⟨q, 0, none⟩).run Try.prog X = .ok (.func (.yield l) #[] #[]) X := by
  have c : X.cell? ⟨q, 0, none⟩ = some (.func (.yield l) #[] #[]) := Lib.cell_of_heap h 0
  simp [go_sem, run_underlying Try.underlying93, c]
theorem ld_bytes {X : World} {q : Nat} {ab : Option Addr} {nb cb : Nat} (h : X.heap[q]? = some (.cells #[.slice ab nb cb] 24 (0, 0))) : (loadVar 24 ⟨q, 0, none⟩).run Try.prog X = .ok (.slice ab nb cb) X := by
  have c : X.cell? ⟨q, 0, none⟩ = some (.slice ab nb cb) := Lib.cell_of_heap h 0
  simp [go_sem, run_underlying Try.underlying24, c]
set_option maxRecDepth 100000 in
set_option maxHeartbeats 8000000 in
theorem pieces_seqN (Bs Bb : Nat) (ao ab : Option Addr) (N cap nb cb : Nat) (L : List Sl) (hN : L.length = N) (hL : L.length ≤ 8796093022000) (off : Nat → Nat) (bp : Nat → Value) (w : World)
    (hBs : w.heap[Bs]? = some (.cells #[.slice ao N cap] 23 (0, 0))) (hBb : w.heap[Bb]? = some (.cells #[.slice ab nb cb] 24 (0, 0))) (hWd : Wide 3 slC w (.slice ao N cap) L)
    (ho : ∀ k, k < N → en L (k + 1) = 8 * (off (k + 1) : Int) ∧ en L (k + 1) - (L.getD k Sl.nul).bt = 8 * (off k : Int) ∧ off k ≤ off (k + 1) ∧ off (k + 1) ≤ 8)
    (hbp : ∀ k, k < N → ∀ W, (Instr.sliceAt 24 (.slice ab nb cb) (some (.int .i64 (off k : Nat))) (some (.int .i64 (off (k + 1) : Nat))) none).run Try.prog W = .ok (bp k) W) :
    SeqN 36 #[.pointer (some ⟨Bs, 0, none⟩), .pointer (some ⟨Bb, 0, none⟩)] (pcV L bp) (bks Bb (.slice ao N cap) L.length) N w := by
  intro l J Jx W hW hJ hJx hY h0
  obtain ⟨q, hq⟩ : ∃ q, W.heap.size = q := ⟨_, rfl⟩
  obtain ⟨W1, hw1⟩ : ∃ x, W.alloc (.cells #[.func (.yield l) #[] #[]] 93) = x := ⟨_, rfl⟩
  obtain ⟨W2, hw2⟩ : ∃ x, W1.alloc (.cells #[.slice ao N cap] 23) = x := ⟨_, rfl⟩
  have s1 : W1.heap.size = q + 1 := by rw [← hw1, size_alloc, hq]
  have s2 : W2.heap.size = q + 2 := by rw [← hw2, size_alloc, s1]
  have b1 : Below W.heap.size W W1 := by rw [← hw1]; exact (Below.refl _ W).alloc (Nat.le_refl _) _
  have b2 : Below W1.heap.size W1 W2 := by rw [← hw2]; exact (Below.refl _ W1).alloc (Nat.le_refl _) _
  have hBsl := (Array.getElem?_eq_some_iff.1 hBs).1
  have hBbl := (Array.getElem?_eq_some_iff.1 hBb).1
  have hwW := hW.size
  have x1 : W1.heap[Bs]? = some (.cells #[.slice ao N cap] 23 (0, 0)) := (b1.block Bs (by omega)).trans ((hW.block Bs hBsl).trans hBs)
  have x2 : W2.heap[Bb]? = some (.cells #[.slice ab nb cb] 24 (0, 0)) := (b2.block Bb (by omega)).trans ((b1.block Bb (by omega)).trans ((hW.block Bb hBbl).trans hBb))
  have x3 : W2.heap[q]? = some (.cells #[.func (.yield l) #[] #[]] 93 (0, 0)) := (b2.block q (by omega)).trans (by rw [← hw1, ← hq]; exact heap_alloc_new W _)
  have x4 : W2.heap[q + 1]? = some (.cells #[.slice ao N cap] 23 (0, 0)) := by rw [← hw2, ← s1]; exact heap_alloc_new W1 _
  have c1 : W1.cell? ⟨Bs, 0, none⟩ = some (.slice ao N cap) := Lib.cell_of_heap x1 0
  have hWd2 : Wide 3 slC W2 (.slice ao N cap) L := ((hWd.same hW.size (fun b _ hl => hW.block b hl)).same b1.size (fun b _ hl => b1.block b hl)).same b2.size (fun b _ hl => b2.block b hl)
  have HOB : Hid (∀ b, (Value.slice ao N cap).ownBlock = some b → 0 < L.length → b < w.heap.size) := fun b hb h0 => by
    obtain ⟨ao', cap', he, _, hc⟩ := hWd
    injection he with he
    obtain ⟨b', off, ha, hlt, _⟩ := hc 0 h0
    rw [he, ha] at hb
    simp [Value.ownBlock] at hb
    show b < w.heap.size
    omega
  have j2 : J 0 W2 := by
    rw [← hw2]
    refine hJ.alloc _ ?_
    rw [← hw1]
    exact hJ.alloc _ h0
  have hseq := ends_seqN (q + 1) (.slice ao N cap) L hL W2 x4 hWd2
  rw [hN] at hseq
  have H2 : Hid (J 0 W2 ∧ W2.heap[q]? = some (.cells #[.func (.yield l) #[] #[]] 93 (0, 0)) ∧ W2.heap[Bb]? = some (.cells #[.slice ab nb cb] 24 (0, 0))) := ⟨j2, x3, x2⟩
  have HY := hidOf hY
  have HO := hidOf ho
  have HBP := hidOf hbp
  have HJ := hidOf hJ
  clear ho hbp hY h0 x1 x2 x3 x4 b1 b2 j2 hBs hBb hWd hWd2 hW
  refine callsIn_wide.2 ((callsIn_wide (n := 4)).1 ?_)
  refine callsIn_of_wp_marks Try.func36 rfl trivial ?_ rfl
  simp only [Try.ntmps36, List.size_toArray, List.length_cons, List.length_nil, Nat.reduceAdd, Nat.reduceSub, Array.replicate_succ, Array.replicate_zero, List.push_toArray, List.append_toArray, List.nil_append, List.cons_append]
  gi_wp2_with (refine ⟨trivial, ?_⟩; gi_at_call 27; refine (ends_in Fence.wide 3 trivial rfl ao N cap _).mono ?_; rintro e w' ⟨rfl, rfl⟩)
  have hBl : ∀ b ∈ bks (q + 1) (.slice ao N cap) N, b < q + 2 := fun b hb => by
    unfold bks at hb
    simp only [List.mem_cons] at hb
    rcases hb with rfl | hb
    · omega
    · split at hb
      · have := HOB.out b (by simpa using hb) (by omega)
        omega
      · cases hb
  refine rf_over (gf := 45) (lb := #[.pointer (some ⟨q + 1, 0, none⟩)]) rfl (enters_of Try.func45 (by kernel_rfl) rfl) hseq (fun _ => rfl) (fun b hb => by rw [s2]; exact hBl b hb)
    (fun k X => J k X ∧ X.heap[q]? = some (.cells #[.func (.yield l) #[] #[]] 93 (0, 0)) ∧ X.heap[Bb]? = some (.cells #[.slice ab nb cb] 24 (0, 0))) Jx ?hI ?hIx H2.out ?round ?done ?stop
  case hI =>
    rintro k A B row ⟨h1, h2, h3⟩ hg hr
    have hr2 := fun r e => (hr r e).2
    exact ⟨hJ k A B row h1 hg (fun r e => ⟨by have := (hr r e).1; omega, (hr r e).2⟩), (grown_cells h2 hg hr2).trans h2, (grown_cells h3 hg hr2).trans h3⟩
  case hIx => exact fun k A B row h hg hr => hJx k A B row h hg (fun r e => ⟨by have := (hr r e).1; omega, (hr r e).2⟩)
  case round =>
    rintro l' k X ⟨hj, hy, hb⟩ hk hl hlX
    obtain ⟨s, hs⟩ : ∃ s, L.getD k Sl.nul = s := ⟨_, rfl⟩
    obtain ⟨X1, hX1⟩ : ∃ x, X.alloc (.cells #[.int .u16 (s.ix : Int), .int .u8 (s.sb : Int), .int .i64 s.bt] 47) = x := ⟨_, rfl⟩
    have b9 : Below X.heap.size X X1 := by rw [← hX1]; exact (Below.refl _ _).alloc (Nat.le_refl _) _
    have hz : Sb X.heap.size s X1 := by rw [← hX1]; exact heap_alloc_new X _
    have hXs : q + 2 < X.heap.size := by omega
    refine ⟨fun a1 V => a1 = { tmps := #[.func (.yield l) #[] #[], .pointer (some ⟨Bs, 0, none⟩), .pointer (some ⟨Bb, 0, none⟩), .pointer (some ⟨q, 0, none⟩), .pointer (some ⟨X.heap.size, 0, none⟩), .int .i64 (en L (k + 1)), .slice ao N cap, .func (.func 45) #[] #[.pointer (some ⟨q + 1, 0, none⟩)], .agg s.arr, .int .i64 (en L (k + 1)), undef, undef, undef, undef, undef, undef, undef, undef, undef, undef, undef, undef, undef], defers := [] } ∧ V = X1, ?_, ?_⟩
    · have HF : Hid (Ka (bks (q + 1) (.slice ao N cap) N) W2.heap.size X X1) := Ka.below b9 (fun b hb => by have := hBl b hb; omega)
      simp only [enV]
      rw [hs]
      simp only [Sl.arr, slC]
      clear hz b9 hj hy hb
      gi_wp2
      refine ⟨HF.out, ?_, ?_⟩ <;> first | trivial | rfl
    · rintro a1 V Y ⟨rfl, hV⟩ ⟨r, r', hr, hYe⟩
      rw [hV] at hr hYe
      have sX1 : X1.heap.size = X.heap.size + 1 := by rw [← hX1, size_alloc]
      have sY : Y.heap.size = X.heap.size + 1 := by rw [hYe]; simpa [World.putObj] using sX1
      have jY : J k Y := by
        rw [hYe]
        exact hJ.putObj _ (by rw [← hX1]; exact hJ.alloc _ hj) (by omega) hr rfl
      have yY : Y.heap[q]? = some (.cells #[.func (.yield l) #[] #[]] 93 (0, 0)) := by rw [hYe]; exact (World.putObj_heap_other (by omega)).trans ((b9.block q (by omega)).trans hy)
      have bY : Y.heap[Bb]? = some (.cells #[.slice ab nb cb] 24 (0, 0)) := by rw [hYe]; exact (World.putObj_heap_other (by omega)).trans ((b9.block Bb (by omega)).trans hb)
      have zY : Sb X.heap.size s Y := by rw [hYe]; exact (World.putObj_heap_other (by omega)).trans hz
      obtain ⟨o1, o2, o3, o4⟩ := HO.out k hk
      rw [hs] at o2
      have yd := HY.out k Y.drew (hJ k Y Y.drew none jY ⟨rfl, rfl, rfl, Nat.le_refl _, fun _ _ _ => rfl⟩ (fun r e => by cases e)) hk
      unfold pcV at yd
      rw [hs] at yd
      refine wpIn_block (wpIn_seq (any_sound (ops := pcOps) pc_nodefer (by kernel_rfl) ?_))
      refine pc_any (q0 := q) (zz := X.heap.size) (Bb := Bb) (lo := off k) (hi := off (k + 1)) (e := en L (k + 1)) (s := s) (vb := .slice ab nb cb) (vp := bp k) (X := Y.drew) (ld_yield (show Y.drew.heap[q]? = _ from yY)) (Sb.load (show Y.drew.heap[X.heap.size]? = _ from zY)) (ld_bytes (show Y.drew.heap[Bb]? = _ from bY)) (load_int _ _ _ _ (Sb.c2 (show Y.drew.heap[X.heap.size]? = _ from zY))) o1 o2 o4 o3 (HBP.out k hk) (pc_leaf yd ?_) 11 false false false false false false false false false false false rfl (fun h => by cases h) (fun h => by cases h) (fun h => by cases h) (fun h => by cases h) (fun h => by cases h)
      rintro en W' (⟨rfl, hj', ka⟩ | ⟨rfl, hjx, ka⟩)
      · refine ⟨true, rfl, ?_⟩
        refine wpIn_cond_false rfl (wpIn_skip ?_)
        have ks := ka.size
        have sd : Y.drew.heap.size = X.heap.size + 1 := sY
        refine ⟨⟨fun b hb => ?_, ks, fun j h1 h2 => ka.new j (by omega) h2⟩, hj', (ka.new q (by omega) (by omega)).trans yY, (ka.old Bb (by unfold bks; simp)).trans bY⟩
        have hb2 := hBl b hb
        unfold bks at hb
        simp only [List.mem_cons] at hb
        rcases hb with rfl | hb
        · exact ka.new (q + 1) (by omega) (by omega)
        · refine ka.old b ?_
          unfold bks
          rw [hN]
          exact List.mem_cons_of_mem _ hb
      · refine ⟨false, rfl, ?_⟩
        refine wpIn_cond_true rfl (wpIn_ret ?_)
        exact ⟨⟨fun b hb => (by cases hb), ka.size, fun j h1 h2 => ka.new j (by omega) h2⟩, hjx⟩
  case done =>
    rintro D X hD ⟨hj, _, _⟩ hK
    gi_wp2
    refine ⟨by simp, .inl ⟨_, _, rfl, run_takeDeferred hK, ?_⟩⟩
    exact ⟨_, results_none rfl _ _ _, ⟨_, rfl⟩, .inl (hJ.putObj _ hj (by omega) hK rfl)⟩
  case stop =>
    rintro D k X hD hk hj hK
    gi_wp2
    refine ⟨by simp, .inl ⟨_, _, rfl, run_takeDeferred hK, ?_⟩⟩
    exact ⟨_, results_none rfl _ _ _, ⟨_, rfl⟩, .inr ⟨k, hk, hJx.putObj _ hj (by omega) hK rfl⟩⟩
end Go.Proofs.Ythalhidebkhclaa
