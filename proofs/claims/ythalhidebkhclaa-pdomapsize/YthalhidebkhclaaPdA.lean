/- Mappings: slots, plain; contracts: open, refused, valueOf, bytes.Equal. -/
import Derived.Test.YthalhidebkhclaaQ1
import Derived.Test.YthalhidebkhclaaP4
import Derived.Test.YthalhidebkhclaaTy5f
namespace Go.Proofs.Ythalhidebkhclaa
open Go.RowKit Go.Proofs.Ty Go.Sort Go.Lib
set_option linter.unusedVariables false
set_option maxRecDepth 1000000
set_option linter.unusedSimpArgs false
theorem ldG {w : World} {ops : Array Oper} {rest : List Oper} {p : Oper} {a : Act} {Q : Exit → Act → World → Prop} {ty : TypeId} {ad : Addr} {v : Value} (hr : (loadVar ty ad).run Try.prog w = .ok v w) (hgd : Region.wanted p (yielded ops a.tmps) = true) (x : Operand) (ho : p.op = .load ty x) (hx : a.eval x = .pointer (some ad))
    (hh : wpList Try.prog ops Q rest (a.put p.dst v) w) : wpList Try.prog ops Q (p :: rest) a w := by
  refine BigFrame.wpList_want hgd fun K hK => ?_
  unfold Oper.wp execOp
  simp only [ho, hx, Instr.loadAt, Instr.sureAddr, Sem.run_bind, Sem.run_pure, Result.andThen_ok, hr]
  exact hK _ _ hh
/-- A slot: a place, and how many bits. -/
structure Sl where
  ix : Nat
  sb : Nat
  bt : Int
  hx : ix < 65536
  hs : sb < 256
  hb : -9223372036854775808 ≤ bt ∧ bt < 9223372036854775808
def slC (s : Sl) : List Value := [.int .u16 s.ix, .int .u8 s.sb, .int .i64 s.bt]
def Sl.arr (s : Sl) : Array Value := (slC s).toArray
theorem infoSl : (Try.prog.info? 47).map (·.size) = some 3 := by kernel_rfl
theorem Sl.one (s : Sl) : (s.arr.all fun x => x.oneCell') = true := by simp [Sl.arr, slC, Value.oneCell']
def DS : Dec Sl := ⟨slC, 3, by decide, fun _ => rfl, fun s u hu => by
  simp [slC] at hu
  rcases hu with rfl | rfl | rfl <;> rfl⟩
/-- A slot in a block of its own. -/
def Sb (q : Nat) (s : Sl) (w : World) : Prop := w.heap[q]? = some (.cells s.arr 47 (0, 0))
section
variable {q : Nat} {s : Sl} {w x : World}
theorem Sb.lt (h : Sb q s w) : q < w.heap.size := (Array.getElem?_eq_some_iff.1 h).1
theorem Sb.new (w : World) (s : Sl) : Sb w.heap.size s (w.alloc (.cells s.arr 47)) := heap_alloc_new w _
theorem Sb.below (h : Sb q s w) (hb : Below w.heap.size w x) : Sb q s x := (hb.block q h.lt).trans h
theorem Sb.c0 (h : Sb q s w) : w.cell? ⟨q, 0, none⟩ = some (.int .u16 s.ix) := Lib.cell_of_heap h 0
theorem Sb.c1 (h : Sb q s w) : w.cell? ⟨q, 1, none⟩ = some (.int .u8 s.sb) := Lib.cell_of_heap h 1
theorem Sb.c2 (h : Sb q s w) : w.cell? ⟨q, 2, none⟩ = some (.int .i64 s.bt) := Lib.cell_of_heap h 2
theorem Sb.load (h : Sb q s w) : (loadVar 47 ⟨q, 0, none⟩).run Try.prog w = .ok (.agg s.arr) w :=
  run_loadVar_row w q 47 47 s.arr (0, 0) _ h Try.underlying47 rfl infoSl
end
/-- Whether an entry of such access may be put in, or told. -/
def opn (ac : Int) (inn : Bool) : Bool := if inn then decide (ac = 2 ∨ ac = 1) else decide (ac ≠ 1)
theorem open13_any (ac : Int) (inn : Bool) (w : World) : Calls Try.prog 55 #[.int .i64 ac, .bool inn] w fun e w' => e = .returned (.bool (opn ac inn)) ∧ w' = w := by
  cases inn with
  | true =>
    by_cases h2 : ac = 2
    · have d : (ac == 2) = true := by simp; omega
      have e : opn ac true = true := by simp [opn, h2]
      rw [e]
      clear h2 e
      go_enter Try.func55, Try.ntmps55
      go_wp2
      go_ret
      exact ⟨rfl, rfl⟩
    · have d : (ac == 2) = false := by simp; omega
      have e : opn ac true = (ac == 1) := by rw [Bool.eq_iff_iff]; simp [opn, h2]
      rw [e]
      clear h2 e
      go_enter Try.func55, Try.ntmps55
      go_wp2
      go_ret
      exact ⟨rfl, rfl⟩
  | false =>
    have e : opn ac false = (ac != 1) := by rw [Bool.eq_iff_iff]; simp [opn]
    rw [e]
    clear e
    go_enter Try.func55, Try.ntmps55
    go_wp2
    go_ret
    exact ⟨rfl, rfl⟩
def zE14 : Array Value := #[.int .u16 0, .int .u8 0, .int .i64 0, .bool false, .bool false, .int .i64 0, .int .u64 0, .string ⟨#[]⟩, .int .i64 0, .int .u64 0, .string ⟨#[]⟩, .int .i64 0, .int .u64 0, .string ⟨#[]⟩]
def En.nul : En := ⟨0, 0, 0, false, false, Vl.nul, Vl.nul, Vl.nul, by decide, by decide, by decide⟩
/-- What Entry tells. -/
def entO (its : List Im) (ix sb : Nat) : En × Bool := match fnd its ix sb with
  | none => (En.nul, false)
  | some i => (i.e, true)
set_option maxHeartbeats 4000000 in
theorem Entry_any {D R : Nat} {its : List Im} {w : World} (h : Dct D R its w) (ix sb : Nat) (h1 : ix < 65536) (h2 : sb < 256) :
    Calls Try.prog 54 #[.pointer (some ⟨D, 0, none⟩), .int .u16 (ix : Int), .int .u8 (sb : Int)] w fun e w' => e = .returned (.tuple #[.agg (entO its ix sb).1.arr, .bool (entO its ix sb).2]) ∧ Below w.heap.size w w' := by
  cases hf : fnd its ix sb with
  | some i =>
    have e : entO its ix sb = (i.e, true) := by unfold entO; rw [hf]
    rw [e]
    exact Entry_some h ix sb h1 h2 hf
  | none =>
    have e : entO its ix sb = (En.nul, false) := by unfold entO; rw [hf]
    rw [e]
    show Calls Try.prog 54 #[.pointer (some ⟨D, 0, none⟩), .int .u16 (ix : Int), .int .u8 (sb : Int)] w fun e w' => e = .returned (.tuple #[.agg En.nul.arr, .bool false]) ∧ Below w.heap.size w w'
    obtain ⟨q, hq⟩ : ∃ q, w.heap.size = q := ⟨_, rfl⟩
    have hh : (w.alloc (.cells zE14 59)).heap[q]? = some (.cells zE14 59 (0, 0)) := by rw [← hq]; exact heap_alloc_new w _
    have bA : Below w.heap.size w (w.alloc (.cells zE14 59)) := (Below.refl _ _).alloc (Nat.le_refl _) _
    have h0 := h.below bA
    have hF := find_none h0 ix sb h1 h2 hf
    have d1 : ((noc its ix : Int) != 0) = true := by have := noc_ne its ix; simp; omega
    have s0 := bA.size
    generalize noc its ix = C at *
    clear h h0 hf e
    go_enter Try.func54, Try.ntmps54
    go_upto_region 1 with fail
    change Code.wp Try.prog _ _ _ (w.alloc (.cells zE14 59))
    generalize (w.alloc (.cells zE14 59)) = W at *
    try simp only [hq]
    go_wp2_with fail
    refine hF.mono ?_
    rintro e w1 ⟨rfl, b1⟩
    have hh1 : w1.heap[q]? = some (.cells zE14 59 (0, 0)) := (b1.block q (Array.getElem?_eq_some_iff.1 hh).1).trans hh
    have B1 := bA.trans (b1.mono s0)
    have hE := Eb.row hh1 En.nul
    have B2 := below_row B1 (by omega) B1.size (q := q) En.nul.arr
    clear hF bA b1 B1 hh
    go_wp2_with (first | (refine sdE hh1 rfl En.nul rfl _ _ rfl rfl rfl ?_))
    exact bodyPost_ret (ent_results hE _ rfl rfl) rfl ⟨rfl, by first | exact B2 | (rw [← hq] at B2 ⊢; exact B2)⟩
/-- The code by which a slot can't be. -/
def refC (its : List Im) (s : Sl) (inn : Bool) : Nat := match fnd its s.ix s.sb with
  | none => wc its s.ix s.sb []
  | some i => if i.e.mp = false ∨ s.bt ≠ (siz i.e.df.t : Int) * 8 ∨ opn i.e.ac inn = false then 100925505 else 0
section
variable {D R : Nat} {its : List Im} {w : World}
set_option maxHeartbeats 4000000 in
theorem refused_any (h : Dct D R its w) (s : Sl) (inn : Bool) : Calls Try.prog 35 #[.pointer (some ⟨D, 0, none⟩), .agg s.arr, .bool inn] w fun e w' => e = .returned (.int .u32 (refC its s inn : Nat)) ∧ Below w.heap.size w w' := by
  obtain ⟨q, hq⟩ : ∃ q, w.heap.size = q := ⟨_, rfl⟩
  obtain ⟨V, hV⟩ : ∃ V, w.alloc (.cells s.arr 47) = V := ⟨_, rfl⟩
  have b0 : Below w.heap.size w V := by rw [← hV]; exact (Below.refl _ _).alloc (Nat.le_refl _) _
  have s0 : Sb q s V := by rw [← hV, ← hq]; exact Sb.new w s
  have hE := Entry_any (h.below b0) s.ix s.sb s.hx s.hs
  have HD : Hid (∀ y, Below V.heap.size V y → Dct D R its y) := fun y hy => (h.below b0).below hy
  have HS : Hid (∀ y, Below V.heap.size V y → Sb q s y) := fun y hy => s0.below hy
  have y0 := s0.c0
  have y1 := s0.c1
  obtain ⟨RC, hRC⟩ : ∃ c, refC its s inn = c := ⟨_, rfl⟩
  rw [hRC]
  have HRC := hidOf2 hRC
  clear hRC
  obtain ⟨en, hen⟩ : ∃ e, (entO its s.ix s.sb).1 = e := ⟨_, rfl⟩
  obtain ⟨is, his⟩ : ∃ e, (entO its s.ix s.sb).2 = e := ⟨_, rfl⟩
  rw [hen, his] at hE
  have HEN := hidOf2 hen
  have HIS := hidOf2 his
  have hix := s.hx
  have hsb := s.hs
  have HB0 := hidOf2 b0
  have HX : Hid (∀ y z, Below V.heap.size V y → y.heap.size = z → ∀ Z, Z = (y.alloc (.cells zE14 59)).setRow z en.arr → Eb z en Z ∧ Below V.heap.size V Z) := fun y z hy hz Z hZ => by
    subst hz hZ
    have hn : (y.alloc (.cells zE14 59)).heap[y.heap.size]? = some (.cells zE14 59 (0, 0)) := heap_alloc_new y _
    exact ⟨Eb.row hn en, below_row (hy.alloc hy.size _) hy.size (by rw [size_alloc]; have := hy.size; omega) _⟩
  clear hen his b0 s0 h
  go_enter Try.func35, Try.ntmps35
  go_upto_region 2 with (first | (go_at_call 54; refine hE.mono ?_; rintro e w1 ⟨rfl, b1⟩; obtain ⟨z, hz⟩ : ∃ z, w1.heap.size = z := ⟨_, rfl⟩; have hn : (w1.alloc (.cells zE14 59)).heap[z]? = some (.cells zE14 59 (0, 0)) := by { rw [← hz]; exact heap_alloc_new w1 _ }) | (refine sdE hn rfl en rfl _ _ rfl rfl rfl ?_))
  change Code.wp Try.prog _ _ _ ((w1.alloc (.cells zE14 59)).setRow z en.arr)
  obtain ⟨X, hX⟩ : ∃ X, (w1.alloc (.cells zE14 59)).setRow z en.arr = X := ⟨_, rfl⟩
  rw [hX]
  obtain ⟨eX, bX⟩ := HX.out w1 z b1 hz X hX.symm
  have sX := HS.out X bX
  have y0 := sX.c0
  have y1 := sX.c1
  have y2 := sX.c2
  have dX := HD.out X bX
  have BX := HB0.out.trans (bX.mono HB0.out.size)
  have HBX := hidOf2 BX
  clear hn hX HX hE b1 hz bX sX HS HD BX
  cases hf : fnd its s.ix s.sb with
  | none =>
    have e1 : entO its s.ix s.sb = (En.nul, false) := by unfold entO; rw [hf]
    have e2 : is = false := by rw [← HIS.out, e1]
    have HE3 : Hid (RC = wc its s.ix s.sb []) := by show _ = _; rw [← HRC.out]; unfold refC; rw [hf]
    subst e2
    have hM := May_any dX s.ix s.sb s.hx s.hs (.slice none 0 0) [] (Bytes.nil _)
    clear e1 hf dX HEN HIS eX
    go_wp2_with (first | (go_at_call 20; refine hM.mono ?_; rintro e w2 ⟨rfl, b2⟩))
    go_ret
    exact ⟨ret_int (by rw [HE3.out]), HBX.out.trans (b2.mono HBX.out.size)⟩
  | some i =>
    have e1 : entO its s.ix s.sb = (i.e, true) := by unfold entO; rw [hf]
    have e2 : is = true := by rw [← HIS.out, e1]
    have e4 : en = i.e := by rw [← HEN.out, e1]
    have HE3 : Hid (RC = if i.e.mp = false ∨ s.bt ≠ (siz i.e.df.t : Int) * 8 ∨ opn i.e.ac inn = false then 100925505 else 0) := by show _ = _; rw [← HRC.out]; unfold refC; rw [hf]
    subst e2
    rw [e4] at eX
    obtain ⟨_, _, c2, c3, _, c11⟩ := eX.c
    have hSz := Size_any i.e.df.t
    have hOp := open13_any i.e.ac inn
    have hsz : siz i.e.df.t ≤ 8 := by unfold siz; split; omega; split; omega; split; omega; split <;> omega
    clear HRC
    generalize siz i.e.df.t = sz at *
    generalize opn i.e.ac inn = op at *
    generalize i.e.mp = mp at *
    clear e1 e4 hf dX HEN HIS eX
    cases mp with
    | false =>
      have e5 : RC = 100925505 := by rw [HE3.out, if_pos (.inl rfl)]
      subst e5
      clear HE3
      go_wp2_with (first | (go_at_call 52; refine (hSz _).mono ?_; rintro e w2 ⟨rfl, hw2⟩; rw [hw2]; clear hw2 w2))
      go_ret
      exact ⟨rfl, HBX.out⟩
    | true =>
      by_cases hb : s.bt = (sz : Int) * 8
      · have d1 : (s.bt != (sz : Int) * 8) = false := by simp; omega
        cases op with
        | true =>
          have e5 : RC = 0 := by rw [HE3.out, if_neg (by simp [hb])]
          subst e5
          clear HE3 hb
          go_wp2_with (first | (go_at_call 52; refine (hSz _).mono ?_; rintro e w2 ⟨rfl, hw2⟩; rw [hw2]; clear hw2 w2) | (go_at_call 55; refine (hOp _).mono ?_; rintro e w2 ⟨rfl, hw2⟩; rw [hw2]; clear hw2 w2))
          go_ret
          exact ⟨rfl, HBX.out⟩
        | false =>
          have e5 : RC = 100925505 := by rw [HE3.out, if_pos (.inr (.inr rfl))]
          subst e5
          clear HE3 hb
          go_wp2_with (first | (go_at_call 52; refine (hSz _).mono ?_; rintro e w2 ⟨rfl, hw2⟩; rw [hw2]; clear hw2 w2) | (go_at_call 55; refine (hOp _).mono ?_; rintro e w2 ⟨rfl, hw2⟩; rw [hw2]; clear hw2 w2))
          go_ret
          exact ⟨rfl, HBX.out⟩
      · have d1 : (s.bt != (sz : Int) * 8) = true := by simp; omega
        have e5 : RC = 100925505 := by rw [HE3.out, if_pos (.inr (.inl hb))]
        subst e5
        clear HE3 hb
        go_wp2_with (first | (go_at_call 52; refine (hSz _).mono ?_; rintro e w2 ⟨rfl, hw2⟩; rw [hw2]; clear hw2 w2))
        go_ret
        exact ⟨rfl, HBX.out⟩
set_option maxHeartbeats 4000000 in
theorem valueOf_any (h : Dct D R its w) (s : Sl) : Calls Try.prog 22 #[.pointer (some ⟨D, 0, none⟩), .agg s.arr] w fun e w' => ∃ x, e = .returned x ∧ Bytes w' x (getV its s.ix s.sb).enc ∧ Below w.heap.size w w' ∧ (∀ b, x.ownBlock = some b → w.heap.size ≤ b) := by
  obtain ⟨q, hq⟩ : ∃ q, w.heap.size = q := ⟨_, rfl⟩
  obtain ⟨V, hV⟩ : ∃ V, w.alloc (.cells s.arr 47) = V := ⟨_, rfl⟩
  have b0 : Below w.heap.size w V := by rw [← hV]; exact (Below.refl _ _).alloc (Nat.le_refl _) _
  have s0 : Sb q s V := by rw [← hV, ← hq]; exact Sb.new w s
  have hG := Get_any (h.below b0) s.ix s.sb s.hx s.hs
  have y0 := s0.c0
  have y1 := s0.c1
  have HB0 := hidOf2 b0
  obtain ⟨gv, hgv⟩ : ∃ v, getV its s.ix s.sb = v := ⟨_, rfl⟩
  obtain ⟨ge, hge⟩ : ∃ v, getE its s.ix s.sb = v := ⟨_, rfl⟩
  rw [hgv, hge] at hG
  rw [hgv]
  have hix := s.hx
  have hsb := s.hs
  clear hgv hge b0 s0 h
  go_enter Try.func22, Try.ntmps22
  go_upto_region 2 with (first | (go_at_call 12; refine hG.mono ?_; rintro e w1 ⟨rfl, b1⟩; obtain ⟨z, hz⟩ : ∃ z, w1.heap.size = z := ⟨_, rfl⟩; have g0 : Va z Vl.nul (w1.alloc (.cells #[.int .i64 0, .int .u64 0, .string ⟨#[]⟩] 42)) := hz ▸ Va.new w1 Vl.nul) | (refine g0.sd gv rfl _ _ rfl rfl rfl ?_))
  change Code.wp Try.prog _ _ _ ((w1.alloc (.cells #[.int .i64 0, .int .u64 0, .string ⟨#[]⟩] 42)).setRow z gv.arr)
  obtain ⟨X, hX⟩ : ∃ X, (w1.alloc (.cells #[.int .i64 0, .int .u64 0, .string ⟨#[]⟩] 42)).setRow z gv.arr = X := ⟨_, rfl⟩
  rw [hX]
  have gX : Va z gv X := by rw [← hX]; exact g0.row gv
  have bX : Below V.heap.size V X := by rw [← hX]; exact below_row (b1.alloc b1.size _) (by rw [← hz]; exact b1.size) (by rw [size_alloc]; have := b1.size; omega) _
  have hEn := Encode_f gv X
  have HBX := hidOf2 (HB0.out.trans (bX.mono HB0.out.size))
  have lX := gX.load
  clear hX g0 bX b1 hz hG gX
  go_wp2_with (first | (refine ldG lX rfl _ rfl rfl ?_) | (go_at_call 38; refine hEn.mono ?_; rintro e w2 ⟨xv, rfl, hB, b2, hO⟩; have HBY := hidOf2 hB; have HB2 := hidOf2 b2; have HO2 := hidOf2 hO; clear hB b2 hO))
  go_ret
  exact ⟨xv, rfl, HBY.out, HBX.out.trans (HB2.out.mono HBX.out.size), fun b hb => Nat.le_trans HBX.out.size (HO2.out b hb)⟩
theorem Equal_any (v u : Value) (l m : List UInt8) (w : World) (h1 : Bytes w v l) (h2 : Bytes w u m) : Calls Try.prog 26 #[v, u] w fun e w' => e = .returned (.bool (decide (l = m))) ∧ w' = w := by
  have t1 := Bytes.text h1
  have t2 := Bytes.text h2
  obtain ⟨av, cv, rfl⟩ := bytes_shape h1
  obtain ⟨au, cu, rfl⟩ := bytes_shape h2
  clear h1 h2
  go_enter Try.func26, Try.ntmps26
  go_wp2
  go_ret
  exact ⟨ret_bool (by rw [Bool.eq_iff_iff]; simp), rfl⟩
end
end Go.Proofs.Ythalhidebkhclaa
