/- The law TopBits returns true for every value, every number and both bools, and leaves them as they were. -/
import Derived.Test.YtffajokpfobalaaTz1
import Derived.Test.YtffajokpfobalaaMathCut
import Derived.OrdersHeld
import Derived.Test.YtffajokpfobalaaOpen
import Derived.Test.YtffajokpfobalaaTyO
namespace Go.Proofs.Ytffajokpfobalaa
open Go.RowKit Go.Proofs.Bits Go.Proofs.Ty
set_option linter.unusedVariables false
set_option maxRecDepth 1000000
set_option linter.unusedSimpArgs false

theorem hidP {P : Prop} (h : P) : Hid P := h
theorem Fa.ldg {ops : Array Oper} {rest : List Oper} {o : Oper} {a : Act} {w : World} {Q : Exit → Act → World → Prop} {q : Nat} {f : Fr} (h : Fa q f w) (hgd : Region.wanted o (yielded ops a.tmps) = true) (x : Operand) (ho : o.op = .load 33 x) (hx : a.eval x = .pointer (some ⟨q, 0, none⟩))
    (hh : wpList Try.prog ops Q rest (a.put o.dst (.agg f.arr)) w) : wpList Try.prog ops Q (o :: rest) a w :=
  BigFrame.wpList_want hgd fun _ hK => wp_load_row 33 x ho q hx 33 f.arr (0, 0) _ h Try.underlying33 rfl (by rw [f.arr_size]; exact infoF) (hK _ _ hh)
theorem ack_dec (f : Fr) (h0 : f.chk = 0) : decV (f.bits true) = .tuple #[f.plain.val, .int .i64 (f.bits true).length, .int .i64 0] := by
  have hl := bits_length f true
  have hs := stuff_body_length f
  have := decV_behind f h0 [] rfl (by simp; omega)
  rw [List.append_nil] at this
  exact this
/-- A frame of so many bytes, the rest noughts. -/
def fk (id : Nat) (hid : id < 4294967296) (ext : Bool) (l : List UInt8) (h8 : l.length ≤ 8) (k : Nat) : Fr :=
  ⟨id, ext, false, l.length, l.take k ++ List.replicate (8 - (l.take k).length) 0, hid, by omega, by simp; omega⟩
section
variable {id : Nat} {hid : id < 4294967296} {ext : Bool} {l : List UInt8} {h8 : l.length ≤ 8}
theorem fk_step (k : Nat) (hk : k < l.length) : (fk id hid ext l h8 k).arr.setIfInBounds (4 + k) (.int .u8 l[k].toNat) = (fk id hid ext l h8 (k + 1)).arr := by
  have e1 : (l.take k).length = k := by rw [List.length_take]; omega
  have e2 : (l.take (k + 1)).length = k + 1 := by rw [List.length_take]; omega
  have e3 : 4 + k = k + 1 + 1 + 1 + 1 := by omega
  simp only [Fr.arr, Fr.cells, fk, e1, e2, List.setIfInBounds_toArray, e3, List.cons_append, List.nil_append, List.set_cons_succ]
  congr 5
  rw [List.map_append, List.map_append, List.set_append_right _ _ (by rw [List.length_map, e1]; omega), List.length_map, e1, Nat.sub_self, show 8 - k = (8 - (k + 1)) + 1 by omega, List.replicate_succ, List.map_cons, List.set_cons_zero, List.take_succ_eq_append_getElem hk]
  simp only [List.map_append, List.map_cons, List.map_nil, List.append_assoc, List.cons_append, List.nil_append]
theorem fk_chk (k j : Nat) : (fk id hid ext l h8 k).chk = (fk id hid ext l h8 j).chk := rfl
theorem fk_plain : (fk id hid ext l h8 l.length).plain = fk id hid ext l h8 l.length := by
  have e : (fk id hid ext l h8 l.length).bytes = l.length := by
    unfold Fr.bytes fk
    simp
    split
    · omega
    · split <;> omega
  unfold Fr.plain
  simp only [e]
  simp only [Fr.cut, fk, List.take_length, List.take_left]
end
theorem wpOp_run {ops : Array Oper} {Q : Exit → Act → World → Prop} {K : Act → World → Prop} {a : Act} {w : World} {i : Nat} {o : Oper} (hi : ops[i]? = some o) (hg : o.guard = none) (h : o.wp Try.prog a w K Q) : wpOp Try.prog ops Q i K a w := by
  unfold Go.wpOp
  simp only [hi]
  rw [if_pos (by simp [Region.wanted, hg])]
  exact .inl h
theorem wp_call_fn {o : Oper} {a : Act} {w : World} {K : Act → World → Prop} {Q : Exit → Act → World → Prop} (g : Nat) (args : Array Value) (hr : (execOp a.eval o).run Try.prog w = .ok (.enter g args) w)
    (h : Calls Try.prog g args w fun
      | .returned v, w'' => K (a.put o.dst v) w''
      | .panicked chain, w'' => Q (.panic chain) a w''
      | .outgrown, _ => LetsOut Q) : o.wp Try.prog a w K Q := by
  unfold Oper.wp
  rw [hr]
  exact h
theorem exec_load {a : Act} {o : Oper} {x : Operand} {ty : TypeId} {ad : Addr} {v : Value} {w : World} (ho : o.op = .load ty x) (hx : a.eval x = .pointer (some ad)) (hr : (loadVar ty ad).run Try.prog w = .ok v w) :
    (execOp a.eval o).run Try.prog w = .ok (.value v) w := by
  unfold execOp
  simp only [ho, hx, Instr.loadAt, Instr.sureAddr, Sem.run_bind, Sem.run_pure, Result.andThen_ok, hr]
theorem load_int (x : World) (D k : Nat) (z : Int) (hc : x.cell? ⟨D, k, none⟩ = some (.int .i64 z)) : (loadVar 3 ⟨D, k, none⟩).run Try.prog x = .ok (.int .i64 z) x := by
  simp [go_sem, run_underlying Try.underlying3, hc]
theorem enterDec : ∀ args x, (callFunc 9 args).run Try.prog x = .ok (.enter 9 args) x := fun _ _ => by rfl
theorem wp_alloc_val {o : Oper} {a : Act} {w : World} {K : Act → World → Prop} {Q : Exit → Act → World → Prop} (ho : o.op = .alloc 24) (h : K (a.put o.dst (.pointer (some ⟨w.heap.size, 0, none⟩))) (w.alloc (.cells Tv.Vl.nul.arr 24))) : o.wp Try.prog a w K Q := by
  have hr : (execOp a.eval o).run Try.prog w = .ok (.value (.pointer (some ⟨w.heap.size, 0, none⟩))) (w.alloc (.cells Tv.Vl.nul.arr 24)) := by
    unfold execOp
    simp [ho, go_sem]
    rfl
  unfold Oper.wp
  rw [hr]
  exact h
theorem slice_head (q n : Nat) (hn : n ≤ 8) (W : World) : (Instr.sliceAt 31 (.pointer (some ⟨q, 4, none⟩)) none (some (.int .i64 n)) none).run Try.prog W = .ok (.slice (some ⟨q, 4, none⟩) n 8) W := by
  have hal : Try.prog.arrayLen 31 = 8 := by simp [Program.arrayLen, Try.underlying31]
  rw [run_sliceAt_array_h W 31 ⟨q, 4, none⟩ (by simp [Program.arrayLen, Program.elem, Try.underlying31]) .i64 (n : Int) (by omega) (by rw [hal]; omega)]
  go_simp
theorem bytes_fk {id : Nat} {hid : id < 4294967296} {ext : Bool} {l : List UInt8} {h8 : l.length ≤ 8} {q : Nat} {w : World} (h : Fa q (fk id hid ext l h8 l.length) w) : Tv.Bytes w (.slice (some ⟨q, 4, none⟩) l.length 8) l := by
  refine ⟨some ⟨q, 4, none⟩, 8, rfl, (fun h => by cases h), fun k hk => ⟨q, 4, rfl, h.lt, ?_⟩⟩
  rw [Lib.cell_of_heap h, Fr.arrD _ k (by omega)]
  simp [fk, hk]
set_option maxHeartbeats 2000000 in
theorem sends_any (w : World) : Calls Try.prog 4 #[] w fun e w' => e = .returned (.bool true) ∧ Below w.heap.size w w' := by
  obtain ⟨f, hf⟩ : ∃ f : Fr, f = ⟨5, false, false, 1, [7, 0, 0, 0, 0, 0, 0, 0], by decide, by decide, rfl⟩ := ⟨_, rfl⟩
  have h0 : f.chk = 0 := by rw [hf]; rfl
  have hE := fEncode_any f true
  have hev : encV f true = f.bits true := by rw [encV, if_pos h0]
  rw [h0, hev] at hE
  have hD := Decode_any (f.bits true)
  have hp : f.plain = f := by rw [hf]; rfl
  rw [ack_dec f h0, hp] at hD
  have hfv : Value.agg #[.int .u32 5, .bool false, .bool false, .int .i64 1, .int .u8 7, .int .u8 0, .int .u8 0, .int .u8 0, .int .u8 0, .int .u8 0, .int .u8 0, .int .u8 0] = f.val := by rw [hf]; rfl
  have hid : f.id = 5 := by rw [hf]
  have hd0 : f.arr[4]? = some (.int .u8 7) := by rw [hf]; rfl
  generalize (⟨(f.bits true).toArray⟩ : ByteArray) = S at *
  generalize (f.bits true).length = L at *
  have HFV := hidP hfv
  clear hfv hf hev
  go_enter Try.func4, Try.ntmps4
  go_wp2_with fail
  rw [HFV.out]
  refine (hE _).mono ?_
  rintro e w1 ⟨rfl, b1⟩
  go_wp2_with fail
  refine (hD _).mono ?_
  rintro e w2 ⟨rfl, b2⟩
  have B2 := b1.trans (b2.mono b1.size)
  have gn := Fa.new w2 Fr.nul
  have g3 := gn.row f
  have B3 : Below w.heap.size w ((w2.alloc (.cells Fr.nul.arr 33)).setRow w2.heap.size f.arr) := below_row (B2.alloc B2.size _) B2.size (by rw [size_alloc]; have := B2.size; omega) _
  have c0 := g3.c0
  have c4 := (Lib.cell_of_heap g3 4).trans hd0
  rw [hid] at c0
  unfold Fr.val
  go_wp2_with (refine gn.sd f rfl _ _ rfl rfl rfl ?_)
  go_ret
  exact ⟨rfl, B3⟩
set_option maxHeartbeats 8000000 in
theorem tbits_walk (v : Tv.Vl) (id : Nat) (hid : id < 4294967296) (ext : Bool) (w : World) :
    Calls Try.prog 3 #[.agg v.arr, .int .u32 id, .bool ext] w fun e w' => e = .returned (.bool true) ∧ Below w.heap.size w w' := by
  have hSd := sends_any
  have hE := Tv.r7Encode_v v
  have hP7 := Tv.r7Plain_v v
  have HD := hidP (Tv.enc_dec v)
  have hD0 := fun x w => Tv.r7Decode_v v.t v.ht x v.enc w
  have hsame := Tv.vlB_same v.plain
  have fn := Tv.Va.new w v
  have bn : Below w.heap.size w (w.alloc (.cells v.arr 24)) := (Below.refl _ _).alloc (Nat.le_refl _) _
  have sn := size_alloc w (.cells v.arr 24)
  generalize v.chk = C at *
  generalize v.enc = l at *
  go_enter Try.func3, Try.ntmps3
  obtain ⟨q, hq⟩ : ∃ q, w.heap.size = q := ⟨_, rfl⟩
  go_upto_region 1 with fail
  go_wp2_with fail
  simp only [hq] at fn sn ⊢
  generalize w.alloc (.cells v.arr 24) = W0 at *
  refine (hSd _).mono ?_
  rintro e w1 ⟨rfl, b1⟩
  have f1 := fn.below b1
  have B1 := bn.trans (b1.mono (by omega))
  have s1 := b1.size
  clear fn bn b1
  go_wp2_with (refine f1.ld rfl _ rfl rfl ?_)
  refine (hE _).mono ?_
  rintro e w2 ⟨xb, rfl, hB2, b2⟩
  have f2 := f1.below b2
  have B2 := B1.trans (b2.mono (by omega))
  have s2 := b2.size
  clear f1 B1 b2 hE
  have hxb : ∃ ao cap, xb = .slice ao l.length cap := by obtain ⟨ao, cap, h, _⟩ := hB2; exact ⟨ao, cap, h⟩
  obtain ⟨ao, cap, rfl⟩ := hxb
  by_cases h0 : C = 0
  · subst h0
    by_cases h8 : l.length ≤ 8
    · have d8 : decide ((8 : Int) < (l.length : Int)) = false := decide_eq_false (by omega)
      obtain ⟨f, hf⟩ : ∃ f : Nat → Fr, f = fk id hid ext l h8 := ⟨_, rfl⟩
      have hF0 : Fa w2.heap.size (f 0) (w2.alloc (.cells #[.int .u32 id, .bool ext, .bool false, .int .i64 (l.length : Nat), .int .u8 0, .int .u8 0, .int .u8 0, .int .u8 0, .int .u8 0, .int .u8 0, .int .u8 0, .int .u8 0] 33)) := by rw [hf]; exact Fa.new w2 _
      have hstep : ∀ k (hk : k < l.length), (f k).arr.setIfInBounds (4 + k) (.int .u8 l[k].toNat) = (f (k + 1)).arr := by rw [hf]; exact fun k hk => fk_step k hk
      have hchk : ∀ k, (f k).chk = (f 0).chk := by rw [hf]; exact fun k => fk_chk k 0
      have hpl : (f l.length).plain = f l.length := by rw [hf]; exact fk_plain
      have HBy0 : ∀ p w, Fa p (f l.length) w → Tv.Bytes w (.slice (some ⟨p, 4, none⟩) l.length 8) l := by rw [hf]; exact fun p w h => bytes_fk h
      have HLen0 : ∀ p w, Fa p (f l.length) w → w.cell? ⟨p, 3, none⟩ = some (.int .i64 (l.length : Nat)) := by rw [hf]; exact fun p w h => Fa.c3 h
      have b3 : Below w2.heap.size w2 (w2.alloc (.cells #[.int .u32 id, .bool ext, .bool false, .int .i64 (l.length : Nat), .int .u8 0, .int .u8 0, .int .u8 0, .int .u8 0, .int .u8 0, .int .u8 0, .int .u8 0, .int .u8 0] 33)) := (Below.refl _ _).alloc (Nat.le_refl _) _
      have B3 := B2.trans (b3.mono (by omega))
      have hCf := fCheck_any (f 0)
      unfold Fr.val at hCf
      clear hf
      obtain ⟨e1, e2⟩ := HD.out rfl
      have hD := fun p w h => hD0 (.slice (some ⟨p, 4, none⟩) l.length 8) w (h : Tv.Bytes w (.slice (some ⟨p, 4, none⟩) l.length 8) l)
      rw [e1, e2] at hD
      clear hD0 HD e1 e2
      generalize (f 0).chk = C0 at *
      go_wp2_with (first | refine hF0.ldg rfl _ rfl rfl ?_)
      refine (hCf _).mono ?_
      rintro e w4 ⟨rfl, b4⟩
      have hF4 := (b4.block _ hF0.lt).trans hF0
      have hF4 : Fa w2.heap.size (f 0) w4 := hF4
      have k4 := b3.trans (b4.mono (by have := hF0.lt; omega))
      clear hF0 b3 b4 B3 hCf
      obtain ⟨pf, hpf⟩ : ∃ pf, w2.heap.size = pf := ⟨_, rfl⟩
      rw [hpf] at hF4
      simp only [hpf]
      by_cases hc0 : C0 = 0
      · subst hc0
        go_wp2_with fail
        go_loopw [10] (fun i wr => ∃ k : Nat, k ≤ l.length ∧ i = .int .i64 k ∧ Fa pf (f k) wr ∧ Below pf w2 wr) (fun i _ => l.length - (intOf i).toNat)
        case atStart => exact ⟨0, Nat.zero_le _, rfl, hF4, by rw [← hpf]; exact k4⟩
        case round =>
          obtain ⟨k, hk, rfl, hF, hb⟩ := hrel
          have hb2 : Below w2.heap.size w2 wr := by rw [hpf]; exact hb
          have hBr := hB2.below hb2
          have hlt := hF.lt
          by_cases hkl : k < l.length
          · obtain ⟨ao', cap', e', _, hcl⟩ := hBr
            obtain ⟨b, off, ha, hbl, hcell⟩ := hcl k hkl
            injection e' with e1' e2' e3'
            subst e1'
            subst ha
            have dk : decide ((k : Int) < (l.length : Int)) = true := decide_eq_true (by omega)
            have hk8 : (k : Int) < 8 := by omega
            have hc1 : wr.cell? ⟨pf, 4 + k, none⟩ = some (.int .u8 ((f k).data[k]'(by rw [(f k).hdata]; omega)).toNat) := (Lib.cell_of_heap hF (4 + k)).trans (Fr.arrD _ k (by omega))
            have hfz := hF.frozen (4 + k)
            have hF2 := hidP (show Fa pf (f (k + 1)) (wr.setCell ⟨pf, 4 + k, none⟩ (.int .u8 l[k].toNat)) by unfold Fa; rw [hF.set, hstep k hkl])
            have hb3 := hidP (hb.setCell (p := ⟨pf, 4 + k, none⟩) (Nat.le_refl _) (.int .u8 l[k].toNat))
            clear hb hF hcl e2' e3'
            go_wp2
            go_roundw
            case rel => exact ⟨k + 1, by omega, by go_num, hF2.out, hb3.out⟩
            case measure => simp [intOf]; omega
          · have dk : decide ((k : Int) < (l.length : Int)) = false := decide_eq_false (by omega)
            obtain rfl : k = l.length := by omega
            have f5 := f2.below hb2
            have B5 := B2.trans (hb2.mono (by omega))
            have s5 := hb2.size
            have hEn := fEncode_any (f l.length) true
            have hc' := hchk l.length
            have hev : encV (f l.length) true = (f l.length).bits true := by rw [encV, if_pos hc']
            have hDe := Decode_any ((f l.length).bits true)
            rw [ack_dec _ hc', hpl] at hDe
            rw [hc', hev] at hEn
            unfold Fr.val at hEn hDe
            clear hchk hpl hstep hev hc'
            generalize f l.length = F at *
            generalize (⟨(F.bits true).toArray⟩ : ByteArray) = St at *
            generalize (F.bits true).length = L at *
            clear hb hBr hF4 k4
            go_upto_region 11 with fail
            go_wp2_with (refine hF.ld rfl _ rfl rfl ?_)
            refine (hEn _).mono ?_
            rintro e w6 ⟨rfl, b6⟩
            have f6 := f5.below b6
            have B6 := B5.trans (b6.mono (by omega))
            have s6 := b6.size
            clear f5 B5 b6 hEn hF
            go_wp2_with fail
            refine (hDe _).mono ?_
            rintro e w7 ⟨rfl, b7⟩
            have f7 := f6.below b7
            have B7 := B6.trans (b7.mono (by omega))
            have s7 := b7.size
            obtain ⟨p, hp⟩ : ∃ p, w7.heap.size = p := ⟨_, rfl⟩
            have gn : Fa p Fr.nul (w7.alloc (.cells Fr.nul.arr 33)) := by rw [← hp]; exact Fa.new w7 Fr.nul
            have g8 := gn.row F
            have f8 : Tv.Va q v ((w7.alloc (.cells Fr.nul.arr 33)).setRow p F.arr) := (Tv.setRow_other _ _ _ _ (by omega)).trans (f7.alloc _)
            have B8 : Below w.heap.size w ((w7.alloc (.cells Fr.nul.arr 33)).setRow p F.arr) := below_row (B7.alloc (by omega) _) (by omega) (by rw [size_alloc]; omega) _
            have lp8 := g8.lt
            have c3 := HLen0 p _ g8
            have lq7 : q < p := by omega
            have lw7 : w.heap.size ≤ p := by omega
            have HBy := hidP (HBy0 p)
            have HLen := hidP (HLen0 p)
            clear f6 B6 b7 f7 B7 hDe HBy0 HLen0
            go_upto_region 13 with (refine gn.sd F rfl _ _ rfl rfl rfl ?_)
            generalize (w7.alloc (.cells Fr.nul.arr 33)).setRow p F.arr = w8 at *
            clear gn
            go_upto_region 15 with fail
            have hsl := slice_head p l.length h8
            refine wp_region_held (S := fun x => Tv.Va q v x ∧ Fa p F x) (by kernel_rfl) ?_
            obtain ⟨y, hy⟩ : ∃ y : World, { w8 with drawn := w8.drawn + 1 } = y := ⟨_, rfl⟩
            rw [hy]
            have S0 : Tv.Va q v y ∧ Fa p F y := by rw [← hy]; exact ⟨f8, g8⟩
            have B5 : Below w.heap.size w y := by rw [← hy]; exact ⟨B8.os, B8.tape, B8.output, B8.size, B8.block⟩
            have l5 : p < y.heap.size := S0.2.lt
            have HS2 : Hid (∀ x z : World, (Tv.Va q v x ∧ Fa p F x) → Below x.heap.size x z → (Tv.Va q v z ∧ Fa p F z)) := fun x z h hb => ⟨h.1.below hb, (hb.block _ h.2.lt).trans h.2⟩
            have HSA : Hid (∀ x : World, (Tv.Va q v x ∧ Fa p F x) → (Tv.Va q v (x.alloc (.cells Tv.Vl.nul.arr 24)) ∧ Fa p F (x.alloc (.cells Tv.Vl.nul.arr 24)))) := fun x h => ⟨h.1.alloc _, h.2.alloc _⟩
            have HSR : Hid (∀ (x : World) (g : Nat) (u : Tv.Vl), (Tv.Va q v x ∧ Fa p F x) → q ≠ g → p ≠ g → (Tv.Va q v (x.setRow g u.arr) ∧ Fa p F (x.setRow g u.arr))) := fun x g u h h1 h2 => ⟨(Tv.setRow_other _ _ _ _ h1).trans h.1, (Tv.setRow_other _ _ _ _ h2).trans h.2⟩
            clear hy f8 g8 B8 c3 lp8
            refine wpAnyH_take (i := 0) (v := (.pointer (some ⟨q, 0, none⟩))) rfl (by kernel_rfl) (by kernel_rfl) (by kernel_rfl) (fun _ _ _ h => h) (.inl ⟨rfl, fun _ hS => by simp [execOp, go_sem, Act.eval]⟩) S0 ?_
            simp only [List.getElem_toArray, List.getElem_cons_succ, List.getElem_cons_zero, Act.put, List.setIfInBounds_toArray, List.set_cons_succ, List.set_cons_zero]
            refine wpAnyH_take (i := 1) (v := (.int .i64 v.t)) rfl (by kernel_rfl) (by kernel_rfl) (by kernel_rfl) (fun _ _ _ h => h) (.inl ⟨rfl, fun _ hS => exec_load rfl rfl (load_int _ q 0 _ (Tv.Va.c0 hS.1))⟩) S0 ?_
            simp only [List.getElem_toArray, List.getElem_cons_succ, List.getElem_cons_zero, Act.put, List.setIfInBounds_toArray, List.set_cons_succ, List.set_cons_zero]
            refine wpAnyH_take (i := 2) (v := (.pointer (some ⟨p, 4, none⟩))) rfl (by kernel_rfl) (by kernel_rfl) (by kernel_rfl) (fun _ _ _ h => h) (.inl ⟨rfl, fun _ hS => by simp [execOp, go_sem, Act.eval]⟩) S0 ?_
            simp only [List.getElem_toArray, List.getElem_cons_succ, List.getElem_cons_zero, Act.put, List.setIfInBounds_toArray, List.set_cons_succ, List.set_cons_zero]
            refine wpAnyH_take (i := 3) (v := (.pointer (some ⟨p, 3, none⟩))) rfl (by kernel_rfl) (by kernel_rfl) (by kernel_rfl) (fun _ _ _ h => h) (.inl ⟨rfl, fun _ hS => by simp [execOp, go_sem, Act.eval]⟩) S0 ?_
            simp only [List.getElem_toArray, List.getElem_cons_succ, List.getElem_cons_zero, Act.put, List.setIfInBounds_toArray, List.set_cons_succ, List.set_cons_zero]
            refine wpAnyH_take (i := 4) (v := (.int .i64 (l.length : Nat))) rfl (by kernel_rfl) (by kernel_rfl) (by kernel_rfl) (fun _ _ _ h => h) (.inl ⟨rfl, fun _ hS => exec_load rfl rfl (load_int _ p 3 _ (HLen.out _ hS.2))⟩) S0 ?_
            simp only [List.getElem_toArray, List.getElem_cons_succ, List.getElem_cons_zero, Act.put, List.setIfInBounds_toArray, List.set_cons_succ, List.set_cons_zero]
            refine wpAnyH_take (i := 5) (v := (.slice (some ⟨p, 4, none⟩) l.length 8)) rfl (by kernel_rfl) (by kernel_rfl) (by kernel_rfl) (fun _ _ _ h => h) (.inl ⟨rfl, fun _ hS => by simp [execOp, go_sem, Act.eval, hsl]⟩) S0 ?_
            simp only [List.getElem_toArray, List.getElem_cons_succ, List.getElem_cons_zero, Act.put, List.setIfInBounds_toArray, List.set_cons_succ, List.set_cons_zero]
            refine wpAnyH_all (rs := [6, 10]) (by kernel_rfl) (by simp) ?_
            intro k hk
            simp only [List.mem_cons, List.mem_nil_iff, or_false] at hk
            rcases hk with rfl | rfl
            · refine wpOp_run rfl rfl (wp_call_fn 9 #[.int .i64 v.t, .slice (some ⟨p, 4, none⟩) l.length 8] (by simp [execOp, go_sem, Act.eval, resolve, invoke, enterDec]) ((hD _ _ (HBy.out _ S0.2)).mono ?_))
              rintro e w8 ⟨rfl, b8⟩
              have S1 := HS2.out _ _ S0 b8
              have B6 := B5.trans (b8.mono (by omega))
              have l6 := b8.size
              clear S0 b8 B5
              refine ⟨S1, ?_⟩
              simp only [List.getElem_toArray, List.getElem_cons_succ, List.getElem_cons_zero, Act.put, List.setIfInBounds_toArray, List.set_cons_succ, List.set_cons_zero]
              refine wpAnyH_take (i := 7) (v := (.tuple #[.agg v.plain.arr, .int .i64 0])) rfl (by kernel_rfl) (by kernel_rfl) (by kernel_rfl) (fun _ _ _ h => h) (.inl ⟨rfl, fun _ hS => rfl⟩) S1 ?_
              simp only [List.getElem_toArray, List.getElem_cons_succ, List.getElem_cons_zero, Act.put, List.setIfInBounds_toArray, List.set_cons_succ, List.set_cons_zero]
              refine wpAnyH_take (i := 8) (v := (.agg v.plain.arr)) rfl (by kernel_rfl) (by kernel_rfl) (by kernel_rfl) (fun _ _ _ h => h) (.inl ⟨rfl, fun _ hS => by simp [execOp, go_sem, Act.eval]⟩) S1 ?_
              simp only [List.getElem_toArray, List.getElem_cons_succ, List.getElem_cons_zero, Act.put, List.setIfInBounds_toArray, List.set_cons_succ, List.set_cons_zero]
              refine wpAnyH_take (i := 9) (v := (.int .i64 0)) rfl (by kernel_rfl) (by kernel_rfl) (by kernel_rfl) (fun _ _ _ h => h) (.inl ⟨rfl, fun _ hS => by simp [execOp, go_sem, Act.eval]⟩) S1 ?_
              simp only [List.getElem_toArray, List.getElem_cons_succ, List.getElem_cons_zero, Act.put, List.setIfInBounds_toArray, List.set_cons_succ, List.set_cons_zero]
              refine wpAnyH_all (rs := [10]) (by kernel_rfl) (by simp) ?_
              intro k hk
              simp only [List.mem_cons, List.mem_nil_iff, or_false] at hk
              subst hk
              refine wpOp_run rfl rfl (wp_alloc_val rfl ?_)
              have S2 := HSA.out _ S1
              have G2 := Tv.Va.new w8 Tv.Vl.nul
              have B7 : Below w.heap.size w (w8.alloc (.cells Tv.Vl.nul.arr 24)) := B6.alloc (by omega) _
              obtain ⟨gg, hgg⟩ : ∃ gg, w8.heap.size = gg := ⟨_, rfl⟩
              have lp := S1.2.lt
              have lq := S1.1.lt
              rw [hgg] at G2 lp lq ⊢
              have l7 := size_alloc w8 (.cells Tv.Vl.nul.arr 24)
              rw [hgg] at l7
              generalize w8.alloc (.cells Tv.Vl.nul.arr 24) = w9 at *
              clear S1 B6
              refine ⟨S2, ?_⟩
              simp only [List.getElem_toArray, List.getElem_cons_succ, List.getElem_cons_zero, Act.put, List.setIfInBounds_toArray, List.set_cons_succ, List.set_cons_zero]
              refine wpAnyH_all (rs := [11]) (by kernel_rfl) (by simp) ?_
              intro k hk
              simp only [List.mem_cons, List.mem_nil_iff, or_false] at hk
              subst hk
              refine wpOp_run rfl rfl (wp_store_row 24 _ _ rfl gg v.plain.arr rfl rfl 24 Tv.Vl.nul.arr G2 (by rw [Tv.Vl.arr_size]; exact Tv.infoV) (by rw [Tv.Vl.arr_size, Tv.Vl.arr_size]) v.plain.one ?_)
              have S3 := HSR.out _ gg v.plain S2 (by omega) (by omega)
              have G3 := Tv.Va.row G2 v.plain
              have B8 := Tv.below_row B7 (by omega : w.heap.size ≤ gg) (by omega) v.plain.arr
              have l8 := G3.lt
              generalize w9.setRow gg v.plain.arr = w10 at *
              clear S2 G2 B7
              refine ⟨S3, ?_⟩
              simp only [List.getElem_toArray, List.getElem_cons_succ, List.getElem_cons_zero, Act.put, List.setIfInBounds_toArray, List.set_cons_succ, List.set_cons_zero]
              refine wpAnyH_take (i := 12) (v := (.int .i64 0)) rfl (by kernel_rfl) (by kernel_rfl) (by kernel_rfl) (fun _ _ _ h => h) (.inl ⟨rfl, fun _ hS => rfl⟩) S3 ?_
              simp only [List.getElem_toArray, List.getElem_cons_succ, List.getElem_cons_zero, Act.put, List.setIfInBounds_toArray, List.set_cons_succ, List.set_cons_zero]
              refine wpAnyH_done (by kernel_rfl) ?_ _
              go_upto_region 16 with fail
              have hL5 := Tv.Later.some w10
              refine Tv.wp_region_later (by kernel_rfl) (by kernel_rfl) ?_
              repeat (go_big_quiet_step (fail))
              refine Tv.quiet_ldv G3 rfl _ rfl rfl ?_
              simp only [Act.put, List.setIfInBounds_toArray, List.set_cons_succ, List.set_cons_zero]
              refine Tv.quiet_ldv S3.1 rfl _ rfl rfl ?_
              simp only [Act.put, List.setIfInBounds_toArray, List.set_cons_succ, List.set_cons_zero]
              repeat (go_big_quiet_step (first | (go_at_call 10; with_reducible exact Tv.later (hP7 _))))
              refine Tv.quiet_eqv v.plain v.plain rfl _ _ rfl rfl rfl ?_
              simp only [Act.put, List.setIfInBounds_toArray, List.set_cons_succ, List.set_cons_zero]
              rw [hsame]
              repeat (go_big_quiet_step (fail))
              refine wpQuiet_nil ?_
              rintro _ ⟨z, rfl⟩
              have B9 := B8.trans (z.below.mono (by omega))
              go_wp2
              go_ret
              exact ⟨rfl, B9⟩
            · refine wpOp_run rfl rfl (wp_alloc_val rfl ?_)
              have S1 := HSA.out _ S0
              have G1 := Tv.Va.new y Tv.Vl.nul
              have B6 : Below w.heap.size w (y.alloc (.cells Tv.Vl.nul.arr 24)) := B5.alloc (by omega) _
              obtain ⟨gg, hgg⟩ : ∃ gg, y.heap.size = gg := ⟨_, rfl⟩
              have lp := S0.2.lt
              have lq := S0.1.lt
              rw [hgg] at G1 lp lq ⊢
              have l6 := size_alloc y (.cells Tv.Vl.nul.arr 24)
              rw [hgg] at l6
              generalize y.alloc (.cells Tv.Vl.nul.arr 24) = w8 at *
              clear S0 B5
              refine ⟨S1, ?_⟩
              simp only [List.getElem_toArray, List.getElem_cons_succ, List.getElem_cons_zero, Act.put, List.setIfInBounds_toArray, List.set_cons_succ, List.set_cons_zero]
              refine wpAnyH_all (rs := [6]) (by kernel_rfl) (by simp) ?_
              intro k hk
              simp only [List.mem_cons, List.mem_nil_iff, or_false] at hk
              subst hk
              refine wpOp_run rfl rfl (wp_call_fn 9 #[.int .i64 v.t, .slice (some ⟨p, 4, none⟩) l.length 8] (by simp [execOp, go_sem, Act.eval, resolve, invoke, enterDec]) ((hD _ _ (HBy.out _ S1.2)).mono ?_))
              rintro e w9 ⟨rfl, b9⟩
              have S2 := HS2.out _ _ S1 b9
              have G2 := Tv.Va.below G1 b9
              have B7 := B6.trans (b9.mono (by have := G1.lt; omega))
              have l7 : gg < w9.heap.size := G2.lt
              clear S1 b9 G1 B6
              refine ⟨S2, ?_⟩
              simp only [List.getElem_toArray, List.getElem_cons_succ, List.getElem_cons_zero, Act.put, List.setIfInBounds_toArray, List.set_cons_succ, List.set_cons_zero]
              refine wpAnyH_take (i := 7) (v := (.tuple #[.agg v.plain.arr, .int .i64 0])) rfl (by kernel_rfl) (by kernel_rfl) (by kernel_rfl) (fun _ _ _ h => h) (.inl ⟨rfl, fun _ hS => rfl⟩) S2 ?_
              simp only [List.getElem_toArray, List.getElem_cons_succ, List.getElem_cons_zero, Act.put, List.setIfInBounds_toArray, List.set_cons_succ, List.set_cons_zero]
              refine wpAnyH_take (i := 8) (v := (.agg v.plain.arr)) rfl (by kernel_rfl) (by kernel_rfl) (by kernel_rfl) (fun _ _ _ h => h) (.inl ⟨rfl, fun _ hS => by simp [execOp, go_sem, Act.eval]⟩) S2 ?_
              simp only [List.getElem_toArray, List.getElem_cons_succ, List.getElem_cons_zero, Act.put, List.setIfInBounds_toArray, List.set_cons_succ, List.set_cons_zero]
              refine wpAnyH_take (i := 9) (v := (.int .i64 0)) rfl (by kernel_rfl) (by kernel_rfl) (by kernel_rfl) (fun _ _ _ h => h) (.inl ⟨rfl, fun _ hS => by simp [execOp, go_sem, Act.eval]⟩) S2 ?_
              simp only [List.getElem_toArray, List.getElem_cons_succ, List.getElem_cons_zero, Act.put, List.setIfInBounds_toArray, List.set_cons_succ, List.set_cons_zero]
              refine wpAnyH_all (rs := [11]) (by kernel_rfl) (by simp) ?_
              intro k hk
              simp only [List.mem_cons, List.mem_nil_iff, or_false] at hk
              subst hk
              refine wpOp_run rfl rfl (wp_store_row 24 _ _ rfl gg v.plain.arr rfl rfl 24 Tv.Vl.nul.arr G2 (by rw [Tv.Vl.arr_size]; exact Tv.infoV) (by rw [Tv.Vl.arr_size, Tv.Vl.arr_size]) v.plain.one ?_)
              have S3 := HSR.out _ gg v.plain S2 (by omega) (by omega)
              have G3 := Tv.Va.row G2 v.plain
              have B8 := Tv.below_row B7 (by omega : w.heap.size ≤ gg) (by omega) v.plain.arr
              have l8 := G3.lt
              generalize w9.setRow gg v.plain.arr = w10 at *
              clear S2 G2 B7
              refine ⟨S3, ?_⟩
              simp only [List.getElem_toArray, List.getElem_cons_succ, List.getElem_cons_zero, Act.put, List.setIfInBounds_toArray, List.set_cons_succ, List.set_cons_zero]
              refine wpAnyH_take (i := 12) (v := (.int .i64 0)) rfl (by kernel_rfl) (by kernel_rfl) (by kernel_rfl) (fun _ _ _ h => h) (.inl ⟨rfl, fun _ hS => rfl⟩) S3 ?_
              simp only [List.getElem_toArray, List.getElem_cons_succ, List.getElem_cons_zero, Act.put, List.setIfInBounds_toArray, List.set_cons_succ, List.set_cons_zero]
              refine wpAnyH_done (by kernel_rfl) ?_ _
              go_upto_region 16 with fail
              have hL5 := Tv.Later.some w10
              refine Tv.wp_region_later (by kernel_rfl) (by kernel_rfl) ?_
              repeat (go_big_quiet_step (fail))
              refine Tv.quiet_ldv G3 rfl _ rfl rfl ?_
              simp only [Act.put, List.setIfInBounds_toArray, List.set_cons_succ, List.set_cons_zero]
              refine Tv.quiet_ldv S3.1 rfl _ rfl rfl ?_
              simp only [Act.put, List.setIfInBounds_toArray, List.set_cons_succ, List.set_cons_zero]
              repeat (go_big_quiet_step (first | (go_at_call 10; with_reducible exact Tv.later (hP7 _))))
              refine Tv.quiet_eqv v.plain v.plain rfl _ _ rfl rfl rfl ?_
              simp only [Act.put, List.setIfInBounds_toArray, List.set_cons_succ, List.set_cons_zero]
              rw [hsame]
              repeat (go_big_quiet_step (fail))
              refine wpQuiet_nil ?_
              rintro _ ⟨z, rfl⟩
              have B9 := B8.trans (z.below.mono (by omega))
              go_wp2
              go_ret
              exact ⟨rfl, B9⟩
      · have dc : (C0 != 0) = true := by simpa using hc0
        go_wp2
        go_ret
        exact ⟨rfl, B2.trans (k4.mono (by omega))⟩
    · have d8 : decide ((8 : Int) < (l.length : Int)) = true := decide_eq_true (by omega)
      go_wp2
      go_ret
      exact ⟨rfl, B2.alloc (by omega) _⟩
  · have d0 : ((C : Int) != 0) = true := by simpa using h0
    go_wp2
    go_ret
    exact ⟨rfl, B2.alloc (by omega) _⟩
end Go.Proofs.Ytffajokpfobalaa
namespace Go.Proofs.Ytffajokpfobalaa
open Go.ChangeShapes Go.WideShapes Go.ChangeAt Go.RowKit Go.Proofs.Ty
open Go.ChangeMaps (open_string shut_string)
set_option linter.unusedVariables false
set_option maxRecDepth 1000000

theorem tbits_int (v : Tv.Vl) (z : Int) (hz : (Lit.int .u32 z).wf = true) (b : Bool) (w : World) : Calls Try.prog 3 #[.agg v.arr, .int .u32 z, .bool b] w fun e w' => e = .returned (.bool true) ∧ Below w.heap.size w w' := by
  have hx : 0 ≤ z ∧ z ≤ 4294967295 := by simpa [Lit.wf, IntKind.min, IntKind.max, IntKind.signed, IntKind.bits] using hz
  obtain ⟨a, rfl⟩ := Int.eq_ofNat_of_zero_le hx.1
  exact tbits_walk v a (by omega) b w

set_option maxRecDepth 100000 in
theorem topBits_lifted (os : Os) (started : os.Started) (H : Type) (enc : TypeId × Value → H) :
    ReturnsInHanded {} Try.checked os 3 .any (Rows.topBitsSpec.pre6 enc Try.prog Try.f3 Rows.topBitsRow.domain false) (Rows.topBitsSpec.post enc Try.prog Try.f3 false true false false) := by
  refine returnsInHanded_of_change_sized (C := Try.checked) own started (by kernel_rfl) Try.func3
    (ChangeSpec.witness6 (enc := enc) (C := Try.checked) false ⟨#[], #[.agg #[.int .i64 0, .int .u64 0, .string ByteArray.empty], .int .u32 0, .bool false], []⟩ 8 (by kernel_rfl) (by kernel_rfl) (by kernel_rfl) (by kernel_rfl)) ?_
  intro W base args ds gs before hval0 hW hcnd hsz _
  have hval : ∀ (j : Nat) t v, Try.f3.params[j]? = some t → args[j]? = some v → Value.okWide Try.prog W .any base t v := hval0
  have hW' := hW
  obtain ⟨p, q, hA0, hV, rfl, hfz, hnd⟩ := hW
  have hA : DataW.TrodAll enc Try.prog W 0 (fun _ => true) true Try.f3.params.toList args.toList ds p := hA0
  rw [Try.params3] at hA hval hsz
  obtain ⟨v0, vs0, d0, ds0, p0, q0, hargs, rfl, rfl, h0, r0⟩ := trodAll_cons hA
  obtain ⟨v1, vs1, d1, ds1, p1, q1, rfl, rfl, rfl, h1, r1⟩ := trodAll_cons r0
  obtain ⟨v2, vs2, d2, ds2, p2, q2, rfl, rfl, rfl, h2, r2⟩ := trodAll_cons r1
  obtain ⟨rfl, rfl, rfl⟩ := trodAll_nil r2
  obtain rfl : args = #[v0, v1, v2] := by cases args; simp_all
  obtain ⟨rfl, rfl⟩ := trodVars_none hV
  have lt0 : ∀ x ∈ p0, x.block < W.heap.size := by obtain ⟨m, hm⟩ := h0; exact DataW.trod_lt m _ _ _ hm
  obtain ⟨a0, rfl⟩ := Tv.open_value (hval 0 24 v0 rfl rfl) h0
  obtain ⟨a1, rfl, rfl, rfl, w1⟩ := open_int Try.underlying25 (hval 1 25 v1 rfl rfl) h1
  obtain ⟨a2, rfl, rfl, rfl⟩ := open_bool Try.underlying4 (hval 2 4 v2 rfl rfl) h2
  clear hA0 hval0
  refine (tbits_int a0 a1 w1 a2 W).mono fun e W' ⟨he, bel⟩ => ?_
  subst he
  exact ⟨_, rfl, _, _, _, [], _, [], hW', trodAll_mk1 (shut_bool Try.underlying4 _), (trodAll_cons_mk (Below.trod laidOut (by kernel_rfl) (of_decide_eq_true (by kernel_rfl)) h0 bel lt0) (trodAll_cons_mk (shut_int Try.underlying25 w1) (trodAll_cons_mk (shut_bool Try.underlying4 a2) trodAll_mk0))), rfl, bel.frame _, fun h => by cases h⟩

theorem topBits_holds : Rows.TopBitsSaid :=
  OpenClaim.holds_of_wide 3 Try.f3 rfl rfl rfl rfl rfl rfl rfl ⟨rfl, rfl, rfl, rfl, rfl⟩ rfl rfl rfl rfl rfl (by kernel_rfl) Try.func3 (by kernel_rfl)
    (of_decide_eq_true (by kernel_rfl)) (by unfold Func.isWrapper; first | (rw [if_pos (by decide +kernel)]; kernel_rfl) | (rw [if_neg (by decide +kernel)]; exact ⟨rfl, rfl⟩))
    (fun os started H enc _ => topBits_lifted os started H enc)
end Go.Proofs.Ytffajokpfobalaa
