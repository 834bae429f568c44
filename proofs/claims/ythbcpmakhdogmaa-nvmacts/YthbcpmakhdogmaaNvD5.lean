/- The program's chip and the document's in one world; a call upon both. -/
import Derived.Test.YthbcpmakhdogmaaNvD4
namespace Go.Proofs.Ythbcpmakhdogmaa
open Go.RowKit Go.Shelf Go.Proofs.Ty Go.Proofs.Nv Go.Proofs.Bits
set_option linter.unusedVariables false
set_option maxRecDepth 1000000
set_option linter.unusedSimpArgs false
/-- Both chips, made since w. -/
structure Jn (w : World) (C P D Q : Nat) (c d : Ch) (W : World) : Prop where
  a : Cm C P c W
  b : Dm D Q d W
  old : Below w.heap.size w W
  c1 : w.heap.size ≤ C
  p1 : w.heap.size ≤ P
  d1 : w.heap.size ≤ D
  q1 : w.heap.size ≤ Q
  n1 : C ≠ D
  n2 : C ≠ Q
  n3 : P ≠ D
  n4 : P ≠ Q
section
variable {w W W' : World} {C P D Q : Nat} {c d c' d' : Ch}
theorem Dm.two {g k : Nat} {w' : World} (h : Dm C P c w) (t : Two g k w w') (h1 : C ≠ g) (h2 : C ≠ k) (h3 : P ≠ g) (h4 : P ≠ k) : Dm C P c w' := h.kept (t.block C h.lt h1 h2) (t.block P h.ltP h3 h4)
theorem below_two (h : Below w.heap.size w W) (t : Two C P W W') (c1 : w.heap.size ≤ C) (p1 : w.heap.size ≤ P) : Below w.heap.size w W' :=
  ⟨t.os.trans h.os, t.tape.trans h.tape, t.output.trans h.output, Nat.le_trans h.size t.size, fun k hk => (t.block k (Nat.lt_of_lt_of_le hk h.size) (by omega) (by omega)).trans (h.block k hk)⟩
theorem Jn.left (h : Jn w C P D Q c d W) (hc : Cm C P c' W') (t : Two C P W W') : Jn w C P D Q c' d W' :=
  ⟨hc, h.b.two t h.n1.symm h.n3.symm h.n2.symm h.n4.symm, below_two h.old t h.c1 h.p1, h.c1, h.p1, h.d1, h.q1, h.n1, h.n2, h.n3, h.n4⟩
theorem Jn.right (h : Jn w C P D Q c d W) (hc : Dm D Q d' W') (t : Two D Q W W') : Jn w C P D Q c d' W' :=
  ⟨h.a.two t h.n1 h.n2 h.n3 h.n4, hc, below_two h.old t h.d1 h.q1, h.c1, h.p1, h.d1, h.q1, h.n1, h.n2, h.n3, h.n4⟩
theorem Jn.below (h : Jn w C P D Q c d W) (b : Below W.heap.size W W') : Jn w C P D Q c d W' :=
  ⟨h.a.below b, h.b.below b, h.old.trans (b.mono h.old.size), h.c1, h.p1, h.d1, h.q1, h.n1, h.n2, h.n3, h.n4⟩
theorem Jn.draw (h : Jn w C P D Q c d W) : Jn w C P D Q c d { W with drawn := W.drawn + 1 } :=
  ⟨⟨h.a.head, h.a.pages, h.a.ok⟩, ⟨h.b.head, h.b.pages, h.b.ok⟩, ⟨h.old.os, h.old.tape, h.old.output, h.old.size, h.old.block⟩, h.c1, h.p1, h.d1, h.q1, h.n1, h.n2, h.n3, h.n4⟩
/-- Bytes that came in stay whatever the chips do. -/
theorem Bytes.came {v : Value} {l : List UInt8} {x y : World} (h0 : Bytes w v l) (h : Bytes x v l) (c1 : w.heap.size ≤ C) (p1 : w.heap.size ≤ P) (t : Two C P x y) : Bytes y v l := by
  obtain ⟨ao, cap, hv, h1, hc⟩ := h
  obtain ⟨ao', cap', hv', _, hc'⟩ := h0
  refine ⟨ao, cap, hv, h1, fun k hk => ?_⟩
  obtain ⟨b, off, ha, hlt, hcell⟩ := hc k hk
  obtain ⟨b', off', ha', hlt', _⟩ := hc' k hk
  rw [hv] at hv'
  injection hv' with e1 _ _
  rw [ha, ha'] at e1
  injection e1 with e1
  injection e1 with e1 _ _
  refine ⟨b, off, ha, Nat.lt_of_lt_of_le hlt t.size, ?_⟩
  rw [← hcell]
  simp only [World.cell?, t.block b hlt (by omega) (by omega)]
/-- A call to be made. -/
structure A9 where
  kd : Int
  pg : Int
  n : Int
  p : List UInt8
  v : Value
  l : List UInt8
def A9.cells (a : A9) : List Value := .int .i64 a.kd :: .int .i64 a.pg :: .int .i64 a.n :: (byC a.p ++ [a.v])
structure A9.ok (w : World) (a : A9) : Prop where
  pg0 : -9223372036854775808 ≤ a.pg
  pg1 : a.pg < 9223372036854775808
  n0 : -9223372036854775808 ≤ a.n
  n1 : a.n < 9223372036854775808
  p8 : a.p.length = 8
  by' : Bytes w a.v a.l
  le : a.l.length ≤ 140737488351232
def Aq (q : Nat) (A : Array Value) (x : World) : Prop := x.heap[q]? = some (.cells A 40 (0, 0))
theorem Aq.lt {q : Nat} {A : Array Value} {x : World} (h : Aq q A x) : q < x.heap.size := (Array.getElem?_eq_some_iff.1 h).1
theorem Aq.two {q g k : Nat} {A : Array Value} {x y : World} (h : Aq q A x) (t : Two g k x y) (h1 : q ≠ g) (h2 : q ≠ k) : Aq q A y := (t.block q h.lt h1 h2).trans h
theorem Aq.below {q : Nat} {A : Array Value} {x y : World} (h : Aq q A x) (b : Below x.heap.size x y) : Aq q A y := (b.block q h.lt).trans h
theorem Aq.cell {q : Nat} {A : Array Value} {x : World} (h : Aq q A x) (k : Nat) : x.cell? ⟨q, k, none⟩ = A[k]? := Lib.cell_of_heap h k
theorem Aq.page {q : Nat} {a : A9} {x : World} (h : Aq q a.cells.toArray x) (hp : a.p.length = 8) : x.rangeAt q 3 (byC a.p) := by
  intro j v hv
  have hj : j < 8 := by have := (List.getElem?_eq_some_iff.1 hv).1; rw [byC_len] at this; omega
  rw [h.cell, List.getElem?_toArray, A9.cells, show 3 + j = j + 3 from by omega]
  simp only [List.getElem?_cons_succ]
  rw [List.getElem?_append_left (by rw [byC_len]; omega)]
  exact hv
theorem A9.c11 (a : A9) (hp : a.p.length = 8) : a.cells.toArray[11]? = some a.v := by
  have h8 : (byC a.p).length = 8 := by rw [byC_len, hp]
  rw [List.getElem?_toArray, A9.cells]
  simp only [List.getElem?_cons_succ]
  rw [List.getElem?_append_right (by omega), h8]
  rfl
theorem Jn.box (h : Jn w C P D Q c c W) (A : Array Value) : ∃ W1 q, W.alloc (.cells A 40) = W1 ∧ W.heap.size = q ∧ Aq q A W1 ∧ Jn w C P D Q c c W1 ∧ q ≠ C ∧ q ≠ P ∧ q ≠ D ∧ q ≠ Q :=
  ⟨_, _, rfl, rfl, heap_alloc_new W _, h.below ((Below.refl _ W).alloc (Nat.le_refl _) _), by have := h.a.lt; omega, by have := h.a.ltP; omega, by have := h.b.lt; omega, by have := h.b.ltP; omega⟩
theorem load_intN (x : World) (D k : Nat) (z : Int) (hc : x.cell? ⟨D, k, none⟩ = some (.int .i64 z)) : (loadVar 3 ⟨D, k, none⟩).run Try.prog x = .ok (.int .i64 z) x := by
  simp [go_sem, run_underlying Try.underlying3, hc]
theorem load_bysN (x : World) (D k : Nat) (ao : Option Addr) (l c : Nat) (hc : x.cell? ⟨D, k, none⟩ = some (.slice ao l c)) : (loadVar 30 ⟨D, k, none⟩).run Try.prog x = .ok (.slice ao l c) x := by
  simp [go_sem, run_underlying Try.underlying30, hc]
theorem wp_bsN {o : Oper} {a : Act} {w : World} {K : Act → World → Prop} {Q : Exit → Act → World → Prop} (ho : o.op = .buildSlice 30 0 #[]) (h : K (a.put o.dst (.slice (some ⟨w.heap.size, 0, none⟩) 0 0)) (w.alloc (.cells #[] 5))) : o.wp Try.prog a w K Q := by
  obtain ⟨i0, hi, hz0, hz1, hz2⟩ := info_parts info5
  unfold Oper.wp execOp
  simp [ho, go_sem, run_underlying Try.underlying30, typeInfo, sizeOf, hi, hz0, hz1, hz2, madeCells]
  exact h
theorem wp_appN {w : World} {o : Oper} {a : Act} {K : Act → World → Prop} {Q : Exit → Act → World → Prop} (s x : Operand)
    (ho : o.op = .call { callee := .builtin .append, args := #[s, x], argTypes := #[30, 30] })
    (base : Nat) (v : Value) (xs : List UInt8) (hs : a.eval s = v) (hown : w.ownsRow base 5 1 v xs.length (Lib.byteCells xs))
    (vx : Value) (l : List UInt8) (hx : a.eval x = vx) (hB : Bytes w vx l) (hbytes : xs.length + l.length ≤ 140737488355328) (hbase : base ≤ w.heap.size)
    (h : ∀ v' w', w'.ownsRow base 5 1 v' (xs ++ l).length (Lib.byteCells (xs ++ l)) → w.grownBy w' v.ownBlock → K (a.put o.dst v') w') : o.wp Try.prog a w K Q := by
  obtain ⟨i0, hi, hz0, hz1, hz2⟩ := info_parts info5
  obtain ⟨ao, cap, rfl, h0, hc⟩ := hB
  cases ao with
  | none =>
    obtain ⟨rfl, rfl⟩ := h0 rfl
    have hrun := run_append_owned_none (P := Try.prog) (w := w) base 30 o.type 5 i0 1 Try.underlying30 hi v xs.length (Lib.byteCells xs) hown
    unfold Oper.wp
    simp only [List.length_nil] at hx
    simp [execOp, ho, resolve, invoke, builtin, hs, hx, hrun, Result.andThen]
    refine h _ _ ?_ (grown_refl _ _)
    simpa using hown
  | some ad =>
    refine wp_append_own w s x 30 ho base 5 i0 (.int .u8 0) 1 1 Try.underlying30 hi hz0 hz1 hz2 rfl (by decide) v xs.length (Lib.byteCells xs) hs hown ad l.length cap (Lib.byteCells l) hx (by simp [Lib.byteCells_length]) ?_ (byteCells_one l) (by unfold maxLen; omega) (by omega) hbase ?_
    · intro j u hj
      have hlt : j < l.length := by
        have := (List.getElem?_eq_some_iff.1 hj).1
        rwa [Lib.byteCells_length] at this
      obtain ⟨b, off, ha, _, hcell⟩ := hc j hlt
      simp at ha
      subst ha
      rw [add_off, hcell]
      simp [Lib.byteCells, hlt] at hj
      rw [hj]
    · intro v' w' h1 h2 _
      refine h v' w' ?_ h2
      rw [List.length_append, Lib.byteCells_append]
      exact h1
theorem enN_w : ∀ args x, (callFunc 26 args).run Try.prog x = .ok (.enter 26 args) x := fun _ _ => by rfl
theorem enN_z : ∀ args x, (callFunc 29 args).run Try.prog x = .ok (.enter 29 args) x := fun _ _ => by rfl
theorem enN_s : ∀ args x, (callFunc 12 args).run Try.prog x = .ok (.enter 12 args) x := fun _ _ => by rfl
theorem enN_t : ∀ args x, (callFunc 31 args).run Try.prog x = .ok (.enter 31 args) x := fun _ _ => by rfl
theorem Dm.pow (h : Dm C P c w) : ∃ w3 w4 l, w.setCell ⟨C, 2, none⟩ (.bool false) = w3 ∧ w3.setCell ⟨C, 1, none⟩ (.int .i64 (-1)) = w4 ∧ w.cell? ⟨C, 2, none⟩ = some (.bool c.dead) ∧ w.frozen? ⟨C, 2, none⟩ = false ∧ w3.cell? ⟨C, 1, none⟩ = some (.int .i64 l) ∧ w3.frozen? ⟨C, 1, none⟩ = false ∧ Hid (Dm C P c.power w4) ∧ Hid (Two C P w w4) := by
  obtain ⟨l, hh, hl⟩ := h.head
  have h1 : (w.setCell ⟨C, 2, none⟩ (.bool false)).heap[C]? = some (.cells #[.slice (some ⟨P, 0, none⟩) c.n c.n, .int .i64 l, .bool false] 53 (0, 0)) := by
    simp only [World.setCell, Array.getElem?_modify, hh]
    simp
  have h2 : ((w.setCell ⟨C, 2, none⟩ (.bool false)).setCell ⟨C, 1, none⟩ (.int .i64 (-1))).heap[C]? = some (.cells #[.slice (some ⟨P, 0, none⟩) c.n c.n, .int .i64 (-1), .bool false] 53 (0, 0)) := by
    generalize w.setCell ⟨C, 2, none⟩ (.bool false) = w3 at *
    simp only [World.setCell, Array.getElem?_modify, h1]
    simp
  have hne := h.ne
  have p1 : (w.setCell ⟨C, 2, none⟩ (.bool false)).heap[P]? = some (.cells (byC c.pg).toArray 38 (0, 0)) := (Below.heap_setCell w ⟨C, 2, none⟩ _ P (fun e => hne e.symm)).trans h.pages
  have p2 : ((w.setCell ⟨C, 2, none⟩ (.bool false)).setCell ⟨C, 1, none⟩ (.int .i64 (-1))).heap[P]? = some (.cells (byC c.pg).toArray 38 (0, 0)) := (Below.heap_setCell _ ⟨C, 1, none⟩ _ P (fun e => hne e.symm)).trans p1
  exact ⟨_, _, l, rfl, rfl, h.c2, h.free 2, Lib.cell_of_heap h1 1, Lib.frozen_of_heap h1 1, ⟨⟨-1, h2, fun _ => rfl⟩, p2, Ch.power_ok h.ok⟩, ((Two.refl C P w).at0 2 _).at0 1 _⟩
/-- What a call leaves. -/
def Dn9 (w : World) (C P D Q : Nat) (e : Ending) (w' : World) : Prop := e = .returned (.bool true) ∧ ∃ c', Jn w C P D Q c' c' w'
set_option maxHeartbeats 8000000 in
theorem does9_2 (h : Jn w C P D Q c c W) (a : A9) (ha : a.ok w) (hk : a.kd = 2) :
    Calls Try.prog 15 #[.pointer (some ⟨C, 0, none⟩), .pointer (some ⟨D, 0, none⟩), .agg a.cells.toArray] W (Dn9 w C P D Q) := by
  obtain ⟨W1, q, hW1, hq, fA, hJ, e1, e2, e3, e4⟩ := h.box a.cells.toArray
  have A0 : a.cells.toArray[0]? = some (.int .i64 2) := by rw [← hk]; rfl
  have A1 : a.cells.toArray[1]? = some (.int .i64 a.pg) := rfl
  have A2 : a.cells.toArray[2]? = some (.int .i64 a.n) := rfl
  have A3 := a.c11 ha.p8
  have c0 := fA.cell 0
  rw [A0] at c0
  have HA := hidOf ha
  have c2 := fA.cell 2
  rw [A2] at c2
  have HC1 := hidOf (Cut_any hJ.a a.n ha.n0 ha.n1)
  have HN0 := hidOf ha.n0
  have HN1 := hidOf ha.n1
  have HC2 : Hid (∀ x, Cm C P (c.cut a.n) x → Two C P W1 x → x.cell? ⟨q, 2, none⟩ = some (.int .i64 a.n) ∧ Jn w C P D Q (c.cut a.n) c x) := fun x hx t => ⟨by have := (fA.two t e1 e2).cell 2; rw [A2] at this; exact this, hJ.left hx t⟩
  generalize a.cells.toArray = A at *
  generalize a.n = n at *
  clear hJ fA h A0 A1 A2 A3 ha
  go_enter Try.func15, Try.ntmps15
  go_wp2_with (first | (go_at_call 17; refine HC1.out.mono ?_; rintro e w2 ⟨⟨v2, rfl⟩, h2, t2⟩; obtain ⟨c2', j2⟩ := HC2.out w2 h2 t2; have HJ2 := hidOf j2; have HZ := hidOf (ZCut_any j2.b n HN0.out HN1.out); clear h2 t2 j2) | (go_at_call 30; refine HZ.out.mono ?_; rintro e w3 ⟨⟨v3, rfl⟩, h3, t3⟩; have HJ3 := hidOf (HJ2.out.right h3 t3); clear h3 t3))
  go_ret
  exact ⟨rfl, _, HJ3.out⟩
set_option maxHeartbeats 8000000 in
theorem does9_3 (h : Jn w C P D Q c c W) (a : A9) (ha : a.ok w) (hk : a.kd = 3) :
    Calls Try.prog 15 #[.pointer (some ⟨C, 0, none⟩), .pointer (some ⟨D, 0, none⟩), .agg a.cells.toArray] W (Dn9 w C P D Q) := by
  obtain ⟨W1, q, hW1, hq, fA, hJ, e1, e2, e3, e4⟩ := h.box a.cells.toArray
  have A0 : a.cells.toArray[0]? = some (.int .i64 3) := by rw [← hk]; rfl
  have A1 : a.cells.toArray[1]? = some (.int .i64 a.pg) := rfl
  have A2 : a.cells.toArray[2]? = some (.int .i64 a.n) := rfl
  have A3 := a.c11 ha.p8
  have c0 := fA.cell 0
  rw [A0] at c0
  have HA := hidOf ha
  have HC1 := hidOf (Power_any hJ.a)
  have HC2 : Hid (∀ x, Cm C P c.power x → Two C P W1 x → Jn w C P D Q c.power c x) := fun x hx t => hJ.left hx t
  generalize a.cells.toArray = A at *
  clear hJ fA h A0 A1 A2 A3 ha
  go_enter Try.func15, Try.ntmps15
  go_wp2_with (first | (go_at_call 19; refine HC1.out.mono ?_; rintro e w2 ⟨⟨v2, rfl⟩, h2, t2⟩; have HJ2 := hidOf (HC2.out w2 h2 t2); obtain ⟨w3, w4, l0, hw3, hw4, d2, d2f, d1, d1f, HD4, HT4⟩ := HJ2.out.b.pow; clear h2 t2))
  go_ret
  exact ⟨rfl, _, HJ2.out.right HD4.out HT4.out⟩
set_option maxHeartbeats 8000000 in
theorem does9_5 (h : Jn w C P D Q c c W) (a : A9) (ha : a.ok w) (hk : a.kd = 5) :
    Calls Try.prog 15 #[.pointer (some ⟨C, 0, none⟩), .pointer (some ⟨D, 0, none⟩), .agg a.cells.toArray] W (Dn9 w C P D Q) := by
  obtain ⟨W1, q, hW1, hq, fA, hJ, e1, e2, e3, e4⟩ := h.box a.cells.toArray
  have A0 : a.cells.toArray[0]? = some (.int .i64 5) := by rw [← hk]; rfl
  have A1 : a.cells.toArray[1]? = some (.int .i64 a.pg) := rfl
  have A2 : a.cells.toArray[2]? = some (.int .i64 a.n) := rfl
  have A3 := a.c11 ha.p8
  have c0 := fA.cell 0
  rw [A0] at c0
  have HA := hidOf ha
  have HC1 := hidOf (Load_any hJ.a)
  have HJ1 := hidOf hJ
  have HBo : Hid (∃ B : Bool, (c.kept.1 != 0) = B ∧ decide ((0 : Int) < (c.kept.1 : Int)) = B ∧ decide (0 < c.kept.1) = B) := ⟨_, rfl, by rcases Nat.eq_zero_or_pos c.kept.1 with h0 | h0 <;> simp [h0]; omega, by rcases Nat.eq_zero_or_pos c.kept.1 with h0 | h0 <;> simp [h0]; omega⟩
  obtain ⟨B, hB1, hB2, hB3⟩ := HBo.out
  have HC2 : Hid (∀ x, Below W1.heap.size W1 x → Calls Try.prog 32 #[.pointer (some ⟨D, 0, none⟩)] x fun e w' => ∃ v, e = .returned (.tuple #[v, .int .i64 c.kept.1, .int .i64 c.latest]) ∧ Bytes w' v c.kept.2 ∧ Below x.heap.size x w') := fun x hx => ZKept_any (HJ1.out.below hx).b
  rw [hB1] at HC1
  generalize a.cells.toArray = A at *
  generalize c.kept.1 = k1 at *
  generalize c.kept.2 = k2 at *
  generalize c.latest = lt at *
  clear hJ fA h A0 A1 A2 A3 ha hB1 HBo
  go_enter Try.func15, Try.ntmps15
  cases B
  all_goals
    go_wp2_with (first | (go_at_call 10; refine HC1.out.mono ?_; clear HC1; rintro e w2 ⟨v2, rfl, hv2, hb2, _⟩; obtain ⟨a2, cp2, hav⟩ := bytes_shapeN hv2; subst hav; have HV2 := hidOf hv2; have HB2 := hidOf hb2; have HK := HC2.out w2 hb2; clear hv2 hb2 HC2) | (go_at_call 32; refine HK.mono ?_; clear HK; rintro e w3 ⟨v3, rfl, hv3, hb3⟩; obtain ⟨a3, cp3, hav⟩ := bytes_shapeN hv3; subst hav; have t3 := hv3.text; have t2 := (HV2.out.below hb3).text; have HJ3 := hidOf ((HJ1.out.below HB2.out).below hb3); clear hv3 hb3))
    go_ret
    exact ⟨rfl, _, HJ3.out⟩
set_option maxHeartbeats 8000000 in
theorem does9_6 (h : Jn w C P D Q c c W) (a : A9) (ha : a.ok w) (hk : a.kd = 6) :
    Calls Try.prog 15 #[.pointer (some ⟨C, 0, none⟩), .pointer (some ⟨D, 0, none⟩), .agg a.cells.toArray] W (Dn9 w C P D Q) := by
  obtain ⟨W1, q, hW1, hq, fA, hJ, e1, e2, e3, e4⟩ := h.box a.cells.toArray
  have A0 : a.cells.toArray[0]? = some (.int .i64 6) := by rw [← hk]; rfl
  have A1 : a.cells.toArray[1]? = some (.int .i64 a.pg) := rfl
  have A2 : a.cells.toArray[2]? = some (.int .i64 a.n) := rfl
  have A3 := a.c11 ha.p8
  have c0 := fA.cell 0
  rw [A0] at c0
  have HA := hidOf ha
  have HC1 := hidOf (Erase_any hJ.a)
  have HJ1 := hidOf hJ
  have HC2 : Hid (∀ x, Cm C P c.erase.1 x → Two C P W1 x → Jn w C P D Q c.erase.1 c x) := fun x hx t => hJ.left hx t
  have HZ0 : Hid (∀ x, Dm D Q c x → Calls Try.prog 33 #[.pointer (some ⟨D, 0, none⟩)] x fun e w' => e = .returned (.int .i64 c.erase.2) ∧ Dm D Q c.erase.1 w' ∧ Two D Q x w') := fun x hx => ZErase_any hx
  generalize a.cells.toArray = A at *
  generalize c.erase.1 = k1 at *
  generalize c.erase.2 = k2 at *
  clear hJ fA h A0 A1 A2 A3 ha
  go_enter Try.func15, Try.ntmps15
  go_wp2_with (first | (go_at_call 13; refine HC1.out.mono ?_; clear HC1; rintro e w2 ⟨rfl, h2, t2⟩; have HJ2 := hidOf (HC2.out w2 h2 t2); have HZ := HZ0.out w2 HJ2.out.b; clear h2 t2) | (go_at_call 33; refine HZ.mono ?_; clear HZ; rintro e w3 ⟨rfl, h3, t3⟩; have HJ3 := hidOf (HJ2.out.right h3 t3); clear h3 t3))
  go_ret
  exact ⟨by simp, _, HJ3.out⟩
set_option maxHeartbeats 8000000 in
theorem does9_0 (h : Jn w C P D Q c c W) (a : A9) (ha : a.ok w) (hk : a.kd = 0) :
    Calls Try.prog 15 #[.pointer (some ⟨C, 0, none⟩), .pointer (some ⟨D, 0, none⟩), .agg a.cells.toArray] W (Dn9 w C P D Q) := by
  obtain ⟨W1, q, hW1, hq, fA, hJ, e1, e2, e3, e4⟩ := h.box a.cells.toArray
  have A0 : a.cells.toArray[0]? = some (.int .i64 0) := by rw [← hk]; rfl
  have A1 : a.cells.toArray[1]? = some (.int .i64 a.pg) := rfl
  have A2 : a.cells.toArray[2]? = some (.int .i64 a.n) := rfl
  have A3 := a.c11 ha.p8
  have c0 := fA.cell 0
  rw [A0] at c0
  have HA := hidOf ha
  have hp8 : (byC a.p).length = 8 := by rw [byC_len, ha.p8]
  have HS1 : Hid (∀ x, Aq q a.cells.toArray x → x.cell? ⟨q, 1, none⟩ = some (.int .i64 a.pg)) := fun x hx => by have := hx.cell 1; rw [A1] at this; exact this
  have HS3 : Hid (∀ x, Aq q a.cells.toArray x → x.rangeAt q 3 (byC a.p)) := fun x hx => hx.page ha.p8
  have HWr : Hid (∀ x, Cm C P c x → Calls Try.prog 26 #[.pointer (some ⟨C, 0, none⟩), .int .i64 a.pg, .agg (byC a.p).toArray] x fun e w' => e = .returned (.bool (c.wr a.pg a.p).2) ∧ Cm C P (c.wr a.pg a.p).1 w' ∧ Two C P x w') := fun x hx => Write_any hx a.pg a.p ha.p8
  have HZr : Hid (∀ x, Dm D Q c x → Calls Try.prog 29 #[.pointer (some ⟨D, 0, none⟩), .int .i64 a.pg, .agg (byC a.p).toArray] x fun e w' => e = .returned (.bool (c.wr a.pg a.p).2) ∧ Dm D Q (c.wr a.pg a.p).1 w' ∧ Two D Q x w') := fun x hx => ZWrite_any hx a.pg a.p ha.p8
  have HJ1 := hidOf hJ
  generalize c.wr a.pg a.p = R at *
  obtain ⟨c', o⟩ := R
  simp only at HWr HZr
  generalize byC a.p = M at *
  generalize a.cells.toArray = A at *
  generalize a.pg = pg at *
  have HfA := hidOf fA
  clear hJ h A0 A1 A2 A3 ha fA
  go_enter Try.func15, Try.ntmps15
  go_wp2_with fail
  refine wp_region_held (S := Aq q A) (by kernel_rfl) ?_
  obtain ⟨w1, hw1⟩ : ∃ x : World, { W1 with drawn := W1.drawn + 1 } = x := ⟨_, rfl⟩
  have j1 : Jn w C P D Q c c w1 := by rw [← hw1]; exact HJ1.out.draw
  have f1 : Aq q A w1 := by rw [← hw1]; exact HfA.out
  rw [hw1]
  refine wpAnyH_take (i := 0) (v := (.pointer (some ⟨C, 0, none⟩))) rfl (by kernel_rfl) (by kernel_rfl) (by kernel_rfl) (fun _ _ _ h => h) (.inl ⟨rfl, fun _ hS => rfl⟩) f1 ?_
  simp only [List.getElem_toArray, List.getElem_cons_succ, List.getElem_cons_zero, Act.put, List.setIfInBounds_toArray, List.set_cons_succ, List.set_cons_zero]
  refine wpAnyH_take (i := 1) (v := (.pointer (some ⟨q, 1, none⟩))) rfl (by kernel_rfl) (by kernel_rfl) (by kernel_rfl) (fun _ _ _ h => h) (.inl ⟨rfl, fun _ hS => by simp [execOp, go_sem, Act.eval]⟩) f1 ?_
  simp only [List.getElem_toArray, List.getElem_cons_succ, List.getElem_cons_zero, Act.put, List.setIfInBounds_toArray, List.set_cons_succ, List.set_cons_zero]
  refine wpAnyH_take (i := 2) (v := (.int .i64 pg)) rfl (by kernel_rfl) (by kernel_rfl) (by kernel_rfl) (fun _ _ _ h => h) (.inl ⟨rfl, fun _ hS => exec_loadN rfl rfl (load_intN _ q 1 _ (HS1.out _ hS))⟩) f1 ?_
  simp only [List.getElem_toArray, List.getElem_cons_succ, List.getElem_cons_zero, Act.put, List.setIfInBounds_toArray, List.set_cons_succ, List.set_cons_zero]
  refine wpAnyH_take (i := 3) (v := (.pointer (some ⟨q, 3, none⟩))) rfl (by kernel_rfl) (by kernel_rfl) (by kernel_rfl) (fun _ _ _ h => h) (.inl ⟨rfl, fun _ hS => by simp [execOp, go_sem, Act.eval]⟩) f1 ?_
  simp only [List.getElem_toArray, List.getElem_cons_succ, List.getElem_cons_zero, Act.put, List.setIfInBounds_toArray, List.set_cons_succ, List.set_cons_zero]
  refine wpAnyH_take (i := 4) (v := (.agg M.toArray)) rfl (by kernel_rfl) (by kernel_rfl) (by kernel_rfl) (fun _ _ _ h => h) (.inl ⟨rfl, fun _ hS => exec_loadN rfl rfl (run_loadVar_mid _ q 3 38 M _ (HS3.out _ hS) Try.underlying38 rfl (by rw [hp8]; exact infoA8))⟩) f1 ?_
  simp only [List.getElem_toArray, List.getElem_cons_succ, List.getElem_cons_zero, Act.put, List.setIfInBounds_toArray, List.set_cons_succ, List.set_cons_zero]
  refine wpAnyH_take (i := 6) (v := (.pointer (some ⟨D, 0, none⟩))) rfl (by kernel_rfl) (by kernel_rfl) (by kernel_rfl) (fun _ _ _ h => h) (.inl ⟨rfl, fun _ hS => rfl⟩) f1 ?_
  simp only [List.getElem_toArray, List.getElem_cons_succ, List.getElem_cons_zero, Act.put, List.setIfInBounds_toArray, List.set_cons_succ, List.set_cons_zero]
  refine wpAnyH_take (i := 7) (v := (.pointer (some ⟨q, 1, none⟩))) rfl (by kernel_rfl) (by kernel_rfl) (by kernel_rfl) (fun _ _ _ h => h) (.inl ⟨rfl, fun _ hS => by simp [execOp, go_sem, Act.eval]⟩) f1 ?_
  simp only [List.getElem_toArray, List.getElem_cons_succ, List.getElem_cons_zero, Act.put, List.setIfInBounds_toArray, List.set_cons_succ, List.set_cons_zero]
  refine wpAnyH_take (i := 8) (v := (.int .i64 pg)) rfl (by kernel_rfl) (by kernel_rfl) (by kernel_rfl) (fun _ _ _ h => h) (.inl ⟨rfl, fun _ hS => exec_loadN rfl rfl (load_intN _ q 1 _ (HS1.out _ hS))⟩) f1 ?_
  simp only [List.getElem_toArray, List.getElem_cons_succ, List.getElem_cons_zero, Act.put, List.setIfInBounds_toArray, List.set_cons_succ, List.set_cons_zero]
  refine wpAnyH_take (i := 9) (v := (.pointer (some ⟨q, 3, none⟩))) rfl (by kernel_rfl) (by kernel_rfl) (by kernel_rfl) (fun _ _ _ h => h) (.inl ⟨rfl, fun _ hS => by simp [execOp, go_sem, Act.eval]⟩) f1 ?_
  simp only [List.getElem_toArray, List.getElem_cons_succ, List.getElem_cons_zero, Act.put, List.setIfInBounds_toArray, List.set_cons_succ, List.set_cons_zero]
  refine wpAnyH_take (i := 10) (v := (.agg M.toArray)) rfl (by kernel_rfl) (by kernel_rfl) (by kernel_rfl) (fun _ _ _ h => h) (.inl ⟨rfl, fun _ hS => exec_loadN rfl rfl (run_loadVar_mid _ q 3 38 M _ (HS3.out _ hS) Try.underlying38 rfl (by rw [hp8]; exact infoA8))⟩) f1 ?_
  simp only [List.getElem_toArray, List.getElem_cons_succ, List.getElem_cons_zero, Act.put, List.setIfInBounds_toArray, List.set_cons_succ, List.set_cons_zero]
  refine wpAnyH_all (rs := [5]) (by kernel_rfl) (by simp) ?_
  intro k hk
  simp only [List.mem_cons, List.mem_nil_iff, or_false] at hk
  subst hk
  refine wpOp_runN rfl rfl (wp_callN 26 #[.pointer (some ⟨C, 0, none⟩), .int .i64 pg, .agg M.toArray] (by simp [execOp, go_sem, Act.eval, resolve, invoke, enN_w]) ((HWr.out w1 j1.a).mono ?_))
  rintro e w2 ⟨rfl, h2, t2⟩
  have f2 := f1.two t2 e1 e2
  have j2 := j1.left h2 t2
  refine ⟨f2, ?_⟩
  simp only [List.getElem_toArray, List.getElem_cons_succ, List.getElem_cons_zero, Act.put, List.setIfInBounds_toArray, List.set_cons_succ, List.set_cons_zero]
  refine wpAnyH_all (rs := [11]) (by kernel_rfl) (by simp) ?_
  intro k hk
  simp only [List.mem_cons, List.mem_nil_iff, or_false] at hk
  subst hk
  refine wpOp_runN rfl rfl (wp_callN 29 #[.pointer (some ⟨D, 0, none⟩), .int .i64 pg, .agg M.toArray] (by simp [execOp, go_sem, Act.eval, resolve, invoke, enN_z]) ((HZr.out w2 j2.b).mono ?_))
  rintro e w3 ⟨rfl, h3, t3⟩
  have f3 := f2.two t3 e3 e4
  have HJ3 := hidOf (j2.right h3 t3)
  refine ⟨f3, ?_⟩
  simp only [List.getElem_toArray, List.getElem_cons_succ, List.getElem_cons_zero, Act.put, List.setIfInBounds_toArray, List.set_cons_succ, List.set_cons_zero]
  refine wpAnyH_take (i := 12) (v := (.bool true)) rfl (by kernel_rfl) (by kernel_rfl) (by kernel_rfl) (fun _ _ _ h => h) (.inl ⟨rfl, fun _ hS => by simp [execOp, go_sem, Act.eval]⟩) f3 ?_
  simp only [List.getElem_toArray, List.getElem_cons_succ, List.getElem_cons_zero, Act.put, List.setIfInBounds_toArray, List.set_cons_succ, List.set_cons_zero]
  refine wpAnyH_take (i := 13) (v := (.bool true)) rfl (by kernel_rfl) (by kernel_rfl) (by kernel_rfl) (fun _ _ _ h => h) (.inl ⟨rfl, fun _ hS => rfl⟩) f3 ?_
  simp only [List.getElem_toArray, List.getElem_cons_succ, List.getElem_cons_zero, Act.put, List.setIfInBounds_toArray, List.set_cons_succ, List.set_cons_zero]
  refine wpAnyH_done (by kernel_rfl) ?_ _
  clear f1 f2 j1 j2 h2 h3 t2 t3 hw1
  go_wp2
  go_ret
  exact ⟨rfl, _, HJ3.out⟩
set_option maxHeartbeats 8000000 in
theorem does9_4 (h : Jn w C P D Q c c W) (a : A9) (ha : a.ok w) (hk : a.kd = 4) :
    Calls Try.prog 15 #[.pointer (some ⟨C, 0, none⟩), .pointer (some ⟨D, 0, none⟩), .agg a.cells.toArray] W (Dn9 w C P D Q) := by
  obtain ⟨W1, q, hW1, hq, fA, hJ, e1, e2, e3, e4⟩ := h.box a.cells.toArray
  have A0 : a.cells.toArray[0]? = some (.int .i64 4) := by rw [← hk]; rfl
  have A1 : a.cells.toArray[1]? = some (.int .i64 a.pg) := rfl
  have A2 : a.cells.toArray[2]? = some (.int .i64 a.n) := rfl
  have A3 := a.c11 ha.p8
  have c0 := fA.cell 0
  rw [A0] at c0
  have HA := hidOf ha
  obtain ⟨av, cv, hav⟩ := bytes_shapeN ha.by'
  have HS1 : Hid (∀ x, Aq q a.cells.toArray x → x.cell? ⟨q, 11, none⟩ = some (.slice av a.l.length cv)) := fun x hx => by have := hx.cell 11; rw [A3, hav] at this; exact this
  have HBY : Hid (∀ x, Below w.heap.size w x → Bytes x (.slice av a.l.length cv) a.l) := fun x hx => by rw [← hav]; exact ha.by'.below hx
  have HLE : Hid (a.l.length ≤ 140737488351232) := ha.le
  have HZr : Hid (∀ x, Below w.heap.size w x → Dm D Q c x → Calls Try.prog 31 #[.pointer (some ⟨D, 0, none⟩), .slice av a.l.length cv] x fun e w' => e = .returned (.int .i64 (c.save a.l).2) ∧ Dm D Q (c.save a.l).1 w' ∧ Two D Q x w') := fun x hx hd => ZSave_any hd _ a.l (by have := ha.le; omega) (HBY.out x hx) (fun y z hy t => by have h0 := ha.by'; rw [hav] at h0; exact h0.came hy h.d1 h.q1 t)
  have HJ1 := hidOf hJ
  have HfA := hidOf fA
  generalize a.cells.toArray = A at *
  generalize a.l = l at *
  clear hJ h A0 A1 A2 A3 ha fA hav
  go_enter Try.func15, Try.ntmps15
  go_wp2_with fail
  refine wp_region_held (S := Aq q A) (by kernel_rfl) ?_
  obtain ⟨w1, hw1⟩ : ∃ x : World, { W1 with drawn := W1.drawn + 1 } = x := ⟨_, rfl⟩
  have j1 : Jn w C P D Q c c w1 := by rw [← hw1]; exact HJ1.out.draw
  have f1 : Aq q A w1 := by rw [← hw1]; exact HfA.out
  rw [hw1]
  refine wpAnyH_take (i := 0) (v := (.pointer (some ⟨C, 0, none⟩))) rfl (by kernel_rfl) (by kernel_rfl) (by kernel_rfl) (fun _ _ _ h => h) (.inl ⟨rfl, fun _ hS => rfl⟩) f1 ?_
  simp only [List.getElem_toArray, List.getElem_cons_succ, List.getElem_cons_zero, Act.put, List.setIfInBounds_toArray, List.set_cons_succ, List.set_cons_zero]
  refine wpAnyH_take (i := 2) (v := (.pointer (some ⟨q, 11, none⟩))) rfl (by kernel_rfl) (by kernel_rfl) (by kernel_rfl) (fun _ _ _ h => h) (.inl ⟨rfl, fun _ hS => by simp [execOp, go_sem, Act.eval]⟩) f1 ?_
  simp only [List.getElem_toArray, List.getElem_cons_succ, List.getElem_cons_zero, Act.put, List.setIfInBounds_toArray, List.set_cons_succ, List.set_cons_zero]
  refine wpAnyH_take (i := 3) (v := (.slice av l.length cv)) rfl (by kernel_rfl) (by kernel_rfl) (by kernel_rfl) (fun _ _ _ h => h) (.inl ⟨rfl, fun _ hS => exec_loadN rfl rfl (load_bysN _ q 11 _ _ _ (HS1.out _ hS))⟩) f1 ?_
  simp only [List.getElem_toArray, List.getElem_cons_succ, List.getElem_cons_zero, Act.put, List.setIfInBounds_toArray, List.set_cons_succ, List.set_cons_zero]
  refine wpAnyH_take (i := 6) (v := (.pointer (some ⟨D, 0, none⟩))) rfl (by kernel_rfl) (by kernel_rfl) (by kernel_rfl) (fun _ _ _ h => h) (.inl ⟨rfl, fun _ hS => rfl⟩) f1 ?_
  simp only [List.getElem_toArray, List.getElem_cons_succ, List.getElem_cons_zero, Act.put, List.setIfInBounds_toArray, List.set_cons_succ, List.set_cons_zero]
  refine wpAnyH_take (i := 7) (v := (.pointer (some ⟨q, 11, none⟩))) rfl (by kernel_rfl) (by kernel_rfl) (by kernel_rfl) (fun _ _ _ h => h) (.inl ⟨rfl, fun _ hS => by simp [execOp, go_sem, Act.eval]⟩) f1 ?_
  simp only [List.getElem_toArray, List.getElem_cons_succ, List.getElem_cons_zero, Act.put, List.setIfInBounds_toArray, List.set_cons_succ, List.set_cons_zero]
  refine wpAnyH_take (i := 8) (v := (.slice av l.length cv)) rfl (by kernel_rfl) (by kernel_rfl) (by kernel_rfl) (fun _ _ _ h => h) (.inl ⟨rfl, fun _ hS => exec_loadN rfl rfl (load_bysN _ q 11 _ _ _ (HS1.out _ hS))⟩) f1 ?_
  simp only [List.getElem_toArray, List.getElem_cons_succ, List.getElem_cons_zero, Act.put, List.setIfInBounds_toArray, List.set_cons_succ, List.set_cons_zero]
  refine wpAnyH_all (rs := [1]) (by kernel_rfl) (by simp) ?_
  intro k hk
  simp only [List.mem_cons, List.mem_nil_iff, or_false] at hk
  subst hk
  refine wpOp_runN rfl rfl (wp_bsN rfl ?_)
  have b2 : Below w1.heap.size w1 (w1.alloc (.cells #[] 5)) := (Below.refl _ w1).alloc (Nat.le_refl _) _
  have f2 := f1.below b2
  have B2 := (j1.below b2).old
  refine ⟨f2, ?_⟩
  simp only [List.getElem_toArray, List.getElem_cons_succ, List.getElem_cons_zero, Act.put, List.setIfInBounds_toArray, List.set_cons_succ, List.set_cons_zero]
  refine wpAnyH_all (rs := [4]) (by kernel_rfl) (by simp) ?_
  intro k hk
  simp only [List.mem_cons, List.mem_nil_iff, or_false] at hk
  subst hk
  refine wpOp_runN rfl rfl (wp_appN _ _ rfl w1.heap.size (.slice (some ⟨w1.heap.size, 0, none⟩) 0 0) [] rfl (own_empty w1) _ l rfl (HBY.out _ B2) (by have := HLE.out; simp; omega) (by rw [size_alloc]; omega) ?_)
  intro v3 w3 ho hg
  have b3 : Below w1.heap.size w1 w3 := b2.grown hg b2.size (fun k e => by cases e; exact Nat.le_refl _)
  have f3 := f1.below b3
  have j3 := j1.below b3
  have ho' : w3.ownsRow w1.heap.size 5 1 v3 l.length (Lib.byteCells l) := ho
  have hs3 := Save_any j3.a v3 l (by have := HLE.out; omega) (bytes_of_own ho') (ap_own ho' j3.a) (own_cpN ho')
  generalize c.save l = R at *
  obtain ⟨c1, o⟩ := R
  simp only at hs3 HZr
  refine ⟨f3, ?_⟩
  simp only [List.getElem_toArray, List.getElem_cons_succ, List.getElem_cons_zero, Act.put, List.setIfInBounds_toArray, List.set_cons_succ, List.set_cons_zero]
  refine wpAnyH_all (rs := [5]) (by kernel_rfl) (by simp) ?_
  intro k hk
  simp only [List.mem_cons, List.mem_nil_iff, or_false] at hk
  subst hk
  refine wpOp_runN rfl rfl (wp_callN 12 #[.pointer (some ⟨C, 0, none⟩), v3] (by simp [execOp, go_sem, Act.eval, resolve, invoke, enN_s]) (hs3.mono ?_))
  rintro e w4 ⟨rfl, h4, t4⟩
  have f4 := f3.two t4 e1 e2
  have j4 := j3.left h4 t4
  refine ⟨f4, ?_⟩
  simp only [List.getElem_toArray, List.getElem_cons_succ, List.getElem_cons_zero, Act.put, List.setIfInBounds_toArray, List.set_cons_succ, List.set_cons_zero]
  refine wpAnyH_all (rs := [9]) (by kernel_rfl) (by simp) ?_
  intro k hk
  simp only [List.mem_cons, List.mem_nil_iff, or_false] at hk
  subst hk
  refine wpOp_runN rfl rfl (wp_callN 31 #[.pointer (some ⟨D, 0, none⟩), .slice av l.length cv] (by simp [execOp, go_sem, Act.eval, resolve, invoke, enN_t]) ((HZr.out w4 j4.old j4.b).mono ?_))
  rintro e w5 ⟨rfl, h5, t5⟩
  have f5 := f4.two t5 e3 e4
  have HJ5 := hidOf (j4.right h5 t5)
  refine ⟨f5, ?_⟩
  simp only [List.getElem_toArray, List.getElem_cons_succ, List.getElem_cons_zero, Act.put, List.setIfInBounds_toArray, List.set_cons_succ, List.set_cons_zero]
  refine wpAnyH_take (i := 10) (v := (.bool true)) rfl (by kernel_rfl) (by kernel_rfl) (by kernel_rfl) (fun _ _ _ h => h) (.inl ⟨rfl, fun _ hS => by simp [execOp, go_sem, Act.eval]⟩) f5 ?_
  simp only [List.getElem_toArray, List.getElem_cons_succ, List.getElem_cons_zero, Act.put, List.setIfInBounds_toArray, List.set_cons_succ, List.set_cons_zero]
  refine wpAnyH_take (i := 11) (v := (.bool true)) rfl (by kernel_rfl) (by kernel_rfl) (by kernel_rfl) (fun _ _ _ h => h) (.inl ⟨rfl, fun _ hS => rfl⟩) f5 ?_
  simp only [List.getElem_toArray, List.getElem_cons_succ, List.getElem_cons_zero, Act.put, List.setIfInBounds_toArray, List.set_cons_succ, List.set_cons_zero]
  refine wpAnyH_done (by kernel_rfl) ?_ _
  clear f1 f2 f3 f4 f5 j1 j3 j4 h4 h5 t4 t5 hw1 ho ho' hg b2 b3 B2 hs3
  go_wp2
  go_ret
  exact ⟨rfl, _, HJ5.out⟩
set_option maxHeartbeats 8000000 in
theorem does9_x (h : Jn w C P D Q c c W) (a : A9) (h0 : a.kd ≠ 0) (h2 : a.kd ≠ 2) (h3 : a.kd ≠ 3) (h4 : a.kd ≠ 4) (h5 : a.kd ≠ 5) (h6 : a.kd ≠ 6) :
    Calls Try.prog 15 #[.pointer (some ⟨C, 0, none⟩), .pointer (some ⟨D, 0, none⟩), .agg a.cells.toArray] W (Dn9 w C P D Q) := by
  obtain ⟨W1, q, hW1, hq, fA, hJ, e1, e2, e3, e4⟩ := h.box a.cells.toArray
  have A0 : a.cells.toArray[0]? = some (.int .i64 a.kd) := rfl
  have c0 := fA.cell 0
  rw [A0] at c0
  have HJ1 := hidOf hJ
  generalize a.cells.toArray = A at *
  generalize a.kd = kd at *
  have b0 : (kd == 0) = false := by simpa using h0
  have b2 : (kd == 2) = false := by simpa using h2
  have b3 : (kd == 3) = false := by simpa using h3
  have b4 : (kd == 4) = false := by simpa using h4
  have b5 : (kd == 5) = false := by simpa using h5
  have b6 : (kd == 6) = false := by simpa using h6
  clear hJ fA h A0
  go_enter Try.func15, Try.ntmps15
  go_wp2
  go_ret
  exact ⟨rfl, _, HJ1.out⟩
theorem does9_any (h : Jn w C P D Q c c W) (a : A9) (ha : a.ok w) :
    Calls Try.prog 15 #[.pointer (some ⟨C, 0, none⟩), .pointer (some ⟨D, 0, none⟩), .agg a.cells.toArray] W (Dn9 w C P D Q) := by
  by_cases k0 : a.kd = 0
  · exact does9_0 h a ha k0
  by_cases k2 : a.kd = 2
  · exact does9_2 h a ha k2
  by_cases k3 : a.kd = 3
  · exact does9_3 h a ha k3
  by_cases k4 : a.kd = 4
  · exact does9_4 h a ha k4
  by_cases k5 : a.kd = 5
  · exact does9_5 h a ha k5
  by_cases k6 : a.kd = 6
  · exact does9_6 h a ha k6
  exact does9_x h a k0 k2 k3 k4 k5 k6
end
end Go.Proofs.Ythbcpmakhdogmaa
