/- A chip in memory; contracts of its small calls. -/
import Derived.Test.YthbcpmakhdogmaaNvM
import Derived.Test.YthbcpmakhdogmaaTyE
import Derived.Test.YthbcpmakhdogmaaTyLa
import Derived.Deep.MidRow
import Derived.Deep.WholeRow
import Derived.Laws.CopyRow
import Derived.Laws.MakeOwn
namespace Go.Proofs.Ythbcpmakhdogmaa
open Go.RowKit Go.Proofs.Ty Go.Proofs.Nv
set_option linter.unusedVariables false
set_option maxRecDepth 1000000
set_option linter.unusedSimpArgs false
/-- Blocks other than g and h stand; nothing else is changed. -/
structure Two (g h : Nat) (w w' : World) : Prop where
  os : w'.os = w.os
  tape : w'.tape = w.tape
  output : w'.output = w.output
  size : w.heap.size ≤ w'.heap.size
  block : ∀ k, k < w.heap.size → k ≠ g → k ≠ h → w'.heap[k]? = w.heap[k]?
section
variable {g h : Nat} {a b c w : World}
theorem Two.refl (g h : Nat) (w : World) : Two g h w w := ⟨rfl, rfl, rfl, Nat.le_refl _, fun _ _ _ _ => rfl⟩
theorem Two.trans (x : Two g h a b) (y : Two g h b c) : Two g h a c :=
  ⟨y.os.trans x.os, y.tape.trans x.tape, y.output.trans x.output, Nat.le_trans x.size y.size, fun k hk h1 h2 => (y.block k (Nat.lt_of_lt_of_le hk x.size) h1 h2).trans (x.block k hk h1 h2)⟩
theorem Two.setCell (x : Two g h a w) {p : Addr} (hp : p.block = g ∨ p.block = h ∨ a.heap.size ≤ p.block) (v : Value) : Two g h a (w.setCell p v) :=
  ⟨x.os, x.tape, x.output, by simpa [World.setCell] using x.size, fun k hk h1 h2 => (Below.heap_setCell w p v k (by omega)).trans (x.block k hk h1 h2)⟩
theorem Two.alloc (x : Two g h a w) (o : Obj) : Two g h a (w.alloc o) :=
  ⟨x.os, x.tape, x.output, Nat.le_trans x.size (by simp), fun k hk h1 h2 => (Below.heap_alloc _ _ _ (Nat.lt_of_lt_of_le hk x.size)).trans (x.block k hk h1 h2)⟩
theorem Two.drawn (x : Two g h a w) (n : Nat) : Two g h a (w.drewN n) := ⟨x.os, x.tape, x.output, x.size, x.block⟩
theorem Two.row (x : Two g h a w) (q : Nat) (hq : q = g ∨ q = h ∨ a.heap.size ≤ q) (cs : Array Value) : Two g h a (w.setRow q cs) :=
  ⟨x.os, x.tape, x.output, by simpa [World.setRow] using x.size, fun k hk h1 h2 => (Go.Proofs.Ythbcpmakhdogmaa.setRow_other w q k _ (by omega)).trans (x.block k hk h1 h2)⟩
theorem Two.at0 (x : Two g h a w) (i : Nat) (v : Value) : Two g h a (w.setCell ⟨g, i, none⟩ v) := x.setCell (p := ⟨g, i, none⟩) (.inl rfl) v
theorem Two.below (x : Two g h a w) {B : Nat} (hB : B ≤ a.heap.size) (hg : B ≤ g) (hh : B ≤ h) : Below B a w :=
  ⟨x.os, x.tape, x.output, x.size, fun k hk => x.block k (by omega) (by omega) (by omega)⟩
theorem Two.of_below (x : Below a.heap.size a w) (g h : Nat) : Two g h a w := ⟨x.os, x.tape, x.output, x.size, fun k hk _ _ => x.block k hk⟩
end
abbrev byC (l : List UInt8) : List Value := Lib.byteCells l
/-- A page as a value. -/
def pgV (b : List UInt8) : Value := .agg (byC b).toArray
/-- The chip in block C, its pages in block P. -/
structure Cm (C P : Nat) (c : Ch) (w : World) : Prop where
  head : w.heap[C]? = some (.cells #[.slice (some ⟨P, 0, none⟩) c.n c.n, .int .i64 c.left, .bool c.dead] 51 (0, 0))
  pages : w.heap[P]? = some (.cells (byC c.pg).toArray 38 (0, 0))
  ok : c.Ok
theorem byC_get (l : List UInt8) (k : Nat) (h : k < l.length) : (byC l)[k]? = some (.int .u8 l[k].toNat) := by
  simp [Lib.byteCells, h]
theorem byC_splice (l b : List UInt8) (o : Nat) : byC (splice l o b) = splice (byC l) o (byC b) := by
  show Lib.byteCells _ = splice (Lib.byteCells _) _ (Lib.byteCells _)
  simp only [Lib.byteCells, splice_map]
section
variable {C P : Nat} {c : Ch} {w : World}
theorem Cm.lt (h : Cm C P c w) : C < w.heap.size := (Array.getElem?_eq_some_iff.1 h.head).1
theorem Cm.ltP (h : Cm C P c w) : P < w.heap.size := (Array.getElem?_eq_some_iff.1 h.pages).1
theorem Cm.ne (h : Cm C P c w) : C ≠ P := by
  intro e
  have h1 := h.head
  rw [e, h.pages] at h1
  simp at h1
theorem Cm.c0 (h : Cm C P c w) : w.cell? ⟨C, 0, none⟩ = some (.slice (some ⟨P, 0, none⟩) c.n c.n) := Lib.cell_of_heap h.head 0
theorem Cm.c1 (h : Cm C P c w) : w.cell? ⟨C, 1, none⟩ = some (.int .i64 c.left) := Lib.cell_of_heap h.head 1
theorem Cm.c2 (h : Cm C P c w) : w.cell? ⟨C, 2, none⟩ = some (.bool c.dead) := Lib.cell_of_heap h.head 2
theorem Cm.free (h : Cm C P c w) (k : Nat) : w.frozen? ⟨C, k, none⟩ = false := Lib.frozen_of_heap h.head k
theorem Cm.kept {w' : World} (h : Cm C P c w) (h1 : w'.heap[C]? = w.heap[C]?) (h2 : w'.heap[P]? = w.heap[P]?) : Cm C P c w' := ⟨h1.trans h.head, h2.trans h.pages, h.ok⟩
theorem Cm.below {w' : World} (h : Cm C P c w) (hb : Below w.heap.size w w') : Cm C P c w' := h.kept (hb.block C h.lt) (hb.block P h.ltP)
theorem Cm.two {g k : Nat} {w' : World} (h : Cm C P c w) (t : Two g k w w') (h1 : C ≠ g) (h2 : C ≠ k) (h3 : P ≠ g) (h4 : P ≠ k) : Cm C P c w' := h.kept (t.block C h.lt h1 h2) (t.block P h.ltP h3 h4)
theorem Cm.drawn (h : Cm C P c w) (n : Nat) : Cm C P c (w.drewN n) := ⟨h.head, h.pages, h.ok⟩
theorem Cm.setHead (h : Cm C P c w) (d : Ch) (hp : d.pg = c.pg) (hn : d.n = c.n) (hok : d.Ok) : Cm C P d (w.setRow C #[.slice (some ⟨P, 0, none⟩) c.n c.n, .int .i64 d.left, .bool d.dead]) := by
  refine ⟨?_, ?_, hok⟩
  · rw [hn]; exact Go.Proofs.Ythbcpmakhdogmaa.setRow_heap w C _ _ _ _ h.head
  · rw [hp]; exact (Go.Proofs.Ythbcpmakhdogmaa.setRow_other w C P _ h.ne.symm).trans h.pages
theorem Cm.left1 (h : Cm C P c w) (x : Int) (d : Ch) (hp : d.pg = c.pg) (hn : d.n = c.n) (hx : d.left = x) (hd : d.dead = c.dead) (hok : d.Ok) : Cm C P d (w.setCell ⟨C, 1, none⟩ (.int .i64 x)) := by
  refine ⟨?_, ?_, hok⟩
  · rw [hn, hx, hd]
    simp only [World.setCell, Array.getElem?_modify, h.head]
    simp
  · rw [hp]; exact (Below.heap_setCell w ⟨C, 1, none⟩ _ P (fun e => h.ne e.symm)).trans h.pages
theorem Cm.dead2 (h : Cm C P c w) (x : Bool) (d : Ch) (hp : d.pg = c.pg) (hn : d.n = c.n) (hx : d.left = c.left) (hd : d.dead = x) (hok : d.Ok) : Cm C P d (w.setCell ⟨C, 2, none⟩ (.bool x)) := by
  refine ⟨?_, ?_, hok⟩
  · rw [hn, hx, hd]
    simp only [World.setCell, Array.getElem?_modify, h.head]
    simp
  · rw [hp]; exact (Below.heap_setCell w ⟨C, 2, none⟩ _ P (fun e => h.ne e.symm)).trans h.pages
/-- A row of cells in which bytes are written anew. -/
def putA (cur : Array Value) (o : Nat) (b : List UInt8) : Array Value := (cur.toList.take o ++ byC b ++ cur.toList.drop (o + (byC b).length)).toArray
/-- A page is laid. -/
theorem Cm.page (h : Cm C P c w) (i : Nat) (b : List UInt8) (d : Ch) (hp : d.pg = splice c.pg (8 * i) b) (hn : d.n = c.n) (hx : d.left = c.left) (hd : d.dead = c.dead) (hok : d.Ok) :
    Cm C P d (w.setRow P (putA (byC c.pg).toArray (8 * i) b)) := by
  refine ⟨?_, ?_, hok⟩
  · rw [hn, hx, hd]; exact (Go.Proofs.Ythbcpmakhdogmaa.setRow_other w P C _ h.ne).trans h.head
  · rw [hp, byC_splice]
    exact Go.Proofs.Ythbcpmakhdogmaa.setRow_heap w P _ _ _ _ h.pages
theorem has_any (h : Cm C P c w) (i : Int) : Calls Try.prog 38 #[.pointer (some ⟨C, 0, none⟩), .int .i64 i] w fun e w' => e = .returned (.bool (c.has i)) ∧ w' = w := by
  have c0 := h.c0
  have HO : Hid (c.has i = decide (0 ≤ i ∧ i < c.n)) := rfl
  generalize c.has i = o at *
  generalize c.n = n at *
  clear h
  by_cases h1 : 0 ≤ i
  · have hd : decide (0 ≤ i) = true := by simpa using h1
    go_enter Try.func38, Try.ntmps38
    go_wp2
    go_ret
    exact ⟨ret_bool (by rw [HO.out]; simp [h1]), rfl⟩
  · have hd : decide (0 ≤ i) = false := by simpa using h1
    go_enter Try.func38, Try.ntmps38
    go_wp2
    go_ret
    exact ⟨ret_bool (by rw [HO.out]; simp; omega), rfl⟩
theorem Pages_any (h : Cm C P c w) : Calls Try.prog 34 #[.pointer (some ⟨C, 0, none⟩)] w fun e w' => e = .returned (.int .i64 c.n) ∧ w' = w := by
  have c0 := h.c0
  go_enter Try.func34, Try.ntmps34
  go_wp2
  go_ret
  exact ⟨rfl, rfl⟩
theorem Dead_any (h : Cm C P c w) : Calls Try.prog 18 #[.pointer (some ⟨C, 0, none⟩)] w fun e w' => e = .returned (.bool c.dead) ∧ w' = w := by
  have c2 := h.c2
  go_enter Try.func18, Try.ntmps18
  go_wp2
  go_ret
  exact ⟨rfl, rfl⟩
theorem halfPages_any (h : Cm C P c w) : Calls Try.prog 22 #[.pointer (some ⟨C, 0, none⟩)] w fun e w' => e = .returned (.int .i64 c.many) ∧ w' = w := by
  have HP := Pages_any h
  have h1 := h.ok.hi
  have HO : Hid (c.many = c.n / 2) := rfl
  generalize c.many = m at *
  generalize c.n = n at *
  go_enter Try.func22, Try.ntmps22
  go_wp2_with (go_at_call 34; refine HP.mono ?_; rintro e w' ⟨rfl, rfl⟩)
  go_ret
  exact ⟨ret_int (by rw [HO.out]; try omega), rfl⟩
theorem Room_any (h : Cm C P c w) : Calls Try.prog 11 #[.pointer (some ⟨C, 0, none⟩)] w fun e w' => e = .returned (.int .i64 c.room) ∧ w' = w := by
  have HP := halfPages_any h
  have h1 := h.ok.hi
  have h2 := h.ok.lo
  have HM : Hid (c.many = c.n / 2) := rfl
  have HO : Hid (c.room = 8 * (c.n / 2 - 1)) := rfl
  generalize c.many = m at *
  generalize c.room = r at *
  have h3 : m ≤ 16384 ∧ 2 ≤ m := by have := HM.out; omega
  have HR : Hid (r = 8 * (m - 1)) := by show r = _; rw [HO.out, HM.out]
  clear HO HM h1 h2
  go_enter Try.func11, Try.ntmps11
  go_wp2_with (go_at_call 22; refine HP.mono ?_; rintro e w' ⟨rfl, rfl⟩)
  go_ret
  exact ⟨ret_int (by rw [HR.out]; try omega), rfl⟩
theorem Room_nil (w : World) : Calls Try.prog 11 #[.pointer none] w fun e w' => e = .returned (.int .i64 0) ∧ w' = w := by
  go_enter Try.func11, Try.ntmps11
  go_wp2
  go_ret
  exact ⟨rfl, rfl⟩
theorem Power_any (h : Cm C P c w) : Calls Try.prog 19 #[.pointer (some ⟨C, 0, none⟩)] w fun e w' => (∃ v, e = .returned v) ∧ Cm C P c.power w' ∧ Two C P w w' := by
  have c1 := h.c1
  have c2 := h.c2
  have hf := h.free
  have HC := hidOf (h.left1 (-1) ⟨c.pg, c.n, -1, c.dead⟩ rfl rfl rfl rfl ⟨h.ok.len, h.ok.lo, h.ok.hi, by show (-1 : Int) ≤ -1; decide, by show (-1 : Int) < 9223372036854775808; decide⟩)
  have HT := hidOf ((Two.refl C P w).at0 1 (.int .i64 (-1)))
  clear h
  go_enter Try.func19, Try.ntmps19
  go_wp2
  go_end0
  exact ⟨⟨_, rfl⟩, HC.out.dead2 false c.power rfl rfl rfl rfl (Ch.power_ok (c := ⟨c.pg, c.n, -1, c.dead⟩) HC.out.ok), HT.out.at0 2 _⟩
theorem Cut_any (h : Cm C P c w) (a : Int) (h0 : -9223372036854775808 ≤ a) (ha : a < 9223372036854775808) : Calls Try.prog 17 #[.pointer (some ⟨C, 0, none⟩), .int .i64 a] w fun e w' => (∃ v, e = .returned v) ∧ Cm C P (c.cut a) w' ∧ Two C P w w' := by
  have c1 := h.c1
  have hf := h.free
  have HC := hidOf (h.left1 (c.cut a).left (c.cut a) rfl rfl rfl rfl (Ch.cut_ok h.ok ha))
  have HT := hidOf ((Two.refl C P w).at0 1 (.int .i64 (c.cut a).left))
  have HL : Hid ((c.cut a).left = if a < -1 then -1 else a) := rfl
  generalize (c.cut a).left = L at *
  clear h
  by_cases h1 : a < -1
  · obtain rfl : L = -1 := by rw [HL.out, if_pos h1]
    go_enter Try.func17, Try.ntmps17
    go_wp2
    go_end0
    exact ⟨⟨_, rfl⟩, HC.out, HT.out⟩
  · obtain rfl : L = a := by rw [HL.out, if_neg h1]
    go_enter Try.func17, Try.ntmps17
    go_wp2
    go_end0
    exact ⟨⟨_, rfl⟩, HC.out, HT.out⟩
/-- Storing of a page's bytes at its place. -/
theorem infoA8 : (Try.prog.info? 38).map (·.size) = some 8 := by kernel_rfl
theorem byC_len (l : List UInt8) : (byC l).length = l.length := Lib.byteCells_length l
theorem run_storePg (w : World) (g o : Nat) (cur : Array Value) (t : TypeId) (b : List UInt8) (hb : b.length = 8) (hg : w.heap[g]? = some (.cells cur t (0, 0))) (ho : o + 8 ≤ cur.size) :
    (Instr.storeAt 38 (.pointer (some ⟨g, o, none⟩)) (pgV b)).run Try.prog w = .ok () (w.setRow g (putA cur o b)) := by
  have hst := run_storeCells_at Try.prog g o t (byC b) 0 cur w hg (by rw [byC_len, hb]; omega) (byteCells_one b)
  cases hq : Try.prog.info? 38 with
  | none => have := infoA8; simp [hq] at this
  | some i =>
    have hs : i.size = 8 := by have := infoA8; simpa [hq] using this
    simp only [Nat.add_zero] at hst
    simp [Instr.storeAt, Instr.sureAddr, pgV, storeVar, sizeOf, typeInfo, hq, Value.cells, hs, byC_len, hb, hst, putA]
theorem wp_storePg {w : World} {o : Oper} {a : Act} {K : Act → World → Prop} {Q : Exit → Act → World → Prop} (x y : Operand) (ho : o.op = .store 38 x y) (g of : Nat) (cur : Array Value) (t : TypeId) (b : List UInt8) (hb : b.length = 8) (hx : a.eval x = .pointer (some ⟨g, of, none⟩)) (hy : a.eval y = pgV b) (hg : w.heap[g]? = some (.cells cur t (0, 0))) (hof : of + 8 ≤ cur.size)
    (h : K (a.put o.dst undef) (w.setRow g (putA cur of b))) : o.wp Try.prog a w K Q := by
  unfold Oper.wp execOp
  simp only [ho, hx, hy, Sem.run_bind, Sem.run_pure, Result.andThen_ok, run_storePg w g of cur t b hb hg hof]
  exact h
theorem Cm.range (h : Cm C P c w) (i : Nat) (hi : i < c.n) : w.rangeAt P (8 * i) (byC ((c.pg.drop (8 * i)).take 8)) := by
  intro j v hv
  have hl := h.ok.len
  have hj : j < 8 := by
    have := (List.getElem?_eq_some_iff.1 hv).1
    rw [byC_len, List.length_take] at this
    omega
  rw [Lib.cell_of_heap h.pages]
  have : (byC ((c.pg.drop (8 * i)).take 8))[j]? = (byC c.pg)[8 * i + j]? := by
    simp [Lib.byteCells, List.getElem?_take, hj]
  rw [this] at hv
  simpa using hv
theorem Cm.ld (h : Cm C P c w) (i : Nat) (hi : i < c.n) : (loadVar 38 ⟨P, 8 * i, none⟩).run Try.prog w = .ok (pgV ((c.pg.drop (8 * i)).take 8)) w :=
  run_loadVar_mid w P (8 * i) 38 _ _ (h.range i hi) Try.underlying38 rfl (by rw [infoA8, byC_len, List.length_take, List.length_drop, h.ok.len]; congr 1; omega)
end
end Go.Proofs.Ythbcpmakhdogmaa
