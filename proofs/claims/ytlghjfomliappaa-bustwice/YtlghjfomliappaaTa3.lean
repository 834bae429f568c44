/- Contracts of a reader's mark, number and fixed. Contracts of a reader's field and end. Contracts of the program's Check, bytesOf and Longest, and of what looks at a text. Contract of a reader's body. append of one byte to bytes of the call's own. A region that draws its order and whose calls make memory, but leave what was there: one walk, in the order of the text. The document's own arbitration field. Contracts of a writer's number, mark and field. Contract of a writer's body. Contracts of Encode and Field. -/
import Derived.Test.YtlghjfomliappaaTa2
import Derived.Deep.RegionWith
namespace Go.Proofs.Ytlghjfomliappaa
open Go.RowKit Go.Proofs.Bits
set_option linter.unusedVariables false
set_option maxRecDepth 1000000

section
variable {t : List UInt8} {s : RS} {g : Nat} {w : World}

def markV (b : UInt8) : Value := .bool (decide (b = 49))
theorem mark_eq (b : UInt8) : ((b.toNat : Int) == 49) = decide (b = 49) := by
  by_cases h : b = 49
  · subst h; rfl
  · have : b.toNat ≠ 49 := fun e => h (UInt8.toNat_inj.1 e)
    simp [h]; omega

def u32V (bs : List UInt8) : Value := .int .u32 (val bs)
theorem val_step32 (x : Nat) (b : UInt8) (hb : b.toNat = 48 ∨ b.toNat = 49) (hx : x < 262144) :
    bits BinOp.or IntKind.u32 ((x : Int) * 2) ((b.toNat : Int) - 48) = ((valStep x b : Nat) : Int) := by
  rw [show ((b.toNat : Int) - 48) = ((b.toNat - 48 : Nat) : Int) by omega, show ((x : Int) * 2) = ((x * 2 : Nat) : Int) by omega, u32_or_nat _ _ (by omega) (by omega), or_bit _ _ (by omega)]
  rfl

end
end Go.Proofs.Ytlghjfomliappaa
namespace Go.Proofs.Ytlghjfomliappaa
open Go.RowKit Go.Proofs.Bits
set_option linter.unusedVariables false
set_option maxRecDepth 1000000

section
variable {t : List UInt8} {s : RS} {g : Nat} {w : World}

theorem bindR_step {α β : Type} {m : RM α} {k : α → RM β} {s s' : RS} {a : α} {r : Except Flt (β × RS)} (H : bindR m k s = r) (h : m s = .ok (a, s')) : k a s' = r := (bindR_ok h).symm.trans H
theorem bindR_fail {α β : Type} {m : RM α} {k : α → RM β} {s : RS} {f : Flt} {r : Except Flt (β × RS)} (H : bindR m k s = r) (h : m s = .error f) : r = .error f := H.symm.trans (bindR_error h)

theorem size_alloc (w : World) (o : Obj) : (w.alloc o).heap.size = w.heap.size + 1 := by simp only [World.alloc, Array.size_push]
def Fr.nul : Fr := ⟨0, false, false, 0, [0, 0, 0, 0, 0, 0, 0, 0], by decide, by decide, rfl⟩
def Fr.setId (f : Fr) (n : Nat) (h : n < 4294967296) : Fr := { f with id := n, hid := h }
def Fr.setExt (f : Fr) (b : Bool) : Fr := { f with ext := b }
def Fr.setRem (f : Fr) (b : Bool) : Fr := { f with rem := b }
def Fr.setLen (f : Fr) (n : Int) (h : -9223372036854775808 ≤ n ∧ n < 9223372036854775808) : Fr := { f with len := n, hlen := h }
theorem Fr.arr_id (f : Fr) (n : Nat) (h : n < 4294967296) : f.arr.setIfInBounds 0 (.int .u32 n) = (f.setId n h).arr := by simp [Fr.arr, Fr.cells, Fr.setId]
theorem Fr.arr_ext (f : Fr) (b : Bool) : f.arr.setIfInBounds 1 (.bool b) = (f.setExt b).arr := by simp [Fr.arr, Fr.cells, Fr.setExt]
theorem Fr.arr_rem (f : Fr) (b : Bool) : f.arr.setIfInBounds 2 (.bool b) = (f.setRem b).arr := by simp [Fr.arr, Fr.cells, Fr.setRem]
theorem Fr.arr_len (f : Fr) (n : Int) (h : -9223372036854775808 ≤ n ∧ n < 9223372036854775808) : f.arr.setIfInBounds 3 (.int .i64 n) = (f.setLen n h).arr := by simp [Fr.arr, Fr.cells, Fr.setLen]
theorem Fr.one (f : Fr) : f.arr.all (·.oneCell') = true := by
  rw [Array.all_eq_true_iff_forall_mem]
  intro x hx
  simp only [Fr.arr, List.mem_toArray, Fr.cells, List.mem_append, List.mem_cons, List.mem_map, List.not_mem_nil, or_false] at hx
  rcases hx with (rfl | rfl | rfl | rfl) | ⟨c, _, rfl⟩ <;> rfl
theorem infoF : (Try.prog.info? 38).map (·.size) = some 12 := by kernel_rfl
/-- The frame f lies in block q. -/
def Fa (q : Nat) (f : Fr) (w : World) : Prop := w.heap[q]? = some (.cells f.arr 38 (0, 0))
section
variable {q : Nat} {f : Fr}
theorem Fa.lt (h : Fa q f w) : q < w.heap.size := (Array.getElem?_eq_some_iff.1 h).1
theorem Fa.new (w : World) (f : Fr) : Fa w.heap.size f (w.alloc (.cells f.arr 38)) := heap_alloc_new w _
theorem Fa.alloc (h : Fa q f w) (o : Obj) : Fa q f (w.alloc o) := (Lib.alloc_old w o q h.lt).trans h
theorem Fa.keep {w' : World} (h : Fa q f w) (hk : Kp g w w') (hq : q ≠ g) : Fa q f w' := hk.2 q _ h (fun e => hq (Option.some.inj e)) (fun _ _ e => by cases e)
theorem Fa.other (h : Fa q f w) {p : Addr} (hp : q ≠ p.block) (v : Value) : Fa q f (w.setCell p v) := (Below.heap_setCell w p v q hp).trans h
theorem Fa.set (h : Fa q f w) (i : Nat) (v : Value) : (w.setCell ⟨q, i, none⟩ v).heap[q]? = some (.cells (f.arr.setIfInBounds i v) 38 (0, 0)) := by
  have h : w.heap[q]? = some (.cells f.arr 38 (0, 0)) := h
  simp only [World.setCell, Array.getElem?_modify, h]
  simp
theorem Fa.setId (h : Fa q f w) (n : Nat) (hn : n < 4294967296) : Fa q (f.setId n hn) (w.setCell ⟨q, 0, none⟩ (.int .u32 n)) := by unfold Fa; rw [h.set, f.arr_id]
theorem Fa.setExt (h : Fa q f w) (b : Bool) : Fa q (f.setExt b) (w.setCell ⟨q, 1, none⟩ (.bool b)) := by unfold Fa; rw [h.set, f.arr_ext]
theorem Fa.setRem (h : Fa q f w) (b : Bool) : Fa q (f.setRem b) (w.setCell ⟨q, 2, none⟩ (.bool b)) := by unfold Fa; rw [h.set, f.arr_rem]
theorem Fa.setLen (h : Fa q f w) (n : Int) (hn : -9223372036854775808 ≤ n ∧ n < 9223372036854775808) : Fa q (f.setLen n hn) (w.setCell ⟨q, 3, none⟩ (.int .i64 n)) := by unfold Fa; rw [h.set, f.arr_len]
theorem Fa.row (h : Fa q f w) (f' : Fr) : Fa q f' (w.setRow q f'.arr) := setRow_heap w q f.arr _ 38 _ h
theorem Fa.frozen (h : Fa q f w) (k : Nat) : w.frozen? ⟨q, k, none⟩ = false := Lib.frozen_of_heap h k
theorem Fa.c0 (h : Fa q f w) : w.cell? ⟨q, 0, none⟩ = some (.int .u32 f.id) := (Lib.cell_of_heap h 0).trans f.arr0
theorem Fa.c1 (h : Fa q f w) : w.cell? ⟨q, 1, none⟩ = some (.bool f.ext) := (Lib.cell_of_heap h 1).trans f.arr1
theorem Fa.c2 (h : Fa q f w) : w.cell? ⟨q, 2, none⟩ = some (.bool f.rem) := (Lib.cell_of_heap h 2).trans f.arr2
theorem Fa.c3 (h : Fa q f w) : w.cell? ⟨q, 3, none⟩ = some (.int .i64 f.len) := (Lib.cell_of_heap h 3).trans f.arr3
theorem Fa.load (h : Fa q f w) : (loadVar 38 ⟨q, 0, none⟩).run Try.prog w = .ok (.agg f.arr) w :=
  run_loadVar_row w q 38 38 f.arr (0, 0) _ h Try.underlying38 rfl (by rw [f.arr_size]; exact infoF)
theorem Fa.store (h : Fa q f w) (f' : Fr) : (storeVar 38 ⟨q, 0, none⟩ (.agg f'.arr)).run Try.prog w = .ok () (w.setRow q f'.arr) :=
  run_storeVar_row w q 38 38 f.arr f'.arr h (by rw [f'.arr_size]; exact infoF) (by rw [f.arr_size, f'.arr_size]) f'.one
theorem Fa.ld {ops : Array Oper} {rest : List Oper} {o : Oper} {a : Act} {Q : Exit → Act → World → Prop} (h : Fa q f w) (hgd : o.guard = none) (x : Operand) (ho : o.op = .load 38 x) (hx : a.eval x = .pointer (some ⟨q, 0, none⟩))
    (hh : wpList Try.prog ops Q rest (a.put o.dst (.agg f.arr)) w) : wpList Try.prog ops Q (o :: rest) a w :=
  wpList_load_row hgd 38 x ho q hx 38 f.arr (0, 0) _ h Try.underlying38 rfl (by rw [f.arr_size]; exact infoF) hh
theorem Fa.sd {ops : Array Oper} {rest : List Oper} {o : Oper} {a : Act} {Q : Exit → Act → World → Prop} (h : Fa q f w) (f' : Fr) (hgd : o.guard = none) (x y : Operand) (ho : o.op = .store 38 x y) (hx : a.eval x = .pointer (some ⟨q, 0, none⟩)) (hy : a.eval y = .agg f'.arr)
    (hh : wpList Try.prog ops Q rest (a.put o.dst undef) (w.setRow q f'.arr)) : wpList Try.prog ops Q (o :: rest) a w :=
  wpList_store_row hgd 38 x y ho q f'.arr hx hy 38 f.arr h (by rw [f'.arr_size]; exact infoF) (by rw [f.arr_size, f'.arr_size]) f'.one hh
end

section
variable {w0 : World} {q0 q1 : Nat} {f : Fr}
end
theorem setRow_kept (w : World) (q : Nat) (c : Array Value) : w.grownBy (w.setRow q c) (some q) := ⟨rfl, rfl, rfl, by simp [World.setRow], fun k _ hk => setRow_other w q k _ (fun e => hk (by simp [e]))⟩
theorem ite_yes {β : Type} {c : Prop} [Decidable c] {A B : RM β} {s : RS} {r : Except Flt (β × RS)} (H : Hid ((if c then A else B) s = r)) (h : c) : Hid (A s = r) := by rw [if_pos h] at H; exact H
theorem ite_no {β : Type} {c : Prop} [Decidable c] {A B : RM β} {s : RS} {r : Except Flt (β × RS)} (H : Hid ((if c then A else B) s = r)) (h : ¬ c) : Hid (B s = r) := by rw [if_neg h] at H; exact H
theorem join18 (a b : Nat) (ha : a < 2048) (hb : b < 262144) : bits BinOp.or IntKind.u32 (IntKind.u32.wrap ((a : Int) * 262144)) (b : Int) = ((a * 262144 + b : Nat) : Int) := by
  have e : ∀ n : Int, IntKind.u32.wrap n = n % 4294967296 := fun n => by simp [IntKind.wrap, IntKind.bits, IntKind.signed]
  rw [e, show ((a : Int) * 262144) % 4294967296 = ((a * 262144 : Nat) : Int) by omega, u32_or_nat _ _ (by omega) (by omega), nat_join 18 (a * 262144) b (by omega) (by omega)]

def fieldF (h : Nat × Bool × Bool) : Fr := if hh : h.1 < 4294967296 then ((Fr.nul.setId h.1 hh).setExt h.2.1).setRem h.2.2 else Fr.nul
def fieldV (h : Nat × Bool × Bool) : Value := (fieldF h).val

end
end Go.Proofs.Ytlghjfomliappaa
namespace Go.Proofs.Ytlghjfomliappaa
open Go.RowKit Go.Proofs.Bits
set_option linter.unusedVariables false
set_option maxRecDepth 1000000

set_option maxHeartbeats 1000000 in
theorem fbytesOf_any (f : Fr) (w : World) :
    Calls Try.prog 54 #[f.val] w fun e w' => e = .returned (.int .i64 f.bytes) ∧ Below w.heap.size w w' := by
  have h2 := f.arr2
  have h3 := f.arr3
  have hlen := f.hlen
  have HB : Hid (f.bytes = if f.rem || decide (f.len < 0) then 0 else if 8 < f.len then 8 else f.len.toNat) := rfl
  unfold Fr.val
  generalize f.arr = A at *
  generalize f.bytes = n at *
  generalize f.rem = rem at *
  generalize f.len = len at *
  clear f
  go_enter Try.func54, Try.ntmps54
  cases rem
  · go_wp2
    go_ret
    refine ⟨ret_int ?_, (Below.refl _ _).alloc (Nat.le_refl _) _⟩
    rw [HB.out]
    simp only [Bool.false_or, decide_eq_true_eq]
    split
    · omega
    · split <;> omega
  · go_wp2
    go_ret
    exact ⟨ret_int (by rw [HB.out]; simp), (Below.refl _ _).alloc (Nat.le_refl _) _⟩

set_option maxHeartbeats 1000000 in
theorem fCheck_any (f : Fr) (w : World) :
    Calls Try.prog 31 #[f.val] w fun e w' => e = .returned (.int .i64 f.chk) ∧ Below w.heap.size w w' := by
  have h0 := f.arr0
  have h1 := f.arr1
  have h3 := f.arr3
  have hid := f.hid
  have hlen := f.hlen
  have HB : Hid (f.chk = if (decide (f.len < 0) || decide (15 < f.len) || decide (536870912 ≤ f.id) || (!f.ext && decide (2048 ≤ f.id))) then 1 else 0) := rfl
  unfold Fr.val
  generalize f.arr = A at *
  generalize f.chk = chk at *
  generalize f.id = id at *
  generalize f.ext = ext at *
  generalize f.len = len at *
  clear f
  go_enter Try.func31, Try.ntmps31
  cases ext
  all_goals
    go_wp2
    all_goals
      go_ret
      refine ⟨ret_int ?_, (Below.refl _ _).alloc (Nat.le_refl _) _⟩
      rw [HB.out]
      first
        | rw [if_pos (by simp; omega)]
        | rw [if_neg (by simp; omega)]

end Go.Proofs.Ytlghjfomliappaa
namespace Go.Proofs.Ytlghjfomliappaa
open Go.RowKit Go.Proofs.Bits
set_option linter.unusedVariables false
set_option maxRecDepth 1000000

section
variable {t : List UInt8} {s : RS} {g : Nat} {w w' : World}

theorem Kp.of_below (hb : Below w.heap.size w w') (hg : g ≤ w.heap.size) : Kp g w w' :=
  ⟨hb.mono hg, fun k x hk _ _ => by have hlt : k < w.heap.size := (Array.getElem?_eq_some_iff.1 hk).1; exact (hb.block k hlt).trans hk⟩
theorem owns_below {B n : Nat} {v : Value} {xs : List Value} (h : w.ownsRowF B 5 1 v n xs) (hb : Below w.heap.size w w') : w'.ownsRowF B 5 1 v n xs :=
  h.kept (row := none) ⟨hb.os, hb.tape, hb.output, hb.size, fun k hk _ => hb.block k hk⟩ (by cases hv : v.ownBlock <;> simp)
theorem bindR_inv {α β : Type} {m : RM α} {k : α → RM β} {s s' : RS} {b : β} (h : bindR m k s = .ok (b, s')) : ∃ a s1, m s = .ok (a, s1) ∧ k a s1 = .ok (b, s') := by
  cases hm : m s with
  | error f => rw [bindR_error hm] at h; cases h
  | ok q => exact ⟨q.1, q.2, rfl, (bindR_ok (a := q.1) (s' := q.2) hm).symm.trans h⟩
theorem bitS_grows {b : UInt8} {s' : RS} (h : bitS t s = .ok (b, s')) : s'.seen = s.seen ++ [b] := by
  unfold bitS at h
  split at h
  · cases h
  · split at h
    · split at h
      · cases h
      · split at h
        · cases h
        · simp only [Except.ok.injEq, Prod.mk.injEq] at h; rw [← h.2, ← h.1]
    · simp only [Except.ok.injEq, Prod.mk.injEq] at h; rw [← h.2, ← h.1]
theorem takeS_grows (n : Nat) : ∀ {s s' : RS} {bs : List UInt8}, takeS t n s = .ok (bs, s') → s'.seen = s.seen ++ bs := by
  induction n with
  | zero => intro s s' bs h; simp only [takeS, retR, Except.ok.injEq, Prod.mk.injEq] at h; rw [← h.2, ← h.1]; simp
  | succ n ih =>
    intro s s' bs h
    obtain ⟨b1, s1, h1, h⟩ := bindR_inv h
    obtain ⟨b, s2, h2, h⟩ := bindR_inv h
    simp only [retR, Except.ok.injEq, Prod.mk.injEq] at h
    rw [← h.2, ← h.1, bitS_grows h2, ih h1]; simp
theorem fieldS_inv {hh : Nat × Bool × Bool} {s' : RS} (hall : t.all isBit = true) (hrow : s.row ≤ 4) (h : fieldS t s = .ok (hh, s')) : s'.row ≤ 4 ∧ hh.1 < 536870912 ∧ ∃ l, s'.seen = s.seen ++ l := by
  obtain ⟨a, s1, h1, h⟩ := bindR_inv h
  obtain ⟨b, s2, h2, h⟩ := bindR_inv h
  obtain ⟨c, s3, h3, h⟩ := bindR_inv h
  have r3 := bitS_row h3 (bitS_row h2 (takeS_row 11 h1 hrow))
  have la := takeS_lt hall h1
  have g3 : s3.seen = s.seen ++ (a ++ [b] ++ [c]) := by rw [bitS_grows h3, bitS_grows h2, takeS_grows 11 h1]; simp
  by_cases hx : c = 49
  · rw [if_pos hx] at h
    obtain ⟨d, s4, h4, h⟩ := bindR_inv h
    obtain ⟨e, s5, h5, h⟩ := bindR_inv h
    obtain ⟨f, s6, h6, h⟩ := bindR_inv h
    obtain ⟨f', s7, h7, h⟩ := bindR_inv h
    simp only [retR, Except.ok.injEq, Prod.mk.injEq] at h
    have lb := takeS_lt hall h4
    rw [← h.2, ← h.1]
    exact ⟨bitS_row h7 (bitS_row h6 (bitS_row h5 (takeS_row 18 h4 r3))), by simp only; omega, (a ++ [b] ++ [c]) ++ (d ++ [e] ++ [f] ++ [f']), by rw [bitS_grows h7, bitS_grows h6, bitS_grows h5, takeS_grows 18 h4, g3]; simp⟩
  · rw [if_neg hx] at h
    obtain ⟨d, s4, h4, h⟩ := bindR_inv h
    simp only [retR, Except.ok.injEq, Prod.mk.injEq] at h
    rw [← h.2, ← h.1]
    exact ⟨bitS_row h4 r3, by simp only; omega, a ++ [b] ++ [c] ++ [d], by rw [bitS_grows h4, g3]; simp⟩
theorem bytesS_inv (n : Nat) : ∀ {s s' : RS} {ds : List UInt8}, s.row ≤ 4 → bytesS t n s = .ok (ds, s') → ds.length = n ∧ s'.row ≤ 4 ∧ ∃ l, s'.seen = s.seen ++ l := by
  induction n with
  | zero => intro s s' ds hr h; simp only [bytesS, retR, Except.ok.injEq, Prod.mk.injEq] at h; rw [← h.2, ← h.1]; exact ⟨rfl, hr, [], by simp⟩
  | succ n ih =>
    intro s s' ds hr h
    obtain ⟨b1, s1, h1, h⟩ := bindR_inv h
    obtain ⟨b, s2, h2, h⟩ := bindR_inv h
    simp only [retR, Except.ok.injEq, Prod.mk.injEq] at h
    obtain ⟨i1, i2, l, i3⟩ := ih hr h1
    rw [← h.2, ← h.1]
    exact ⟨by simp [i1], takeS_row 8 h2 i2, l ++ b, by rw [takeS_grows 8 h2, i3]; simp⟩

/-- The frame that was told. -/
def toldF (f : Bits.Told) : Fr := if h : f.id < 4294967296 ∧ f.len < 9223372036854775808 ∧ f.ds.length ≤ 8 then
  ⟨f.id, f.ext, f.rem, f.len, f.ds ++ List.replicate (8 - f.ds.length) 0, h.1, by omega, by simp; omega⟩ else Fr.nul
theorem toldF_pos {f : Bits.Told} (h : f.id < 4294967296 ∧ f.len < 9223372036854775808 ∧ f.ds.length ≤ 8) : toldF f = ⟨f.id, f.ext, f.rem, f.len, f.ds ++ List.replicate (8 - f.ds.length) 0, h.1, by omega, by simp; omega⟩ := by rw [toldF, dif_pos h]
theorem toldF_nil (hh : Nat × Bool × Bool) (n : Nat) (h1 : hh.1 < 4294967296) (h2 : n < 9223372036854775808) : (fieldF hh).setLen n (by omega) = toldF ⟨hh.1, hh.2.1, hh.2.2, n, []⟩ := by
  rw [toldF_pos ⟨h1, h2, by simp⟩, fieldF, dif_pos h1]; rfl
theorem toldF_bytes (hh : Nat × Bool × Bool) (n : Nat) (h1 : hh.1 < 4294967296) (h2 : n < 9223372036854775808) : (toldF ⟨hh.1, hh.2.1, hh.2.2, n, []⟩).bytes = nOf hh.2.2 n := by
  rw [toldF_pos ⟨h1, h2, by simp⟩]
  simp only [Fr.bytes, nOf]
  cases hh.2.2
  · simp only [Bool.false_or, decide_eq_true_eq, Bool.false_eq_true, if_false]
    rw [if_neg (by omega)]
    split <;> omega
  · simp
theorem put_snoc (ds : List UInt8) (c : UInt8) (h : ds.length < 8) : (ds ++ List.replicate (8 - ds.length) (0 : UInt8)).set ds.length c = (ds ++ [c]) ++ List.replicate (8 - (ds ++ [c]).length) 0 := by
  rw [List.set_append_right _ _ (Nat.le_refl _), Nat.sub_self, show 8 - ds.length = (8 - (ds.length + 1)) + 1 by omega, List.replicate_succ]
  simp
theorem toldF_snoc (f : Bits.Told) (c : UInt8) (h1 : f.id < 4294967296) (h2 : f.len < 9223372036854775808) (h3 : f.ds.length < 8) : (toldF f).arr.setIfInBounds (4 + f.ds.length) (.int .u8 c.toNat) = (toldF { f with ds := f.ds ++ [c] }).arr := by
  rw [toldF_pos ⟨h1, h2, by omega⟩, toldF_pos (f := { f with ds := f.ds ++ [c] }) ⟨h1, h2, by simp; omega⟩]
  simp only [Fr.arr, Fr.cells, List.setIfInBounds_toArray, ← put_snoc f.ds c h3]
  congr 1
  rw [show 4 + f.ds.length = f.ds.length + 1 + 1 + 1 + 1 by omega]
  simp [List.map_set]
theorem crc_seen (h : s.ok t) (ht : t.length ≤ 65536) : crcV s.seen = crc s.seen := by
  have : err s.seen = 0 := by
    unfold err
    rw [if_neg (by have := h.1; have := h.2.2.1; omega), if_pos h.2.2.2]
  rw [crcV, if_pos this]
def toldV (f : Bits.Told) : Value := (toldF f).val

end
end Go.Proofs.Ytlghjfomliappaa
namespace Go.Proofs.Ytlghjfomliappaa
open Go.RowKit Go.Proofs.Bits
set_option linter.unusedVariables false
set_option maxRecDepth 1000000

theorem append_one {w : World} {ops : Array Oper} {rest : List Oper} {o : Oper} {a : Act} {Q : Exit → Act → World → Prop} (hgd : Region.wanted o (yielded ops a.tmps) = true) (s x : Operand)
    (ho : o.op = .call { callee := .builtin .append, args := #[s, x], argTypes := #[88, 88] })
    (base : Nat) (v : Value) (xs : List UInt8) (hs : a.eval s = v) (hown : w.ownsRow base 5 1 v xs.length (Lib.byteCells xs))
    (ad : Addr) (c : UInt8) (hx : a.eval x = .slice (some ad) 1 1) (hc : w.cell? ad = some (.int .u8 c.toNat)) (hbytes : xs.length + 1 ≤ 140737488355328) (hbase : base ≤ w.heap.size)
    (h : ∀ v' w', w'.ownsRow base 5 1 v' (xs ++ [c]).length (Lib.byteCells (xs ++ [c])) → w.grownBy w' v.ownBlock → v' ≠ .slice none 0 0 → wpList Try.prog ops Q rest (a.put o.dst v') w') : wpList Try.prog ops Q (o :: rest) a w := by
  obtain ⟨i0, hi, hz0, hz1, hz2⟩ := info_parts info5
  refine append_want hgd s x 88 ho base 5 i0 (.int .u8 0) 1 1 Try.underlying88 hi hz0 hz1 hz2 rfl (by decide) v xs.length (Lib.byteCells xs) hs hown ad 1 1 [.int .u8 c.toNat] hx rfl ?_ (by intro u hu; simp at hu; subst hu; rfl) (by unfold maxLen; omega) (by omega) hbase ?_
  · intro j u hj
    match j, hj with
    | 0, hj => simp at hj; subst hj; simpa [Addr.add] using hc
    | j + 1, hj => simp at hj
  · intro v' w' h1 h2
    refine h v' w' ?_ h2 ?_
    · rw [Lib.byteCells_append]
      simpa [Lib.byteCells] using h1
    · rcases h1.2 with ⟨_, h0⟩ | ⟨g, cap, cur, rfl, _⟩
      · omega
      · simp
theorem cell_new (w : World) (v : Value) (T : TypeId) : (w.alloc (.cells #[v] T)).cell? ⟨w.heap.size, 0, none⟩ = some v := by
  have hh : (w.alloc (.cells #[v] T)).heap[w.heap.size]? = some (.cells #[v] T (0, 0)) := by
    show (w.heap.push _)[w.heap.size]? = _
    simp
  rw [Lib.cell_of_heap hh]
  rfl
/-- Bytes of the call's own: the slice's form and its cells. -/
theorem own_form {w : World} {B : Nat} {v : Value} {l : List UInt8} (h : w.ownsRow B 5 1 v l.length (Lib.byteCells l)) (hn : v ≠ .slice none 0 0) :
    ∃ g cap, v = .slice (some ⟨g, 0, none⟩) l.length cap ∧ B ≤ g ∧ Row w g (Lib.byteCells l) := by
  rcases h.2 with ⟨rfl, h0⟩ | ⟨g, cap, cur, rfl, hg, hcur, h1, h2, h3, h4⟩
  · obtain rfl := List.length_eq_zero_iff.1 h0
    exact absurd rfl hn
  · refine ⟨g, cap, rfl, hg, cur, 5, 0, 0, hcur, by rw [Lib.byteCells_length]; omega, .inr rfl, ?_⟩
    rw [Lib.byteCells_length]
    simpa using h4
theorem own_block {w : World} {B g n cap : Nat} {xs : List Value} (h : w.ownsRow B 5 1 (.slice (some ⟨g, 0, none⟩) n cap) n xs) : ∀ k, (Value.slice (some ⟨g, 0, none⟩) n cap).ownBlock = some k → B ≤ k := own_lt h
theorem below_drawn {B : Nat} {a w : World} (h : Below B a w) (n : Nat) : Below B a (w.drewN n) := ⟨h.os, h.tape, h.output, h.size, h.block⟩
theorem num_oth (c : UInt8) (hc : c.toNat = 48 ∨ c.toNat = 49) : (97 : Int) - (c.toNat : Int) = ((oth c).toNat : Int) := by
  rcases hc with hc | hc
  · rw [hc, oth, if_pos (UInt8.toNat_inj.1 hc)]; rfl
  · rw [hc, oth, if_neg (by intro e; rw [e] at hc; simp at hc)]; rfl
end Go.Proofs.Ytlghjfomliappaa
namespace Go.Proofs.Ytlghjfomliappaa
open Go.RowKit Go.Proofs.Bits
set_option linter.unusedVariables false
set_option maxRecDepth 1000000

/-- A later world: what was there stands. -/
structure Later (w : World) where
  now : World
  below : Below w.heap.size w now

theorem Later.some (w : World) : Nonempty (Later w) := ⟨⟨w, Below.refl _ _⟩⟩
theorem wp_region_later {P : Program} {id : Nat} {Q : Exit → Act → World → Prop} {a : Act} {w : World} {l : List Oper} (hm : P.follows .mixedOrders = true) (hB : Region.lexB .any l.toArray = true)
    (h : wpQuiet P l.toArray (fun w' => ∃ x : Later w, w' = x.now) (fun a' => ∀ w', (∃ x : Later w, w' = x.now) → Q .normal a' w') l a) : (Code.region id l.toArray true).wp P Q a w :=
  wp_region_quiet (C := fun w' => ∃ x : Later w, w' = x.now) hm hB ⟨⟨{ w with drawn := w.drawn + 1 }, ⟨rfl, rfl, rfl, Nat.le_refl _, fun _ _ => rfl⟩⟩, rfl⟩ (by simpa using h)

theorem later {P : Program} {f : FuncId} {args : Array Value} {w : World} {x : Later w} {v : Value}
    (h : Calls P f args x.now fun e w' => e = .returned v ∧ Below x.now.heap.size x.now w') : Calls P f args x.now fun e w'' => e = .returned v ∧ ∃ y : Later w, w'' = y.now :=
  h.mono fun _ _ ⟨he, hb⟩ => ⟨he, ⟨_, x.below.trans (hb.mono x.below.size)⟩, rfl⟩
end Go.Proofs.Ytlghjfomliappaa
namespace Go.Proofs.Ytlghjfomliappaa
open Go.RowKit Go.Proofs.Bits
set_option linter.unusedVariables false
set_option maxRecDepth 1000000

theorem txt_add (a b : List UInt8) : (⟨a.toArray⟩ : ByteArray) ++ ⟨b.toArray⟩ = ⟨(a ++ b).toArray⟩ := by
  apply ByteArray.ext
  simp
theorem ret_txt {a b : ByteArray} (h : a = b) : Ending.returned (.string a) = .returned (.string b) := by rw [h]
theorem flagV_length (b : Bool) : (flagV b).length = 1 := by cases b <;> rfl

def Fr.field (f : Fr) : List UInt8 := if f.ext then numL (f.id / 262144) 11 ++ [49, 49] ++ numL (f.id % 262144) 18 ++ flagV f.rem else numL f.id 11 ++ flagV f.rem ++ [48]

/-- The cells of a frame that came in, in a later world. -/
theorem later_cell {w : World} {A : Array Value} {T : TypeId} {k : Nat} {v : Value} (h : A[k]? = some v) (x : Later (w.alloc (.cells A T))) : x.now.cell? ⟨w.heap.size, k, none⟩ = some v :=
  (x.below.cell (p := ⟨w.heap.size, k, none⟩) (by simp)).trans (by simp [go_sem, h])

set_option maxRecDepth 1000000 in
theorem r2field_base (A : Array Value) (id : Nat) (rem : Bool) (w : World) (h0 : A[0]? = some (.int .u32 id)) (h1 : A[1]? = some (.bool false)) (h2 : A[2]? = some (.bool rem)) (hid : id < 2048) :
    Calls Try.prog 48 #[.agg A] w fun e w' => e = .returned (.string ⟨(numL id 11 ++ flagV rem ++ [48]).toArray⟩) ∧ Below w.heap.size w w' := by
  have hn := fun w => r2num_any id 11 w (by omega) (by omega) (by omega)
  have hf := fun w => r2flag_any rem w
  go_enter Try.func48, Try.ntmps48
  go_wp2
  have k0 := fun x => later_cell (w := w) (T := 38) h0 x
  have k2 := fun x => later_cell (w := w) (T := 38) h2 x
  have l1 := numL_length id 11
  have l2 := flagV_length rem
  have hL := Later.some (w.alloc (.cells A 38))
  refine wp_region_later (by kernel_rfl) (by kernel_rfl) ?_
  repeat (go_big_quiet_step (first | (go_at_call 78; exact later (hn _)) | (go_at_call 51; exact later (hf _))))
  refine wpQuiet_nil ?_
  rintro _ ⟨x1, rfl⟩
  go_wp2
  go_ret
  exact ⟨ret_txt (by rw [txt_add]; exact txt_add _ [48]), ((Below.refl _ _).alloc (Nat.le_refl _) _).trans (x1.below.mono (by simp))⟩

theorem and18 (x : Nat) (h : x < 4294967296) : bits BinOp.and IntKind.u32 (x : Int) 262143 = ((x % 262144 : Nat) : Int) := by
  rw [show (262143 : Int) = ((262143 : Nat) : Int) from rfl, u32_and_nat _ _ (by omega) (by omega), Nat.and_two_pow_sub_one_eq_mod x 18]

set_option maxRecDepth 1000000 in
set_option maxHeartbeats 4000000 in
theorem r2field_ext (A : Array Value) (id p q : Nat) (rem : Bool) (w : World) (h0 : A[0]? = some (.int .u32 id)) (h1 : A[1]? = some (.bool true)) (h2 : A[2]? = some (.bool rem)) (hid : id < 536870912)
    (hp : (id : Int) / 262144 = (p : Int)) (hq : bits BinOp.and IntKind.u32 (id : Int) 262143 = (q : Int)) (hp2 : p < 2048) (hq2 : q < 262144) :
    Calls Try.prog 48 #[.agg A] w fun e w' => e = .returned (.string ⟨(numL p 11 ++ [49, 49] ++ numL q 18 ++ flagV rem).toArray⟩) ∧ Below w.heap.size w w' := by
  have hn : ∀ w, Calls Try.prog 78 #[.int .u64 (p : Int), .int .i64 11] w fun e w' => e = .returned (.string ⟨(numL p 11).toArray⟩) ∧ Below w.heap.size w w' := fun w => r2num_any p 11 w (by omega) (by omega) (by omega)
  have hm : ∀ w, Calls Try.prog 78 #[.int .u64 (q : Int), .int .i64 18] w fun e w' => e = .returned (.string ⟨(numL q 18).toArray⟩) ∧ Below w.heap.size w w' := fun w => r2num_any q 18 w (by omega) (by omega) (by omega)
  have hf := fun w => r2flag_any rem w
  go_enter Try.func48, Try.ntmps48
  go_wp2
  have k0 := fun x => later_cell (w := w) (T := 38) h0 x
  have k2 := fun x => later_cell (w := w) (T := 38) h2 x
  have l1 := numL_length p 11
  have l3 := numL_length q 18
  have l2 := flagV_length rem
  have hL := Later.some (w.alloc (.cells A 38))
  refine wp_region_later (by kernel_rfl) (by kernel_rfl) ?_
  repeat (go_big_quiet_step (first | (go_at_call 78; with_reducible exact later (hn _)) | (go_at_call 78; with_reducible exact later (hm _)) | (go_at_call 51; with_reducible exact later (hf _))))
  refine wpQuiet_nil ?_
  rintro _ ⟨x1, rfl⟩
  go_wp2
  go_ret
  exact ⟨ret_txt (by rw [show (⟨#[49, 49]⟩ : ByteArray) = ⟨[49, 49].toArray⟩ from rfl]; simp only [txt_add]), ((Below.refl _ _).alloc (Nat.le_refl _) _).trans (x1.below.mono (by simp))⟩

theorem r2field_any (f : Fr) (w : World) (hb : f.chk = 0) :
    Calls Try.prog 48 #[f.val] w fun e w' => e = .returned (.string ⟨f.field.toArray⟩) ∧ Below w.heap.size w w' := by
  have h0 := f.arr0
  have h1 := f.arr1
  have h2 := f.arr2
  unfold Fr.chk Fr.bad at hb
  unfold Fr.val Fr.field
  cases he : f.ext
  · rw [he] at h1 hb
    simp at hb
    exact r2field_base f.arr f.id f.rem w h0 h1 h2 (by omega)
  · rw [he] at h1 hb
    simp at hb
    rw [if_pos rfl]
    exact r2field_ext f.arr f.id (f.id / 262144) (f.id % 262144) f.rem w h0 h1 h2 (by omega) (by omega) (and18 _ f.hid) (by omega) (by omega)
end Go.Proofs.Ytlghjfomliappaa
namespace Go.Proofs.Ytlghjfomliappaa
open Go.RowKit Go.Proofs.Bits
set_option linter.unusedVariables false
set_option maxRecDepth 1000000

theorem liesW : liesAt Try.prog Try.prog.depth 92 (2 / Try.prog.cellsOf 92) 0 90 1 = true := by kernel_rfl
/-- A writer in block g that holds the bytes l. -/
def Wr (g : Nat) (l : List UInt8) (w : World) : Prop := ∃ cs, cs.size = 2 ∧ Bld 92 0 g g cs l w

section
variable {g : Nat} {l : List UInt8} {w w' : World}
theorem Wr.lt (h : Wr g l w) : g < w.heap.size := h.elim fun _ h => h.2.lt
theorem Wr.new (w : World) : Wr w.heap.size [] (w.alloc (.cells #[.pointer none, .slice none 0 0] 92)) :=
  ⟨_, rfl, Nat.le_refl _, heap_alloc_new w _, .inl rfl, _, rfl, World.ownsRowF_nil _ _ _ _⟩
theorem Wr.alloc (h : Wr g l w) (o : Obj) : Wr g l (w.alloc o) := by
  have hlt := h.lt
  obtain ⟨cs, hc, hB, hg, hp, v, hv, hown⟩ := h
  exact ⟨cs, hc, hB, (Lib.alloc_old w o g hlt).trans hg, hp, v, hv, hown.alloc o⟩
theorem Wr.below (h : Wr g l w) (hb : Below w.heap.size w w') : Wr g l w' := by
  have hlt := h.lt
  obtain ⟨cs, hc, hB, hg, hp, v, hv, hown⟩ := h
  exact ⟨cs, hc, hB, (hb.block g hlt).trans hg, hp, v, hv, owns_below hown hb⟩
theorem Wr.byte (c : UInt8) (h : Wr g l w) (hl : l.length ≤ 1000000) :
    Calls Try.prog 69 #[.pointer (some ⟨g, 0, none⟩), .int .u8 c.toNat] w fun e w' => e = .returned .nilIface ∧ Wr g (l ++ [c]) w' ∧ Kp g w w' := by
  obtain ⟨cs, hc, hB⟩ := h
  refine (bWriteByte c hB (by decide) (by rw [hc]; exact liesW) (by omega)).mono ?_
  rintro e w1 ⟨rfl, ⟨v', hB'⟩, b1, k1⟩
  exact ⟨rfl, ⟨_, by simp [Go.Proofs.Ytlghjfomliappaa.put, hc], hB'⟩, b1, k1⟩
theorem Wr.text (s : List UInt8) (h : Wr g l w) (hl : l.length ≤ 1000000) (hs : s.length ≤ 1000000) :
    Calls Try.prog 43 #[.pointer (some ⟨g, 0, none⟩), .string ⟨s.toArray⟩] w fun e w' => e = .returned (.tuple #[.int .i64 s.length, .nilIface]) ∧ Wr g (l ++ s) w' ∧ Kp g w w' := by
  obtain ⟨cs, hc, hB⟩ := h
  refine (bWriteString s hB (by decide) (by rw [hc]; exact liesW) (by omega)).mono ?_
  rintro e w1 ⟨rfl, ⟨v', hB'⟩, b1, k1⟩
  exact ⟨rfl, ⟨_, by simp [Go.Proofs.Ytlghjfomliappaa.put, hc], hB'⟩, b1, k1⟩
theorem Wr.string (h : Wr g l w) (h0 : l ≠ []) :
    Calls Try.prog 40 #[.pointer (some ⟨g, 0, none⟩)] w fun e w' => e = .returned (.string ⟨l.toArray⟩) ∧ Wr g l w' ∧ Kp g w w' := by
  obtain ⟨cs, hc, hB⟩ := h
  refine (bString hB (by decide) h0).mono ?_
  rintro e w1 ⟨rfl, hB', b1, k1⟩
  exact ⟨rfl, ⟨_, hc, hB'⟩, b1, k1⟩

set_option maxHeartbeats 1000000 in
theorem wmark_any (b : Bool) (h : Wr g l w) (hl : l.length ≤ 1000000) :
    Calls Try.prog 44 #[.pointer (some ⟨g, 0, none⟩), .bool b] w fun e w' => e = .returned (.tuple #[]) ∧ Wr g (l ++ flagV b) w' ∧ Kp g w w' := by
  have h1 := h.byte 49 hl
  have h0 := h.byte 48 hl
  cases b
  · go_enter Try.func44, Try.ntmps44
    go_wp2_with fail
    refine h0.mono ?_
    rintro e w1 ⟨rfl, r⟩
    clear h1 h0
    go_wp2
    go_end0
    exact ⟨rfl, r⟩
  · go_enter Try.func44, Try.ntmps44
    go_wp2_with fail
    refine h1.mono ?_
    rintro e w1 ⟨rfl, r⟩
    clear h1 h0
    go_wp2
    first
      | (go_end0; exact ⟨rfl, r⟩)
      | (refine bodyPost_ret (results_none rfl _ _ _) rfl ?_; exact ⟨rfl, r⟩)

set_option maxHeartbeats 1000000 in
theorem wnumber_any (n wd : Nat) (h : Wr g l w) (hl : l.length ≤ 1000000) (hu : n < 4294967296) (hw : wd ≤ 64) (hn : n < 2 ^ wd) :
    Calls Try.prog 62 #[.pointer (some ⟨g, 0, none⟩), .int .u32 n, .int .i64 wd] w fun e w' => e = .returned (.tuple #[]) ∧ Wr g (l ++ numL n wd) w' ∧ Kp g w w' := by
  have hN := Number_ok n wd
  have hd : n / 2 ^ wd = 0 := Nat.div_eq_of_lt hn
  have hsl := numL_length n wd
  generalize numL n wd = s at *
  go_enter Try.func62, Try.ntmps62
  go_wp2_with fail
  refine (hN _ (by omega) hw hd).mono ?_
  rintro e w1 ⟨rfl, b1⟩
  have h1 := (h.below b1).text s hl (by omega)
  have k1 : Kp g w w1 := Kp.of_below b1 (Nat.le_of_lt h.lt)
  clear hN hd h b1
  go_wp2_with fail
  refine h1.mono ?_
  rintro e w2 ⟨rfl, r1, r2⟩
  clear h1
  go_wp2
  go_end0
  exact ⟨rfl, r1, k1.trans r2⟩

/-- A writer in block g with l, a frame f in block q, behind w0. -/
def Ws (g : Nat) (w0 : World) (q : Nat) (f : Fr) (l : List UInt8) (w : World) : Prop := Wr g l w ∧ Fa q f w ∧ Kp g w0 w ∧ g < q
section
variable {w0 : World} {q : Nat} {f : Fr} {l' : List UInt8}
theorem Ws.keep (h : Ws g w0 q f l w) (hR : Wr g l' w') (hk : Kp g w w') : Ws g w0 q f l' w' := ⟨hR, h.2.1.keep hk (by have := h.2.2.2; omega), h.2.2.1.trans hk, h.2.2.2⟩
theorem Ws.mark (b : Bool) (h : Ws g w0 q f l w) (hl : l.length ≤ 1000000) :
    Calls Try.prog 44 #[.pointer (some ⟨g, 0, none⟩), .bool b] w fun e w' => e = .returned (.tuple #[]) ∧ Ws g w0 q f (l ++ flagV b) w' :=
  (wmark_any b h.1 hl).mono fun _ _ ⟨he, hR, hk⟩ => ⟨he, h.keep hR hk⟩
theorem Ws.number (n wd : Nat) (h : Ws g w0 q f l w) (hl : l.length ≤ 1000000) (hu : n < 4294967296) (hw : wd ≤ 64) (hn : n < 2 ^ wd) :
    Calls Try.prog 62 #[.pointer (some ⟨g, 0, none⟩), .int .u32 n, .int .i64 wd] w fun e w' => e = .returned (.tuple #[]) ∧ Ws g w0 q f (l ++ numL n wd) w' :=
  (wnumber_any n wd h.1 hl hu hw hn).mono fun _ _ ⟨he, hR, hk⟩ => ⟨he, h.keep hR hk⟩
theorem Ws.new (h : Wr g l w) (f : Fr) : Ws g w w.heap.size f l (w.alloc (.cells f.arr 38)) := ⟨h.alloc _, Fa.new w f, (Kp.refl g w).alloc (Nat.le_of_lt h.lt) _, h.lt⟩
theorem Ws.c0 (h : Ws g w0 q f l w) : w.cell? ⟨q, 0, none⟩ = some (.int .u32 f.id) := h.2.1.c0
theorem Ws.c1 (h : Ws g w0 q f l w) : w.cell? ⟨q, 1, none⟩ = some (.bool f.ext) := h.2.1.c1
theorem Ws.c2 (h : Ws g w0 q f l w) : w.cell? ⟨q, 2, none⟩ = some (.bool f.rem) := h.2.1.c2
theorem Ws.c3 (h : Ws g w0 q f l w) : w.cell? ⟨q, 3, none⟩ = some (.int .i64 f.len) := h.2.1.c3
end
set_option maxHeartbeats 2000000 in
theorem wfield_any (f : Fr) (h0 : f.chk = 0) (h : Wr g l w) (hl : l.length ≤ 100000) :
    Calls Try.prog 39 #[.pointer (some ⟨g, 0, none⟩), f.val] w fun e w' => e = .returned (.tuple #[]) ∧ Wr g (l ++ f.field) w' ∧ Kp g w w' := by
  have hS := Ws.new h f
  have HB : f.bad = false := by
    unfold Fr.chk at h0
    cases hb : f.bad
    · rfl
    · rw [hb] at h0; simp at h0
  unfold Fr.bad at HB
  simp only [Bool.or_eq_false_iff, decide_eq_false_iff_not, Bool.and_eq_false_iff, Bool.not_eq_false'] at HB
  obtain ⟨⟨⟨b1, b2⟩, b3⟩, b4⟩ := HB
  have hid := f.hid
  cases hx : f.ext
  · have b4 : f.id < 2048 := by
      rcases b4 with b4 | b4
      · rw [hx] at b4; cases b4
      · omega
    have HF : Hid (f.field = numL f.id 11 ++ flagV f.rem ++ [48]) := by show f.field = _; simp [Fr.field, hx]
    have a1 := f.arr1
    rw [hx] at a1
    have a0 := f.arr0
    have a2 := f.arr2
    unfold Fr.val
    generalize hA : f.arr = A at *
    go_enter Try.func39, Try.ntmps39
    go_wp2_with fail
    refine (hS.number f.id 11 (by omega) hid (by omega) (by omega)).mono ?_
    rintro e w1 ⟨rfl, S1⟩
    have l1 := numL_length f.id 11
    generalize numL f.id 11 = x1 at *
    have c2 := S1.c2
    clear hS
    go_wp2_with fail
    refine (S1.mark f.rem (by simp; omega)).mono ?_
    rintro e w2 ⟨rfl, S2⟩
    have l2 : (flagV f.rem).length = 1 := by cases f.rem <;> rfl
    generalize flagV f.rem = x2 at *
    clear S1 c2
    go_wp2_with fail
    refine (S2.mark false (by simp; omega)).mono ?_
    rintro e w3 ⟨rfl, S3⟩
    clear S2
    go_wp2
    first
      | (go_end0; exact ⟨rfl, by rw [HF.out]; simpa [flagV] using S3.1, S3.2.2.1⟩)
      | (refine bodyPost_ret (results_none rfl _ _ _) rfl ?_; exact ⟨rfl, by rw [HF.out]; simpa [flagV] using S3.1, S3.2.2.1⟩)
  · have HF : Hid (f.field = numL (f.id / 262144) 11 ++ [49, 49] ++ numL (f.id % 262144) 18 ++ flagV f.rem) := by show f.field = _; simp [Fr.field, hx]
    have a1 := f.arr1
    rw [hx] at a1
    have a0 := f.arr0
    have a2 := f.arr2
    have hand := and18 f.id hid
    unfold Fr.val
    generalize hA : f.arr = A at *
    go_enter Try.func39, Try.ntmps39
    go_wp2_with fail
    refine (hS.number (f.id / 262144) 11 (by omega) (by omega) (by omega) (by omega)).mono ?_
    rintro e w1 ⟨rfl, S1⟩
    have l1 := numL_length (f.id / 262144) 11
    generalize numL (f.id / 262144) 11 = x1 at *
    clear hS
    go_wp2_with fail
    refine (S1.mark true (by simp; omega)).mono ?_
    rintro e w2 ⟨rfl, S2⟩
    clear S1
    go_wp2_with fail
    refine (S2.mark true (by simp [flagV]; omega)).mono ?_
    rintro e w3 ⟨rfl, S3⟩
    have c0 := S3.c0
    clear S2
    go_wp2_with fail
    refine (S3.number (f.id % 262144) 18 (by simp [flagV]; omega) (by omega) (by omega) (by omega)).mono ?_
    rintro e w4 ⟨rfl, S4⟩
    have l4 := numL_length (f.id % 262144) 18
    generalize numL (f.id % 262144) 18 = x4 at *
    have c2 := S4.c2
    clear S3 c0
    go_wp2_with fail
    refine (S4.mark f.rem (by simp [flagV]; omega)).mono ?_
    rintro e w5 ⟨rfl, S5⟩
    clear S4 c2
    go_wp2
    go_end0
    exact ⟨rfl, by rw [HF.out]; simpa [flagV] using S5.1, S5.2.2.1⟩
end
end Go.Proofs.Ytlghjfomliappaa
namespace Go.Proofs.Ytlghjfomliappaa
open Go.RowKit Go.Proofs.Bits
set_option linter.unusedVariables false
set_option maxRecDepth 1000000

def bytesL (ds : List UInt8) : List UInt8 := ds.flatMap fun c => numL c.toNat 8
theorem bytesL_length (ds : List UInt8) : (bytesL ds).length = 8 * ds.length := by
  induction ds with
  | nil => rfl
  | cons d ds ih => simp only [bytesL, List.flatMap_cons, List.length_append, numL_length, List.length_cons] at ih ⊢; omega
theorem bytesL_snoc (ds : List UInt8) (c : UInt8) : bytesL (ds ++ [c]) = bytesL ds ++ numL c.toNat 8 := by simp [bytesL]
theorem bytesL_all (ds : List UInt8) : (bytesL ds).all isBit = true := by
  induction ds using snoc_ind with
  | h0 => rfl
  | h1 l c ih => rw [bytesL_snoc, List.all_append, ih, numL_all]; rfl
/-- What is ahead of the bytes. -/
def Fr.front (f : Fr) : List UInt8 := [48] ++ f.field ++ [48] ++ (if f.ext then [48] else []) ++ numL f.len.toNat 4
def Fr.head (f : Fr) : List UInt8 := f.front ++ bytesL (f.data.take f.bytes)
/-- The body. -/
def Fr.body (f : Fr) : List UInt8 := f.head ++ numL (crc f.head) 15
theorem field_length (f : Fr) : f.field.length = if f.ext then 32 else 13 := by
  unfold Fr.field
  cases f.ext
  · simp [numL_length, flagV_length]
  · simp [numL_length, flagV_length]
theorem flagV_all (b : Bool) : (flagV b).all isBit = true := by cases b <;> rfl
theorem field_all (f : Fr) : f.field.all isBit = true := by
  unfold Fr.field
  split
  · simp only [List.all_append, numL_all, flagV_all]; rfl
  · simp only [List.all_append, numL_all, flagV_all]; rfl
theorem front_length (f : Fr) : f.front.length = if f.ext then 39 else 19 := by
  unfold Fr.front
  simp only [List.length_append, field_length, numL_length]
  cases f.ext <;> simp
theorem front_all (f : Fr) : f.front.all isBit = true := by
  unfold Fr.front
  simp only [List.all_append, field_all, numL_all]
  cases f.ext <;> rfl
theorem head_length (f : Fr) : f.head.length = (if f.ext then 39 else 19) + 8 * f.bytes := by
  have := f.bytes_le
  unfold Fr.head
  rw [List.length_append, front_length, bytesL_length, List.length_take, f.hdata, Nat.min_eq_left this]
theorem head_all (f : Fr) : f.head.all isBit = true := by
  unfold Fr.head
  rw [List.all_append, front_all, bytesL_all]; rfl
theorem body_length (f : Fr) : f.body.length = (if f.ext then 54 else 34) + 8 * f.bytes := by
  unfold Fr.body
  rw [List.length_append, head_length, numL_length]
  cases f.ext <;> simp <;> omega
theorem body_all (f : Fr) : f.body.all isBit = true := by
  unfold Fr.body
  rw [List.all_append, head_all, numL_all]; rfl
theorem err_of {l : List UInt8} (h : l.all isBit = true) (hl : l.length ≤ 65536) : err l = 0 := by
  unfold err
  rw [if_neg (by omega), if_pos h]

section
variable {g : Nat} {l : List UInt8} {w w' : World}
theorem chk_parts {f : Fr} (h0 : f.chk = 0) : 0 ≤ f.len ∧ f.len ≤ 15 ∧ f.id < 536870912 ∧ (f.ext = false → f.id < 2048) := by
  have HB : f.bad = false := by
    unfold Fr.chk at h0
    cases hb : f.bad
    · rfl
    · rw [hb] at h0; simp at h0
  unfold Fr.bad at HB
  simp only [Bool.or_eq_false_iff, decide_eq_false_iff_not, Bool.and_eq_false_iff, Bool.not_eq_false'] at HB
  obtain ⟨⟨⟨b1, b2⟩, b3⟩, b4⟩ := HB
  refine ⟨by omega, by omega, by omega, fun hx => ?_⟩
  rcases b4 with b4 | b4
  · rw [hx] at b4; cases b4
  · omega

theorem slice_data (q n : Nat) (hn : n ≤ 8) (W : World) : (Instr.sliceAt 36 (.pointer (some ⟨q, 4, none⟩)) none (some (.int .i64 n)) none).run Try.prog W = .ok (.slice (some ⟨q, 4, none⟩) n 8) W := by
  obtain ⟨i0, hi, hz0, hz1, hz2⟩ := info_parts binfo5
  have h0 : (0 : Int) ≤ (n : Int) := by omega
  simp [Instr.sliceAt, run_underlying Try.underlying36, go_sem, h0, sizeOf, typeInfo, hi, Addr.add]
  intro h
  omega

set_option maxHeartbeats 4000000 in
theorem wbody_any (f : Fr) (h0 : f.chk = 0) (h : Wr g [] w) :
    Calls Try.prog 41 #[.pointer (some ⟨g, 0, none⟩), f.val] w fun e w' => e = .returned (.tuple #[]) ∧ Wr g f.body w' ∧ Kp g w w' := by
  have hS := Ws.new h f
  obtain ⟨p1, p2, p3, p4⟩ := chk_parts h0
  have hfl := field_length f
  have hbl := f.bytes_le
  have HF : Hid (f.front = [48] ++ f.field ++ [48] ++ (if f.ext then [48] else []) ++ numL f.len.toNat 4) := rfl
  have HH : Hid (f.head = f.front ++ bytesL (f.data.take f.bytes)) := rfl
  have HB : Hid (f.body = f.head ++ numL (crc f.head) 15) := rfl
  have hhl := head_length f
  have hha := head_all f
  unfold Fr.val
  generalize f.body = BB at *
  go_enter Try.func41, Try.ntmps41
  go_wp2_with fail
  refine (hS.mark false (by simp)).mono ?_
  rintro e w1 ⟨rfl, S1⟩
  have f1 := S1.2.1
  generalize w.heap.size = q at *
  clear hS
  go_wp2_with (refine f1.ld rfl _ rfl rfl ?_)
  refine (wfield_any f h0 S1.1 (by simp [flagV])).mono ?_
  rintro e w2 ⟨rfl, r2, k2⟩
  have S2 := S1.keep r2 k2
  clear f1 S1 r2 k2
  go_wp2_with fail
  refine (S2.mark false (by simp [flagV, hfl]; split <;> omega)).mono ?_
  rintro e w3 ⟨rfl, S3⟩
  have c1 := S3.c1
  have c3 := S3.c3
  clear S2
  cases hx : f.ext
  case' false =>
    rw [hx] at c1
    have HP : Hid (f.front = ([] ++ flagV false ++ f.field ++ flagV false) ++ numL f.len.toNat 4) := by show f.front = _; rw [HF.out, hx]; simp [flagV]
    have hpl : ([] ++ flagV false ++ f.field ++ flagV false).length ≤ 40 := by simp [flagV, hfl, hx]
    go_wp2_with fail
    generalize ([] ++ flagV false ++ f.field ++ flagV false) = pre at *
    generalize w3 = wn at *
    have S5 := S3
    clear S3
  case' true =>
    rw [hx] at c1
    have HP : Hid (f.front = ([] ++ flagV false ++ f.field ++ flagV false ++ flagV false) ++ numL f.len.toNat 4) := by show f.front = _; rw [HF.out, hx]; simp [flagV]
    have hpl : ([] ++ flagV false ++ f.field ++ flagV false ++ flagV false).length ≤ 40 := by simp [flagV, hfl, hx]
    go_wp2_with fail
    refine (S3.mark false (by simp [flagV, hfl, hx])).mono ?_
    rintro e wn ⟨rfl, S5⟩
    have c3 := S5.c3
    go_wp2_with fail
    generalize ([] ++ flagV false ++ f.field ++ flagV false ++ flagV false) = pre at *
    clear S3
  all_goals
    have hl64 : f.len = ((f.len.toNat : Nat) : Int) := by omega
    generalize f.len.toNat = ln at *
    rw [hl64]
    refine (S5.number ln 4 (by omega) (by omega) (by omega) (by omega)).mono ?_
    rintro e w6 ⟨rfl, S6⟩
    have hfl2 := front_length f
    rw [← HP.out] at S6
    have f6 := S6.2.1
    clear S5 c3 c1
    go_wp2_with (refine f6.ld rfl _ rfl rfl ?_)
    refine (fbytesOf_any f _).mono ?_
    rintro e w7 ⟨rfl, b7⟩
    have S7 : Ws g w q f f.front w7 := S6.keep (S6.1.below b7) (Kp.of_below b7 (Nat.le_of_lt S6.1.lt))
    clear f6 S6 b7
    have hsl := slice_data q f.bytes hbl
    go_wp2_with fail
    go_loopw [29] (fun i wr => ∃ k : Nat, k ≤ f.bytes ∧ i = .int .i64 k ∧ Ws g w q f (f.front ++ bytesL (f.data.take k)) wr) (fun i _ => f.bytes - (intOf i).toNat)
    case atStart => exact ⟨0, Nat.zero_le _, rfl, by simpa [bytesL] using S7⟩
    case round =>
      obtain ⟨k, hk, rfl, S8⟩ := hrel
      clear S7
      by_cases hkN : k < f.bytes
      · have hkd : k < f.data.length := by rw [f.hdata]; omega
        have hcD : wr.cell? ⟨q, 4 + k, none⟩ = some (.int .u8 (f.data[k]).toNat) := (Lib.cell_of_heap S8.2.1 (4 + k)).trans (f.arrD k (by omega))
        have HT : Hid (f.front ++ bytesL (f.data.take (k + 1)) = (f.front ++ bytesL (f.data.take k)) ++ numL (f.data[k]).toNat 8) := by
          show _ = _
          rw [ltake_snoc _ _ hkd, bytesL_snoc, List.append_assoc]
        have hbl8 : (f.front ++ bytesL (f.data.take k)).length ≤ 200 := by
          rw [List.length_append, bytesL_length, hfl2, List.length_take]
          split <;> omega
        have hd8 := (f.data[k]).toNat_lt
        generalize hdk : f.data[k] = dk at *
        generalize f.front ++ bytesL (f.data.take k) = acc at *
        go_wp2_with fail
        refine (S8.number dk.toNat 8 (by omega) (by omega) (by omega) (by omega)).mono ?_
        rintro e w9 ⟨rfl, S9⟩
        rw [← HT.out] at S9
        clear S8
        go_wp2
        go_roundw
        case rel => exact ⟨k + 1, by omega, by go_num, S9⟩
        case measure => simp [intOf]; omega
      · obtain rfl : k = f.bytes := by omega
        rw [← HH.out] at S8
        have hne : f.head ≠ [] := by
          intro e
          rw [e] at hhl
          simp at hhl
          split at hhl <;> omega
        have hcr : crcV f.head = crc f.head := by rw [crcV, if_pos (err_of hha (by rw [hhl]; split <;> omega))]
        have hhl2 : f.head.length ≤ 200 := by rw [hhl]; split <;> omega
        go_wp2_with fail
        refine (S8.1.string hne).mono ?_
        rintro e w9 ⟨rfl, r9, k9⟩
        have S9 := S8.keep r9 k9
        go_wp2_with fail
        refine (CRC_any _ _).mono ?_
        rintro e w10 ⟨rfl, b10⟩
        have S10 : Ws g w q f f.head w10 := S9.keep (S9.1.below b10) (Kp.of_below b10 (Nat.le_of_lt S9.1.lt))
        simp only [hcr]
        have hlt := crc_lt f.head
        clear S8 S9 r9 k9 b10
        generalize crc f.head = cr at *
        go_wp2_with fail
        refine (S10.number cr 15 (by omega) (by omega) (by omega) (by omega)).mono ?_
        rintro e w11 ⟨rfl, S11⟩
        rw [← HB.out] at S11
        go_wp2
        go_end0
        exact ⟨rfl, S11.1, S11.2.2.1⟩
end
end Go.Proofs.Ytlghjfomliappaa
namespace Go.Proofs.Ytlghjfomliappaa
open Go.RowKit Go.Proofs.Bits
set_option linter.unusedVariables false
set_option maxRecDepth 1000000

/-- A frame's bits. -/
def Fr.bits (f : Fr) (ack : Bool) : List UInt8 := stuff f.body ++ flagV true ++ flagV (!ack) ++ [49, 49, 49, 49, 49, 49, 49, 49]
def encV (f : Fr) (ack : Bool) : List UInt8 := if f.chk = 0 then f.bits ack else []
def fldV (f : Fr) : List UInt8 := if f.chk = 0 then f.field else []
theorem body_short (f : Fr) : f.body.length ≤ 118 := by
  have := f.bytes_le
  rw [body_length]
  split <;> omega
theorem stuff_body_length (f : Fr) : (stuff f.body).length ≤ 236 := by
  have h1 := st_length f.body
  have h2 := body_short f
  show (st f.body).1.length ≤ 236
  omega
theorem chk_cases (f : Fr) : f.chk = 0 ∨ f.chk = 1 := by unfold Fr.chk; split <;> simp
theorem ret_str {a b : ByteArray} {x y : Int} (h : a = b) (h2 : x = y) : Ending.returned (.tuple #[.string a, .int .i64 x]) = .returned (.tuple #[.string b, .int .i64 y]) := by rw [h, h2]

section
variable {w w' : World}
theorem Wr.idle {g0 g1 : Nat} (h : w.heap[g1]? = some (.cells #[.pointer none, .slice none 0 0] 92 (0, 0))) (hk : Kp g0 w w') (hq : g1 ≠ g0) : w'.heap[g1]? = some (.cells #[.pointer none, .slice none 0 0] 92 (0, 0)) :=
  hk.2 g1 _ h (fun e => hq (Option.some.inj e)) (fun _ _ e => by cases e)
theorem Wr.fresh {g1 : Nat} (h : w.heap[g1]? = some (.cells #[.pointer none, .slice none 0 0] 92 (0, 0))) : Wr g1 [] w :=
  ⟨_, rfl, Nat.le_refl _, h, .inl rfl, _, rfl, World.ownsRowF_nil _ _ _ _⟩

set_option maxHeartbeats 4000000 in
theorem fField_any (f : Fr) (w : World) :
    Calls Try.prog 18 #[f.val] w fun e w' => e = .returned (.tuple #[.string ⟨(fldV f).toArray⟩, .int .i64 f.chk]) ∧ Below w.heap.size w w' := by
  have HV : Hid (fldV f = if f.chk = 0 then f.field else []) := rfl
  have HC := fCheck_any f
  have fn := Fa.new w f
  have bn : Below w.heap.size w (w.alloc (.cells f.arr 38)) := (Below.refl _ _).alloc (Nat.le_refl _) _
  have sn := size_alloc w (.cells f.arr 38)
  rcases chk_cases f with h0 | h0
  · rw [h0] at HC
    have HV : Hid (fldV f = f.field) := by show fldV f = _; rw [HV.out, if_pos h0]
    have hne : f.field ≠ [] := by
      intro e
      have := field_length f
      rw [e] at this
      simp at this
      split at this <;> omega
    rw [h0]
    generalize fldV f = V at *
    unfold Fr.val
    go_enter Try.func18, Try.ntmps18
    go_wp2_with (refine fn.ld rfl _ rfl rfl ?_)
    refine (HC _).mono ?_
    rintro e w1 ⟨rfl, b1⟩
    have f1 : Fa w.heap.size f w1 := (b1.block _ (by omega)).trans fn
    have B1 := bn.trans (b1.mono (by omega))
    have f2 : Fa w.heap.size f (w1.alloc (.cells #[.pointer none, .slice none 0 0] 92)) := f1.alloc _
    clear fn bn b1 sn HC
    go_wp2_with (refine f2.ld rfl _ rfl rfl ?_)
    have W0 := Wr.new w1
    have s1 := B1.size
    have B2 : Below w.heap.size w (w1.alloc (.cells #[.pointer none, .slice none 0 0] 92)) := B1.alloc s1 _
    generalize w1.alloc (.cells #[.pointer none, .slice none 0 0] 92) = A at *
    generalize w1.heap.size = g0 at *
    refine (wfield_any f h0 W0 (by simp)).mono ?_
    rintro e w2 ⟨rfl, R2, K2⟩
    have B3 := B2.trans (K2.1.mono s1)
    rw [List.nil_append] at R2
    clear f1 f2 B1 B2 W0 K2
    generalize f.field = BD at *
    go_wp2_with fail
    refine (R2.string hne).mono ?_
    rintro e w3 ⟨rfl, R3, K3⟩
    have B4 := B3.trans (K3.1.mono s1)
    clear R2 K3 B3 R3
    go_wp2
    go_ret2
    exact ⟨ret_str (by rw [HV.out]) rfl, B4⟩
  · rw [h0] at HC
    have HV : Hid (fldV f = []) := by show fldV f = _; rw [HV.out, if_neg (by rw [h0]; decide)]
    rw [h0]
    generalize fldV f = V at *
    unfold Fr.val
    go_enter Try.func18, Try.ntmps18
    go_wp2_with (refine fn.ld rfl _ rfl rfl ?_)
    refine (HC _).mono ?_
    rintro e w1 ⟨rfl, b1⟩
    clear fn HC
    go_wp2
    go_ret2
    exact ⟨ret_str (by rw [HV.out]) rfl, bn.trans (b1.mono (by omega))⟩

set_option maxHeartbeats 4000000 in
theorem fEncode_any (f : Fr) (ack : Bool) (w : World) :
    Calls Try.prog 22 #[f.val, .bool ack] w fun e w' => e = .returned (.tuple #[.string ⟨(encV f ack).toArray⟩, .int .i64 f.chk]) ∧ Below w.heap.size w w' := by
  have HV : Hid (encV f ack = if f.chk = 0 then f.bits ack else []) := rfl
  have HC := fCheck_any f
  rcases chk_cases f with h0 | h0
  · rw [h0] at HC
    have HV : Hid (encV f ack = f.bits ack) := by show encV f ack = _; rw [HV.out, if_pos h0]
    have HB : Hid (f.bits ack = stuff f.body ++ flagV true ++ flagV (!ack) ++ [49, 49, 49, 49, 49, 49, 49, 49]) := rfl
    have hsv : stuffV f.body = stuff f.body := by
      rw [stuffV, if_pos (err_of (body_all f) (by have := body_short f; omega))]
    have hsl := stuff_body_length f
    have hbl := body_length f
    have hbs := body_short f
    have hne : f.body ≠ [] := by
      intro e
      rw [e] at hbl
      simp at hbl
      split at hbl <;> omega
    rw [h0]
    generalize encV f ack = V at *
    unfold Fr.val
    have fn := Fa.new w f
    have bn : Below w.heap.size w (w.alloc (.cells f.arr 38)) := (Below.refl _ _).alloc (Nat.le_refl _) _
    have sn := size_alloc w (.cells f.arr 38)
    go_enter Try.func22, Try.ntmps22
    go_wp2_with (refine fn.ld rfl _ rfl rfl ?_)
    refine (HC _).mono ?_
    rintro e w1 ⟨rfl, b1⟩
    have f1 : Fa w.heap.size f w1 := (b1.block _ (by omega)).trans fn
    have B1 := bn.trans (b1.mono (by omega))
    have f2 : Fa w.heap.size f ((w1.alloc (.cells #[.pointer none, .slice none 0 0] 92)).alloc (.cells #[.pointer none, .slice none 0 0] 92)) := (f1.alloc _).alloc _
    clear fn bn b1 sn HC
    go_wp2_with (refine f2.ld rfl _ rfl rfl ?_)
    have W0 := (Wr.new w1).alloc (.cells #[.pointer none, .slice none 0 0] 92)
    have E1 := heap_alloc_new (w1.alloc (.cells #[.pointer none, .slice none 0 0] 92)) (.cells #[.pointer none, .slice none 0 0] 92)
    rw [size_alloc] at E1
    have s1 := B1.size
    have B2 : Below w.heap.size w ((w1.alloc (.cells #[.pointer none, .slice none 0 0] 92)).alloc (.cells #[.pointer none, .slice none 0 0] 92)) := (B1.alloc s1 _).alloc (by rw [size_alloc]; omega) _
    generalize ((w1.alloc (.cells #[.pointer none, .slice none 0 0] 92)).alloc (.cells #[.pointer none, .slice none 0 0] 92)) = A at *
    generalize w1.heap.size = g0 at *
    refine (wbody_any f h0 W0).mono ?_
    rintro e w2 ⟨rfl, R2, K2⟩
    have E2 := Wr.idle E1 K2 (by omega)
    have B3 := B2.trans (K2.1.mono s1)
    clear f1 f2 B1 B2 W0 E1 K2
    generalize f.body = BD at *
    go_wp2_with fail
    refine (R2.string hne).mono ?_
    rintro e w3 ⟨rfl, R3, K3⟩
    have E3 := Wr.idle E2 K3 (by omega)
    have B4 := B3.trans (K3.1.mono s1)
    clear R2 E2 K3 B3 R3
    go_wp2_with fail
    refine (Stuff_any _ _).mono ?_
    rintro e w4 ⟨rfl, b4⟩
    have sz4 := B4.size
    have l3 := (Array.getElem?_eq_some_iff.1 E3).1
    have E4 := (b4.block _ l3).trans E3
    have R4 := Wr.fresh E4
    have B5 := B4.trans (b4.mono sz4)
    simp only [hsv]
    clear E3 b4 E4 B4
    generalize stuff BD = ST at *
    go_wp2_with fail
    refine (R4.text ST (by simp) (by omega)).mono ?_
    rintro e w5 ⟨rfl, R5, K5⟩
    have B6 := B5.trans (K5.1.mono (by omega))
    clear R4 B5 K5
    go_wp2_with fail
    refine (wmark_any true R5 (by simp; omega)).mono ?_
    rintro e w6 ⟨rfl, R6, K6⟩
    have B7 := B6.trans (K6.1.mono (by omega))
    clear R5 B6 K6
    go_wp2_with fail
    refine (wmark_any (!ack) R6 (by simp [flagV]; omega)).mono ?_
    rintro e w7 ⟨rfl, R7, K7⟩
    have B8 := B7.trans (K7.1.mono (by omega))
    have lf := flagV_length (!ack)
    clear R6 B7 K7
    go_wp2_with fail
    refine (R7.text [49, 49, 49, 49, 49, 49, 49, 49] (by simp [flagV_length]; omega) (by decide)).mono ?_
    rintro e w8 ⟨rfl, R8, K8⟩
    have B9 := B8.trans (K8.1.mono (by omega))
    clear R7 B8 K8
    go_wp2_with fail
    refine (R8.string (by simp)).mono ?_
    rintro e w9 ⟨rfl, R9, K9⟩
    have B10 := B9.trans (K9.1.mono (by omega))
    clear R8 B9 K9 R9
    go_wp2
    go_ret2
    exact ⟨ret_str (by rw [HV.out, HB.out]; simp) rfl, B10⟩
  · rw [h0] at HC
    have HV : Hid (encV f ack = []) := by show encV f ack = _; rw [HV.out, if_neg (by rw [h0]; decide)]
    rw [h0]
    generalize encV f ack = V at *
    unfold Fr.val
    have fn := Fa.new w f
    have bn : Below w.heap.size w (w.alloc (.cells f.arr 38)) := (Below.refl _ _).alloc (Nat.le_refl _) _
    have sn := size_alloc w (.cells f.arr 38)
    go_enter Try.func22, Try.ntmps22
    go_wp2_with (refine fn.ld rfl _ rfl rfl ?_)
    refine (HC _).mono ?_
    rintro e w1 ⟨rfl, b1⟩
    clear fn HC
    go_wp2
    go_ret2
    exact ⟨ret_str (by rw [HV.out]) rfl, bn.trans (b1.mono (by omega))⟩
end
end Go.Proofs.Ytlghjfomliappaa
