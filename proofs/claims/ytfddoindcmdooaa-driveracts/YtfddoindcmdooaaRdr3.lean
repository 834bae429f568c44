/- Contracts of a reader's field and end. -/
import Derived.Test.YtfddoindcmdooaaRdr2
import Derived.Test.YtfddoindcmdooaaFrame
import Derived.Deep.RegionWith
namespace Go.Proofs.Ytfddoindcmdooaa
open Go.RowKit Go.Proofs.Bits
set_option linter.unusedVariables false
set_option maxRecDepth 1000000

section
variable {t : List UInt8} {s : RS} {g : Nat} {w : World}

theorem bindR_step {α β : Type} {m : RM α} {k : α → RM β} {s s' : RS} {a : α} {r : Except Flt (β × RS)} (H : bindR m k s = r) (h : m s = .ok (a, s')) : k a s' = r := (bindR_ok h).symm.trans H
theorem bindR_fail {α β : Type} {m : RM α} {k : α → RM β} {s : RS} {f : Flt} {r : Except Flt (β × RS)} (H : bindR m k s = r) (h : m s = .error f) : r = .error f := H.symm.trans (bindR_error h)

theorem size_alloc (w : World) (o : Obj) : (w.alloc o).heap.size = w.heap.size + 1 := by simp only [World.alloc, Array.size_push]
def Fr.nul : Fr := ⟨0, false, false, 0, [0, 0, 0, 0, 0, 0, 0, 0], by decide, by decide, rfl⟩
def Fr.setId (f : Fr) (n : Nat) (h : n < 4294967296) : Fr := { f with id := n, hid := h }
def Fr.setExt (f : Fr) (b : Bool) : Fr := { f with ext := b }
def Fr.setRem (f : Fr) (b : Bool) : Fr := { f with rem := b }
def Fr.setLen (f : Fr) (n : Int) (h : -9223372036854775808 ≤ n ∧ n < 9223372036854775808) : Fr := { f with len := n, hlen := h }
theorem Fr.arr_id (f : Fr) (n : Nat) (h : n < 4294967296) : f.arr.setIfInBounds 0 (.int .u32 n) = (f.setId n h).arr := by simp [Fr.arr, Fr.cells, Fr.setId]
theorem Fr.arr_ext (f : Fr) (b : Bool) : f.arr.setIfInBounds 1 (.bool b) = (f.setExt b).arr := by simp [Fr.arr, Fr.cells, Fr.setExt]
theorem Fr.arr_rem (f : Fr) (b : Bool) : f.arr.setIfInBounds 2 (.bool b) = (f.setRem b).arr := by simp [Fr.arr, Fr.cells, Fr.setRem]
theorem Fr.arr_len (f : Fr) (n : Int) (h : -9223372036854775808 ≤ n ∧ n < 9223372036854775808) : f.arr.setIfInBounds 3 (.int .i64 n) = (f.setLen n h).arr := by simp [Fr.arr, Fr.cells, Fr.setLen]
theorem Fr.one (f : Fr) : f.arr.all (·.oneCell') = true := by
  rw [Array.all_eq_true_iff_forall_mem]
  intro x hx
  simp only [Fr.arr, List.mem_toArray, Fr.cells, List.mem_append, List.mem_cons, List.mem_map, List.not_mem_nil, or_false] at hx
  rcases hx with (rfl | rfl | rfl | rfl) | ⟨c, _, rfl⟩ <;> rfl
theorem infoF : (Try.prog.info? 45).map (·.size) = some 12 := by kernel_rfl
/-- The frame f lies in block q. -/
def Fa (q : Nat) (f : Fr) (w : World) : Prop := w.heap[q]? = some (.cells f.arr 45 (0, 0))
section
variable {q : Nat} {f : Fr}
theorem Fa.lt (h : Fa q f w) : q < w.heap.size := (Array.getElem?_eq_some_iff.1 h).1
theorem Fa.new (w : World) (f : Fr) : Fa w.heap.size f (w.alloc (.cells f.arr 45)) := heap_alloc_new w _
theorem Fa.alloc (h : Fa q f w) (o : Obj) : Fa q f (w.alloc o) := (Lib.alloc_old w o q h.lt).trans h
theorem Fa.keep {w' : World} (h : Fa q f w) (hk : Kp g w w') (hq : q ≠ g) : Fa q f w' := hk.2 q _ h (fun e => hq (Option.some.inj e)) (fun _ _ e => by cases e)
theorem Fa.other (h : Fa q f w) {p : Addr} (hp : q ≠ p.block) (v : Value) : Fa q f (w.setCell p v) := (Below.heap_setCell w p v q hp).trans h
theorem Fa.set (h : Fa q f w) (i : Nat) (v : Value) : (w.setCell ⟨q, i, none⟩ v).heap[q]? = some (.cells (f.arr.setIfInBounds i v) 45 (0, 0)) := by
  have h : w.heap[q]? = some (.cells f.arr 45 (0, 0)) := h
  simp only [World.setCell, Array.getElem?_modify, h]
  simp
theorem Fa.setId (h : Fa q f w) (n : Nat) (hn : n < 4294967296) : Fa q (f.setId n hn) (w.setCell ⟨q, 0, none⟩ (.int .u32 n)) := by unfold Fa; rw [h.set, f.arr_id]
theorem Fa.setExt (h : Fa q f w) (b : Bool) : Fa q (f.setExt b) (w.setCell ⟨q, 1, none⟩ (.bool b)) := by unfold Fa; rw [h.set, f.arr_ext]
theorem Fa.setRem (h : Fa q f w) (b : Bool) : Fa q (f.setRem b) (w.setCell ⟨q, 2, none⟩ (.bool b)) := by unfold Fa; rw [h.set, f.arr_rem]
theorem Fa.setLen (h : Fa q f w) (n : Int) (hn : -9223372036854775808 ≤ n ∧ n < 9223372036854775808) : Fa q (f.setLen n hn) (w.setCell ⟨q, 3, none⟩ (.int .i64 n)) := by unfold Fa; rw [h.set, f.arr_len]
theorem Fa.row (h : Fa q f w) (f' : Fr) : Fa q f' (w.setRow q f'.arr) := setRow_heap w q f.arr _ 45 _ h
theorem Fa.frozen (h : Fa q f w) (k : Nat) : w.frozen? ⟨q, k, none⟩ = false := Lib.frozen_of_heap h k
theorem Fa.c0 (h : Fa q f w) : w.cell? ⟨q, 0, none⟩ = some (.int .u32 f.id) := (Lib.cell_of_heap h 0).trans f.arr0
theorem Fa.c1 (h : Fa q f w) : w.cell? ⟨q, 1, none⟩ = some (.bool f.ext) := (Lib.cell_of_heap h 1).trans f.arr1
theorem Fa.c2 (h : Fa q f w) : w.cell? ⟨q, 2, none⟩ = some (.bool f.rem) := (Lib.cell_of_heap h 2).trans f.arr2
theorem Fa.c3 (h : Fa q f w) : w.cell? ⟨q, 3, none⟩ = some (.int .i64 f.len) := (Lib.cell_of_heap h 3).trans f.arr3
theorem Fa.load (h : Fa q f w) : (loadVar 45 ⟨q, 0, none⟩).run Try.prog w = .ok (.agg f.arr) w :=
  run_loadVar_row w q 45 45 f.arr (0, 0) _ h Try.underlying45 rfl (by rw [f.arr_size]; exact infoF)
theorem Fa.store (h : Fa q f w) (f' : Fr) : (storeVar 45 ⟨q, 0, none⟩ (.agg f'.arr)).run Try.prog w = .ok () (w.setRow q f'.arr) :=
  run_storeVar_row w q 45 45 f.arr f'.arr h (by rw [f'.arr_size]; exact infoF) (by rw [f.arr_size, f'.arr_size]) f'.one
theorem Fa.ld {ops : Array Oper} {rest : List Oper} {o : Oper} {a : Act} {Q : Exit → Act → World → Prop} (h : Fa q f w) (hgd : o.guard = none) (x : Operand) (ho : o.op = .load 45 x) (hx : a.eval x = .pointer (some ⟨q, 0, none⟩))
    (hh : wpList Try.prog ops Q rest (a.put o.dst (.agg f.arr)) w) : wpList Try.prog ops Q (o :: rest) a w :=
  wpList_load_row hgd 45 x ho q hx 45 f.arr (0, 0) _ h Try.underlying45 rfl (by rw [f.arr_size]; exact infoF) hh
theorem Fa.sd {ops : Array Oper} {rest : List Oper} {o : Oper} {a : Act} {Q : Exit → Act → World → Prop} (h : Fa q f w) (f' : Fr) (hgd : o.guard = none) (x y : Operand) (ho : o.op = .store 45 x y) (hx : a.eval x = .pointer (some ⟨q, 0, none⟩)) (hy : a.eval y = .agg f'.arr)
    (hh : wpList Try.prog ops Q rest (a.put o.dst undef) (w.setRow q f'.arr)) : wpList Try.prog ops Q (o :: rest) a w :=
  wpList_store_row hgd 45 x y ho q f'.arr hx hy 45 f.arr h (by rw [f'.arr_size]; exact infoF) (by rw [f.arr_size, f'.arr_size]) f'.one hh
end

section
variable {w0 : World} {q0 q1 : Nat} {f : Fr}
end
theorem setRow_kept (w : World) (q : Nat) (c : Array Value) : w.grownBy (w.setRow q c) (some q) := ⟨rfl, rfl, rfl, by simp [World.setRow], fun k _ hk => setRow_other w q k _ (fun e => hk (by simp [e]))⟩
theorem ite_yes {β : Type} {c : Prop} [Decidable c] {A B : RM β} {s : RS} {r : Except Flt (β × RS)} (H : Hid ((if c then A else B) s = r)) (h : c) : Hid (A s = r) := by rw [if_pos h] at H; exact H
theorem ite_no {β : Type} {c : Prop} [Decidable c] {A B : RM β} {s : RS} {r : Except Flt (β × RS)} (H : Hid ((if c then A else B) s = r)) (h : ¬ c) : Hid (B s = r) := by rw [if_neg h] at H; exact H
theorem join18 (a b : Nat) (ha : a < 2048) (hb : b < 262144) : bits BinOp.or IntKind.u32 (IntKind.u32.wrap ((a : Int) * 262144)) (b : Int) = ((a * 262144 + b : Nat) : Int) := by
  have e : ∀ n : Int, IntKind.u32.wrap n = n % 4294967296 := fun n => by simp [IntKind.wrap, IntKind.bits, IntKind.signed]
  rw [e, show ((a : Int) * 262144) % 4294967296 = ((a * 262144 : Nat) : Int) by omega, u32_or_nat _ _ (by omega) (by omega), nat_join 18 (a * 262144) b (by omega) (by omega)]

def fieldF (h : Nat × Bool × Bool) : Fr := if hh : h.1 < 4294967296 then ((Fr.nul.setId h.1 hh).setExt h.2.1).setRem h.2.2 else Fr.nul
def fieldV (h : Nat × Bool × Bool) : Value := (fieldF h).val

end
end Go.Proofs.Ytfddoindcmdooaa
