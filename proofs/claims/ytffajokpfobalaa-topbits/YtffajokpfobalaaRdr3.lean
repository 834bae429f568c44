/- Contracts of a reader's field and end. -/
import Derived.Test.YtffajokpfobalaaRdr2
import Derived.Test.YtffajokpfobalaaFrame
import Derived.Deep.RegionWith
namespace Go.Proofs.Ytffajokpfobalaa
open Go.RowKit Go.Proofs.Bits
set_option linter.unusedVariables false
set_option maxRecDepth 1000000

section
variable {t : List UInt8} {s : RS} {g : Nat} {w : World}

theorem bindR_step {α β : Type} {m : RM α} {k : α → RM β} {s s' : RS} {a : α} {r : Except Flt (β × RS)} (H : bindR m k s = r) (h : m s = .ok (a, s')) : k a s' = r := (bindR_ok h).symm.trans H
theorem bindR_fail {α β : Type} {m : RM α} {k : α → RM β} {s : RS} {f : Flt} {r : Except Flt (β × RS)} (H : bindR m k s = r) (h : m s = .error f) : r = .error f := H.symm.trans (bindR_error h)

/-- Behind a call: it gave up, or went on. -/
theorem PostR.cases {α β : Type} {enc : α → Value} {w0 : World} {enc' : β → Value} {m : RM α} {k : α → RM β} {r : Except Flt (β × RS)} {e : Ending} {w' : World} (hP : PostR g t w0 enc (m s) e w') (H : bindR m k s = r) (b : Kp g w w0) :
    (∃ f, e = .panicked [{ v := faultV f, recovered := false }] ∧ PostR g t w enc' r (.panicked [{ v := faultV f, recovered := false }]) w') ∨ (∃ a s', e = .returned (enc a) ∧ m s = .ok (a, s') ∧ Hid (k a s' = r) ∧ Rd t s' g w' ∧ Kp g w w' ∧ Kp g w0 w') := by
  cases hm : m s with
  | error f =>
    rw [hm] at hP
    obtain ⟨rfl, b1⟩ := hP.error
    exact .inl ⟨f, rfl, PostR.of_error (bindR_fail H hm) (b.trans b1)⟩
  | ok q =>
    obtain ⟨a, s'⟩ := q
    rw [hm] at hP
    obtain ⟨rfl, hR, b1⟩ := hP.ok
    exact .inr ⟨a, s', rfl, rfl, bindR_step H hm, hR, b.trans b1, b1⟩

theorem Rd.alloc (h : Rd t s g w) (o : Obj) : Rd t s g (w.alloc o) := by
  have hlt := h.lt
  obtain ⟨ok, cs, hc, ⟨hB, hg, hp, v, hv, hown⟩, h0, h1, h2, h3⟩ := h
  exact ⟨ok, cs, hc, ⟨hB, (Lib.alloc_old w o g hlt).trans hg, hp, v, hv, hown.alloc o⟩, h0, h1, h2, h3⟩
theorem Rd.other (h : Rd t s g w) {p : Addr} {cs : Array Value} {T : TypeId} {fr : Nat × Nat} (hp : w.heap[p.block]? = some (.cells cs T fr)) (hT : T ≠ 5) (hT2 : T ≠ 64) (v : Value) : Rd t s g (w.setCell p v) := by
  obtain ⟨ok, ds, hc, ⟨hB, hg, hpp, u, hu, hown⟩, h0, h1, h2, h3⟩ := h
  have hne : g ≠ p.block := by
    intro e
    rw [e, hp] at hg
    simp only [Option.some.injEq, Obj.cells.injEq] at hg
    exact hT2 hg.2.1
  refine ⟨ok, ds, hc, ⟨hB, ?_, hpp, u, hu, ?_⟩, h0, h1, h2, h3⟩
  · rw [Below.heap_setCell _ _ _ _ hne]; exact hg
  · exact hown.kept (row := some p.block) ⟨rfl, rfl, rfl, by simp [World.setCell], fun k _ hk => Below.heap_setCell _ _ _ _ (fun e => hk (by simp [e]))⟩ (Or.inr (Lib.ownBlock_neF hown hp hT))

theorem size_alloc (w : World) (o : Obj) : (w.alloc o).heap.size = w.heap.size + 1 := by simp only [World.alloc, Array.size_push]
def Fr.nul : Fr := ⟨0, false, false, 0, [0, 0, 0, 0, 0, 0, 0, 0], by decide, by decide, rfl⟩
def Fr.setId (f : Fr) (n : Nat) (h : n < 4294967296) : Fr := { f with id := n, hid := h }
def Fr.setExt (f : Fr) (b : Bool) : Fr := { f with ext := b }
def Fr.setRem (f : Fr) (b : Bool) : Fr := { f with rem := b }
def Fr.setLen (f : Fr) (n : Int) (h : -9223372036854775808 ≤ n ∧ n < 9223372036854775808) : Fr := { f with len := n, hlen := h }
theorem Fr.arr_id (f : Fr) (n : Nat) (h : n < 4294967296) : f.arr.setIfInBounds 0 (.int .u32 n) = (f.setId n h).arr := by simp [Fr.arr, Fr.cells, Fr.setId]
theorem Fr.arr_ext (f : Fr) (b : Bool) : f.arr.setIfInBounds 1 (.bool b) = (f.setExt b).arr := by simp [Fr.arr, Fr.cells, Fr.setExt]
theorem Fr.arr_rem (f : Fr) (b : Bool) : f.arr.setIfInBounds 2 (.bool b) = (f.setRem b).arr := by simp [Fr.arr, Fr.cells, Fr.setRem]
theorem Fr.arr_len (f : Fr) (n : Int) (h : -9223372036854775808 ≤ n ∧ n < 9223372036854775808) : f.arr.setIfInBounds 3 (.int .i64 n) = (f.setLen n h).arr := by simp [Fr.arr, Fr.cells, Fr.setLen]
theorem Fr.one (f : Fr) : f.arr.all (·.oneCell') = true := by
  rw [Array.all_eq_true_iff_forall_mem]
  intro x hx
  simp only [Fr.arr, List.mem_toArray, Fr.cells, List.mem_append, List.mem_cons, List.mem_map, List.not_mem_nil, or_false] at hx
  rcases hx with (rfl | rfl | rfl | rfl) | ⟨c, _, rfl⟩ <;> rfl
theorem infoF : (Try.prog.info? 33).map (·.size) = some 12 := by kernel_rfl
/-- The frame f lies in block q. -/
def Fa (q : Nat) (f : Fr) (w : World) : Prop := w.heap[q]? = some (.cells f.arr 33 (0, 0))
section
variable {q : Nat} {f : Fr}
theorem Fa.lt (h : Fa q f w) : q < w.heap.size := (Array.getElem?_eq_some_iff.1 h).1
theorem Fa.new (w : World) (f : Fr) : Fa w.heap.size f (w.alloc (.cells f.arr 33)) := heap_alloc_new w _
theorem Fa.alloc (h : Fa q f w) (o : Obj) : Fa q f (w.alloc o) := (Lib.alloc_old w o q h.lt).trans h
theorem Fa.keep {w' : World} (h : Fa q f w) (hk : Kp g w w') (hq : q ≠ g) : Fa q f w' := hk.2 q _ h (fun e => hq (Option.some.inj e)) (fun _ _ e => by cases e)
theorem Fa.other (h : Fa q f w) {p : Addr} (hp : q ≠ p.block) (v : Value) : Fa q f (w.setCell p v) := (Below.heap_setCell w p v q hp).trans h
theorem Fa.set (h : Fa q f w) (i : Nat) (v : Value) : (w.setCell ⟨q, i, none⟩ v).heap[q]? = some (.cells (f.arr.setIfInBounds i v) 33 (0, 0)) := by
  have h : w.heap[q]? = some (.cells f.arr 33 (0, 0)) := h
  simp only [World.setCell, Array.getElem?_modify, h]
  simp
theorem Fa.setId (h : Fa q f w) (n : Nat) (hn : n < 4294967296) : Fa q (f.setId n hn) (w.setCell ⟨q, 0, none⟩ (.int .u32 n)) := by unfold Fa; rw [h.set, f.arr_id]
theorem Fa.setExt (h : Fa q f w) (b : Bool) : Fa q (f.setExt b) (w.setCell ⟨q, 1, none⟩ (.bool b)) := by unfold Fa; rw [h.set, f.arr_ext]
theorem Fa.setRem (h : Fa q f w) (b : Bool) : Fa q (f.setRem b) (w.setCell ⟨q, 2, none⟩ (.bool b)) := by unfold Fa; rw [h.set, f.arr_rem]
theorem Fa.setLen (h : Fa q f w) (n : Int) (hn : -9223372036854775808 ≤ n ∧ n < 9223372036854775808) : Fa q (f.setLen n hn) (w.setCell ⟨q, 3, none⟩ (.int .i64 n)) := by unfold Fa; rw [h.set, f.arr_len]
theorem Fa.row (h : Fa q f w) (f' : Fr) : Fa q f' (w.setRow q f'.arr) := setRow_heap w q f.arr _ 33 _ h
theorem Fa.frozen (h : Fa q f w) (k : Nat) : w.frozen? ⟨q, k, none⟩ = false := Lib.frozen_of_heap h k
theorem Fa.c0 (h : Fa q f w) : w.cell? ⟨q, 0, none⟩ = some (.int .u32 f.id) := (Lib.cell_of_heap h 0).trans f.arr0
theorem Fa.c1 (h : Fa q f w) : w.cell? ⟨q, 1, none⟩ = some (.bool f.ext) := (Lib.cell_of_heap h 1).trans f.arr1
theorem Fa.c2 (h : Fa q f w) : w.cell? ⟨q, 2, none⟩ = some (.bool f.rem) := (Lib.cell_of_heap h 2).trans f.arr2
theorem Fa.c3 (h : Fa q f w) : w.cell? ⟨q, 3, none⟩ = some (.int .i64 f.len) := (Lib.cell_of_heap h 3).trans f.arr3
theorem Fa.load (h : Fa q f w) : (loadVar 33 ⟨q, 0, none⟩).run Try.prog w = .ok (.agg f.arr) w :=
  run_loadVar_row w q 33 33 f.arr (0, 0) _ h Try.underlying33 rfl (by rw [f.arr_size]; exact infoF)
theorem Fa.store (h : Fa q f w) (f' : Fr) : (storeVar 33 ⟨q, 0, none⟩ (.agg f'.arr)).run Try.prog w = .ok () (w.setRow q f'.arr) :=
  run_storeVar_row w q 33 33 f.arr f'.arr h (by rw [f'.arr_size]; exact infoF) (by rw [f.arr_size, f'.arr_size]) f'.one
theorem Fa.ld {ops : Array Oper} {rest : List Oper} {o : Oper} {a : Act} {Q : Exit → Act → World → Prop} (h : Fa q f w) (hgd : o.guard = none) (x : Operand) (ho : o.op = .load 33 x) (hx : a.eval x = .pointer (some ⟨q, 0, none⟩))
    (hh : wpList Try.prog ops Q rest (a.put o.dst (.agg f.arr)) w) : wpList Try.prog ops Q (o :: rest) a w :=
  wpList_load_row hgd 33 x ho q hx 33 f.arr (0, 0) _ h Try.underlying33 rfl (by rw [f.arr_size]; exact infoF) hh
theorem Fa.sd {ops : Array Oper} {rest : List Oper} {o : Oper} {a : Act} {Q : Exit → Act → World → Prop} (h : Fa q f w) (f' : Fr) (hgd : o.guard = none) (x y : Operand) (ho : o.op = .store 33 x y) (hx : a.eval x = .pointer (some ⟨q, 0, none⟩)) (hy : a.eval y = .agg f'.arr)
    (hh : wpList Try.prog ops Q rest (a.put o.dst undef) (w.setRow q f'.arr)) : wpList Try.prog ops Q (o :: rest) a w :=
  wpList_store_row hgd 33 x y ho q f'.arr hx hy 33 f.arr h (by rw [f'.arr_size]; exact infoF) (by rw [f.arr_size, f'.arr_size]) f'.one hh
theorem Rd.fr (h : Rd t s g w) (hf : Fa q f w) (i : Nat) (v : Value) : Rd t s g (w.setCell ⟨q, i, none⟩ v) := h.other (p := ⟨q, i, none⟩) (cs := f.arr) (T := 33) (fr := (0, 0)) hf (by decide) (by decide) v
end

/-- A reader in block g, a result in block q0, a frame f in block q1, behind w0. -/
def Fs (t : List UInt8) (s : RS) (g : Nat) (w0 : World) (q0 q1 : Nat) (f : Fr) (w : World) : Prop :=
  Rd t s g w ∧ Fa q1 f w ∧ Fa q0 Fr.nul w ∧ Kp g w0 w ∧ g < q0 ∧ q0 < q1 ∧ w0.heap.size ≤ q0
section
variable {w0 : World} {q0 q1 : Nat} {f : Fr}
theorem Fs.keep {s' : RS} {w' : World} (h : Fs t s g w0 q0 q1 f w) (hR : Rd t s' g w') (hk : Kp g w w') : Fs t s' g w0 q0 q1 f w' := by
  obtain ⟨_, f1, f0, k, l1, l2, l3⟩ := h
  exact ⟨hR, f1.keep hk (by omega), f0.keep hk (by omega), k.trans hk, l1, l2, l3⟩
theorem Fs.put {i : Nat} {v : Value} {f' : Fr} (h : Fs t s g w0 q0 q1 f w) (hf : Fa q1 f' (w.setCell ⟨q1, i, none⟩ v)) : Fs t s g w0 q0 q1 f' (w.setCell ⟨q1, i, none⟩ v) := by
  obtain ⟨hR, f1, f0, k, l1, l2, l3⟩ := h
  exact ⟨hR.fr f1 i v, hf, f0.other (p := ⟨q1, i, none⟩) (by simp; omega) v, k.setNew (p := ⟨q1, i, none⟩) (by simp; omega) (by simp; omega) v, l1, l2, l3⟩
theorem Fs.setId (h : Fs t s g w0 q0 q1 f w) (n : Nat) (hn : n < 4294967296) : Fs t s g w0 q0 q1 (f.setId n hn) (w.setCell ⟨q1, 0, none⟩ (.int .u32 n)) := h.put (h.2.1.setId n hn)
theorem Fs.setExt (h : Fs t s g w0 q0 q1 f w) (b : Bool) : Fs t s g w0 q0 q1 (f.setExt b) (w.setCell ⟨q1, 1, none⟩ (.bool b)) := h.put (h.2.1.setExt b)
theorem Fs.setRem (h : Fs t s g w0 q0 q1 f w) (b : Bool) : Fs t s g w0 q0 q1 (f.setRem b) (w.setCell ⟨q1, 2, none⟩ (.bool b)) := h.put (h.2.1.setRem b)
theorem Fs.setLen (h : Fs t s g w0 q0 q1 f w) (n : Int) (hn : -9223372036854775808 ≤ n ∧ n < 9223372036854775808) : Fs t s g w0 q0 q1 (f.setLen n hn) (w.setCell ⟨q1, 3, none⟩ (.int .i64 n)) := h.put (h.2.1.setLen n hn)
theorem Fs.new (h : Rd t s g w) : Fs t s g w w.heap.size (w.heap.size + 1) Fr.nul ((w.alloc (.cells Fr.nul.arr 33)).alloc (.cells Fr.nul.arr 33)) := by
  have hgl := h.lt
  refine ⟨(h.alloc _).alloc _, ?_, (Fa.new w Fr.nul).alloc _, ((Kp.refl g w).alloc (by omega) _).alloc (by rw [size_alloc]; omega) _, hgl, by omega, by omega⟩
  have := Fa.new (w.alloc (.cells Fr.nul.arr 33)) Fr.nul
  rw [size_alloc] at this
  exact this
theorem Fs.rd (h : Fs t s g w0 q0 q1 f w) : Rd t s g w := h.1
theorem Fs.kp (h : Fs t s g w0 q0 q1 f w) : Kp g w0 w := h.2.2.2.1
theorem Fs.c0 (h : Fs t s g w0 q0 q1 f w) : w.cell? ⟨q1, 0, none⟩ = some (.int .u32 f.id) := h.2.1.c0
theorem Fs.c1 (h : Fs t s g w0 q0 q1 f w) : w.cell? ⟨q1, 1, none⟩ = some (.bool f.ext) := h.2.1.c1
theorem Fs.c2 (h : Fs t s g w0 q0 q1 f w) : w.cell? ⟨q1, 2, none⟩ = some (.bool f.rem) := h.2.1.c2
theorem Fs.c3 (h : Fs t s g w0 q0 q1 f w) : w.cell? ⟨q1, 3, none⟩ = some (.int .i64 f.len) := h.2.1.c3
theorem Fs.z (h : Fs t s g w0 q0 q1 f w) (k : Nat) : w.frozen? ⟨q1, k, none⟩ = false := h.2.1.frozen k
theorem Fs.load (h : Fs t s g w0 q0 q1 f w) : (loadVar 33 ⟨q1, 0, none⟩).run Try.prog w = .ok (.agg f.arr) w := h.2.1.load
theorem Fs.store (h : Fs t s g w0 q0 q1 f w) (f' : Fr) : (storeVar 33 ⟨q0, 0, none⟩ (.agg f'.arr)).run Try.prog w = .ok () (w.setRow q0 f'.arr) := h.2.2.1.store f'
end
theorem setRow_kept (w : World) (q : Nat) (c : Array Value) : w.grownBy (w.setRow q c) (some q) := ⟨rfl, rfl, rfl, by simp [World.setRow], fun k _ hk => setRow_other w q k _ (fun e => hk (by simp [e]))⟩
theorem Fs.done {w0 : World} {q0 q1 : Nat} {f : Fr} (h : Fs t s g w0 q0 q1 f w) : Rd t s g (w.setRow q0 f.arr) ∧ Kp g w0 (w.setRow q0 f.arr) ∧ Fa q0 f (w.setRow q0 f.arr) := by
  obtain ⟨⟨ok, cs, hc, ⟨hB, hg, hpp, u, hu, hown⟩, hx0, hx1, hx2, hx3⟩, f1, f0, k, l1, l2, l3⟩ := h
  refine ⟨⟨ok, cs, hc, ⟨hB, ?_, hpp, u, hu, ?_⟩, hx0, hx1, hx2, hx3⟩, ⟨k.1.grown (setRow_kept w q0 _) (by have := f0.lt; omega) (fun j hj => by cases hj; omega), fun j x hj hb hx => ?_⟩, f0.row f⟩
  · rw [setRow_other w q0 g _ (by omega)]; exact hg
  · exact hown.kept (setRow_kept w q0 _) (Or.inr (Lib.ownBlock_neF hown f0 (by decide)))
  · have hlt : j < w0.heap.size := (Array.getElem?_eq_some_iff.1 hj).1
    rw [setRow_other w q0 j _ (by omega)]
    exact k.2 j x hj hb hx

/-- A call of the reader's while a frame is made. -/
theorem Fs.cases {α β : Type} {enc : α → Value} {w0 w : World} {q0 q1 : Nat} {f : Fr} {enc' : β → Value} {m : RM α} {k : α → RM β} {r : Except Flt (β × RS)} {e : Ending} {w' : World} (h : Fs t s g w0 q0 q1 f w) (H : Hid (bindR m k s = r)) (hP : PostR g t w enc (m s) e w') :
    (∃ f, e = .panicked [{ v := faultV f, recovered := false }] ∧ PostR g t w0 enc' r (.panicked [{ v := faultV f, recovered := false }]) w') ∨ (∃ a s', e = .returned (enc a) ∧ m s = .ok (a, s') ∧ Hid (k a s' = r) ∧ Fs t s' g w0 q0 q1 f w') := by
  rcases hP.cases H.out h.kp with ⟨f, rfl, hG⟩ | ⟨a, s1, rfl, e1, HR1, h1, b1, k1⟩
  · exact .inl ⟨f, rfl, hG⟩
  · exact .inr ⟨a, s1, rfl, e1, HR1, h.keep h1 k1⟩

theorem ite_yes {β : Type} {c : Prop} [Decidable c] {A B : RM β} {s : RS} {r : Except Flt (β × RS)} (H : Hid ((if c then A else B) s = r)) (h : c) : Hid (A s = r) := by rw [if_pos h] at H; exact H
theorem ite_no {β : Type} {c : Prop} [Decidable c] {A B : RM β} {s : RS} {r : Except Flt (β × RS)} (H : Hid ((if c then A else B) s = r)) (h : ¬ c) : Hid (B s = r) := by rw [if_neg h] at H; exact H
theorem Fs.drew {w0 w : World} {q0 q1 : Nat} {f : Fr} (h : Fs t s g w0 q0 q1 f w) : Fs t s g w0 q0 q1 f w.drew := ⟨h.1, h.2.1, h.2.2.1, h.kp.drewN 1, h.2.2.2.2⟩

theorem join18 (a b : Nat) (ha : a < 2048) (hb : b < 262144) : bits BinOp.or IntKind.u32 (IntKind.u32.wrap ((a : Int) * 262144)) (b : Int) = ((a * 262144 + b : Nat) : Int) := by
  have e : ∀ n : Int, IntKind.u32.wrap n = n % 4294967296 := fun n => by simp [IntKind.wrap, IntKind.bits, IntKind.signed]
  rw [e, show ((a : Int) * 262144) % 4294967296 = ((a * 262144 : Nat) : Int) by omega, u32_or_nat _ _ (by omega) (by omega), nat_join 18 (a * 262144) b (by omega) (by omega)]

def fieldF (h : Nat × Bool × Bool) : Fr := if hh : h.1 < 4294967296 then ((Fr.nul.setId h.1 hh).setExt h.2.1).setRem h.2.2 else Fr.nul
def fieldV (h : Nat × Bool × Bool) : Value := (fieldF h).val

set_option maxHeartbeats 4000000 in
theorem field_any {r : Except Flt ((Nat × Bool × Bool) × RS)} (ht : t.length ≤ 65536) (hall : t.all isBit = true) (h : Rd t s g w) (hrow : s.row ≤ 4) (hr : fieldS t s = r) :
    Calls Try.prog 37 #[.pointer (some ⟨g, 0, none⟩)] w (PostR g t w fieldV r) := by
  have HR : Hid (fieldS t s = r) := hr
  clear hr
  have hgl := h.lt
  have hF := Fs.new h
  generalize hq0 : w.heap.size = q0 at hF
  generalize hq1 : q0 + 1 = q1 at hF
  go_enter Try.func37, Try.ntmps37
  go_wp2_with fail
  change Calls Try.prog 38 _ ((w.alloc (.cells Fr.nul.arr 33)).alloc (.cells Fr.nul.arr 33)) _
  generalize ((w.alloc (.cells Fr.nul.arr 33)).alloc (.cells Fr.nul.arr 33)) = W at *
  clear hq0 hq1 h
  refine (number_any 11 (by omega) ht hall hF.rd hrow rfl).mono ?_
  intro e w1 hP
  rcases hF.cases HR hP with ⟨f, rfl, hG⟩ | ⟨a, s1, rfl, e1, HR1, F1⟩
  · exact ⟨rfl, hG⟩
  have r1 := takeS_row 11 e1 hrow
  have l1 := takeS_lt hall e1
  have hid : val a < 4294967296 := by omega
  have F2 := F1.setId (val a) hid
  have c0 := F1.c0
  have z0 := F1.z 0
  unfold u32V
  clear hP e1 HR hF F1
  go_wp2_with fail
  refine (mark_any ht hall F2.rd r1 rfl).mono ?_
  intro e w2 hP
  rcases F2.cases HR1 hP with ⟨f, rfl, hG⟩ | ⟨m2, s2, rfl, e2, HR2, F3⟩
  · exact ⟨rfl, hG⟩
  have r2 := bitS_row e2 r1
  have F4 := F3.setRem (decide (m2 = 49))
  have c2 := F3.c2
  have z2 := F3.z 2
  unfold markV
  clear hP e2 HR1 F2 F3 c0 z0
  go_wp2_with fail
  refine (mark_any ht hall F4.rd r2 rfl).mono ?_
  intro e w3 hP
  rcases F4.cases HR2 hP with ⟨f, rfl, hG⟩ | ⟨m3, s3, rfl, e3, HR3, F5⟩
  · exact ⟨rfl, hG⟩
  have r3 := bitS_row e3 r2
  have F6 := F5.setExt (decide (m3 = 49))
  have c1 := F5.c1
  have z1 := F5.z 1
  have c0 := F5.c0
  unfold markV
  clear hP e3 HR2 F4 F5 c2 z2
  by_cases hx : m3 = 49
  · have HR4 := ite_yes HR3 hx
    have hd : decide (m3 = 49) = true := by simp [hx]
    rw [hd] at F6
    rw [hd]
    clear HR3
    have c00 := F6.c0
    have z00 := F6.z 0
    clear hx hd c0
    go_wp2_with fail
    have F6d := F6.drew
    have HN : Calls Try.prog 38 #[.pointer (some ⟨g, 0, none⟩), .int .i64 18] (w3.setCell ⟨q1, 1, none⟩ (.bool true)).drew _ := (number_any 18 (by omega) ht hall F6d.rd r3 rfl).mono fun _ _ hP => F6d.cases (enc' := fieldV) HR4 hP
    clear HR4 F6 F6d
    go_region_with (go_at_call 38; refine HN.mono ?_; rintro e w4 (⟨f, rfl, hG⟩ | ⟨b, s4, rfl, e4, HR5, F7⟩) <;> first | exact ⟨rfl, hG⟩ | (have d0 := F7.c0; have y0 := F7.z 0; unfold u32V))
    all_goals
      have l4 := takeS_lt hall e4
      have r4 := takeS_row 18 e4 r3
      have HV : bits BinOp.or IntKind.u32 (IntKind.u32.wrap (((((Fr.nul.setId (val a) hid).setRem (decide (m2 = 49))).setExt true).id : Int) * 262144)) (val b : Int) = ((val a * 262144 + val b : Nat) : Int) := join18 (val a) (val b) (by omega) (by omega)
      have hid2 : val a * 262144 + val b < 4294967296 := by omega
      have F8 := F7.setId (val a * 262144 + val b) hid2
      rw [HV]
      clear HN HV e4 d0 y0 c00 z00 c1 z1 F7
      go_wp2_with fail
      refine (mark_any ht hall F8.rd r4 rfl).mono ?_
      intro e w5 hP
      rcases F8.cases HR5 hP with ⟨f, rfl, hG⟩ | ⟨m5, s5, rfl, e5, HR6, F9⟩
      · exact ⟨rfl, hG⟩
      have r5 := bitS_row e5 r4
      have F10 := F9.setRem (decide (m5 = 49))
      have c2 := F9.c2
      have z2 := F9.z 2
      unfold markV
      clear hP e5 HR5 F8 F9
      go_wp2_with fail
      refine (bit_any ht hall F10.rd r5 rfl).mono ?_
      intro e w6 hP
      rcases F10.cases HR6 hP with ⟨f, rfl, hG⟩ | ⟨m6, s6, rfl, e6, HR7, F11⟩
      · exact ⟨rfl, hG⟩
      have r6 := bitS_row e6 r5
      unfold u8V
      clear hP e6 HR6 F10 c2 z2
      go_wp2_with fail
      refine (bit_any ht hall F11.rd r6 rfl).mono ?_
      intro e w7 hP
      rcases F11.cases HR7 hP with ⟨f, rfl, hG⟩ | ⟨m7, s7, rfl, e7, HR8, F12⟩
      · exact ⟨rfl, hG⟩
      have hF : Hid (fieldF (val a * 262144 + val b, true, decide (m5 = 49)) = ((((Fr.nul.setId (val a) hid).setRem (decide (m2 = 49))).setExt true).setId (val a * 262144 + val b) hid2).setRem (decide (m5 = 49))) := by
        show fieldF _ = _
        rw [fieldF, dif_pos hid2]; rfl
      unfold u8V
      clear hP e7 HR7 F11
      generalize ((((Fr.nul.setId (val a) hid).setRem (decide (m2 = 49))).setExt true).setId (val a * 262144 + val b) hid2).setRem (decide (m5 = 49)) = F at *
      obtain ⟨D1, D2, D3⟩ := F12.done
      have f1 := F12.2.1
      have f0 := F12.2.2.1
      go_wp2_with (first | refine f1.ld rfl _ rfl rfl ?_ | refine f0.sd F rfl _ _ rfl rfl rfl ?_)
      refine bodyPost_ret (v := .agg F.arr) (results_cell_row rfl _ _ q0 33 F.arr (0, 0) _ rfl D3 Try.underlying33 rfl (by rw [F.arr_size]; exact infoF)) rfl (PostR.of_ok (a := (val a * 262144 + val b, true, decide (m5 = 49))) HR8.out.symm ?_ D1 D2)
      rw [fieldV, hF.out]; rfl
  · have HR4 := ite_no HR3 hx
    have hd : decide (m3 = 49) = false := by simp [hx]
    rw [hd] at F6
    rw [hd]
    clear HR3
    go_wp2_with fail
    refine (bit_any ht hall F6.rd r3 rfl).mono ?_
    intro e w4 hP
    rcases F6.cases HR4 hP with ⟨f, rfl, hG⟩ | ⟨m4, s4, rfl, e4, HR5, F7⟩
    · exact ⟨rfl, hG⟩
    have hF : Hid (fieldF (val a, false, decide (m2 = 49)) = ((Fr.nul.setId (val a) hid).setRem (decide (m2 = 49))).setExt false) := by
      show fieldF _ = _
      rw [fieldF, dif_pos hid]; rfl
    unfold u8V
    clear hP e4 HR4 F6 c0 c1 z1
    generalize ((Fr.nul.setId (val a) hid).setRem (decide (m2 = 49))).setExt false = F at *
    obtain ⟨D1, D2, D3⟩ := F7.done
    have f1 := F7.2.1
    have f0 := F7.2.2.1
    go_wp2_with (first | refine f1.ld rfl _ rfl rfl ?_ | refine f0.sd F rfl _ _ rfl rfl rfl ?_)
    refine bodyPost_ret (v := .agg F.arr) (results_cell_row rfl _ _ q0 33 F.arr (0, 0) _ rfl D3 Try.underlying33 rfl (by rw [F.arr_size]; exact infoF)) rfl (PostR.of_ok (a := (val a, false, decide (m2 = 49))) HR5.out.symm ?_ D1 D2)
    rw [fieldV, hF.out]; rfl
end
end Go.Proofs.Ytffajokpfobalaa
