/- Process data objects: forms that can be; senders in memory, the program's and the document's. -/
import Derived.Test.YtkflffdoipeocaaOaM
import Derived.Test.YtkflffdoipeocaaProg
import Derived.WalkKit
import Derived.WalkSmall
import Derived.Deep.QuietTactic
import Derived.BigQuiet
import Derived.Deep.WholeRow
import Derived.Below
import Derived.Deep.RegionWith
namespace Go.Proofs.Ytkflffdoipeocaa
open Go.RowKit
set_option linter.unusedVariables false
set_option maxRecDepth 1000000

theorem ret_int {k : IntKind} {a b : Int} (h : a = b) : Ending.returned (.int k a) = .returned (.int k b) := by rw [h]
theorem ret_bool {a b : Bool} (h : a = b) : Ending.returned (.bool a) = .returned (.bool b) := by rw [h]
theorem once_any (w : World) (n : Int) : Calls Try.prog 28 #[.int .i64 n] w fun e w' => e = .returned (.bool (freeO n)) ∧ w' = w := by
  have HO : Hid (freeO n = (decide (254 ≤ n) && decide (n ≤ 255))) := by
    show _ = _
    unfold freeO
    rw [Bool.eq_iff_iff]
    simp
    omega
  generalize freeO n = o at *
  by_cases h : 254 ≤ n
  · have d1 : decide (254 ≤ n) = true := by simp [h]
    rw [d1] at HO
    clear h
    go_enter Try.func28, Try.ntmps28
    go_wp2
    go_ret
    exact ⟨ret_bool (by rw [HO.out]; simp), rfl⟩
  · have d1 : decide (254 ≤ n) = false := by simp [h]
    rw [d1] at HO
    clear h
    go_enter Try.func28, Try.ntmps28
    go_wp2
    go_ret
    exact ⟨ret_bool (by rw [HO.out]; simp), rfl⟩
theorem dfree_any (w : World) (n : Int) : Calls Try.prog 15 #[.int .i64 n] w fun e w' => e = .returned (.bool (freeO n)) ∧ w' = w := by
  have HO : Hid (freeO n = (decide (n = 254) || decide (n = 255))) := rfl
  generalize freeO n = o at *
  by_cases h : n = 254
  · have d1 : (n == 254) = true := by simp [h]
    rw [decide_eq_true h] at HO
    clear h
    go_enter Try.func15, Try.ntmps15
    go_wp2
    go_ret
    exact ⟨ret_bool (by rw [HO.out]; simp), rfl⟩
  · have d1 : (n == 254) = false := by simp [h]
    rw [decide_eq_false h] at HO
    clear h
    go_enter Try.func15, Try.ntmps15
    go_wp2
    go_ret
    refine ⟨ret_bool ?_, rfl⟩
    rw [HO.out, Bool.eq_iff_iff]
    simp
theorem may_any (w : World) (n : Int) : Calls Try.prog 24 #[.int .i64 n] w fun e w' => e = .returned (.bool (isO n)) ∧ w' = w := by
  have HF := once_any w n
  have HO : Hid (isO n = (decide (0 ≤ n) && decide (n ≤ 240) || freeO n)) := rfl
  generalize isO n = o at *
  generalize freeO n = f at *
  by_cases h : 0 ≤ n
  · have d1 : decide (0 ≤ n) = true := by simp [h]
    rw [d1] at HO
    by_cases h2 : n ≤ 240
    · have d2 : decide (n ≤ 240) = true := by simp [h2]
      rw [d2] at HO
      clear h h2
      go_enter Try.func24, Try.ntmps24
      go_wp2_with (go_at_call 28; refine HF.mono ?_; rintro e w' ⟨rfl, rfl⟩)
      go_ret
      exact ⟨ret_bool (by rw [HO.out]; simp), rfl⟩
    · have d2 : decide (n ≤ 240) = false := by simp [h2]
      rw [d2] at HO
      clear h h2
      go_enter Try.func24, Try.ntmps24
      go_wp2_with (go_at_call 28; refine HF.mono ?_; rintro e w' ⟨rfl, rfl⟩)
      go_ret
      exact ⟨ret_bool (by rw [HO.out]; simp), rfl⟩
  · have d1 : decide (0 ≤ n) = false := by simp [h]
    rw [d1] at HO
    clear h
    go_enter Try.func24, Try.ntmps24
    go_wp2_with (go_at_call 28; refine HF.mono ?_; rintro e w' ⟨rfl, rfl⟩)
    go_ret
    exact ⟨ret_bool (by rw [HO.out]; simp), rfl⟩
theorem dis_any (w : World) (n : Int) : Calls Try.prog 20 #[.int .i64 n] w fun e w' => e = .returned (.bool (isO n)) ∧ w' = w := by
  have HF := dfree_any w n
  have HO : Hid (isO n = (decide (0 ≤ n) && decide (n ≤ 240) || freeO n)) := rfl
  generalize isO n = o at *
  generalize freeO n = f at *
  by_cases h : 0 ≤ n
  · have d1 : decide (0 ≤ n) = true := by simp [h]
    rw [d1] at HO
    by_cases h2 : n ≤ 240
    · have d2 : decide (n ≤ 240) = true := by simp [h2]
      rw [d2] at HO
      clear h h2
      go_enter Try.func20, Try.ntmps20
      go_wp2_with (go_at_call 15; refine HF.mono ?_; rintro e w' ⟨rfl, rfl⟩)
      go_ret
      exact ⟨ret_bool (by rw [HO.out]; simp), rfl⟩
    · have d2 : decide (n ≤ 240) = false := by simp [h2]
      rw [d2] at HO
      clear h h2
      go_enter Try.func20, Try.ntmps20
      go_wp2_with (go_at_call 15; refine HF.mono ?_; rintro e w' ⟨rfl, rfl⟩)
      go_ret
      exact ⟨ret_bool (by rw [HO.out]; simp), rfl⟩
  · have d1 : decide (0 ≤ n) = false := by simp [h]
    rw [d1] at HO
    clear h
    go_enter Try.func20, Try.ntmps20
    go_wp2_with (go_at_call 15; refine HF.mono ?_; rintro e w' ⟨rfl, rfl⟩)
    go_ret
    exact ⟨ret_bool (by rw [HO.out]; simp), rfl⟩
/-- Blocks other than g and h stand; nothing else is changed. -/
structure Two (g h : Nat) (w w' : World) : Prop where
  os : w'.os = w.os
  tape : w'.tape = w.tape
  output : w'.output = w.output
  size : w.heap.size ≤ w'.heap.size
  block : ∀ k, k < w.heap.size → k ≠ g → k ≠ h → w'.heap[k]? = w.heap[k]?
section
variable {g h : Nat} {a b c w : World}
theorem Two.refl (g h : Nat) (w : World) : Two g h w w := ⟨rfl, rfl, rfl, Nat.le_refl _, fun _ _ _ _ => rfl⟩
theorem Two.trans (x : Two g h a b) (y : Two g h b c) : Two g h a c :=
  ⟨y.os.trans x.os, y.tape.trans x.tape, y.output.trans x.output, Nat.le_trans x.size y.size, fun k hk h1 h2 => (y.block k (Nat.lt_of_lt_of_le hk x.size) h1 h2).trans (x.block k hk h1 h2)⟩
theorem Two.setCell (x : Two g h a w) {p : Addr} (hp : p.block = g ∨ p.block = h ∨ a.heap.size ≤ p.block) (v : Value) : Two g h a (w.setCell p v) :=
  ⟨x.os, x.tape, x.output, by simpa [World.setCell] using x.size, fun k hk h1 h2 => (Below.heap_setCell w p v k (by omega)).trans (x.block k hk h1 h2)⟩
theorem Two.alloc (x : Two g h a w) (o : Obj) : Two g h a (w.alloc o) :=
  ⟨x.os, x.tape, x.output, Nat.le_trans x.size (by simp), fun k hk h1 h2 => (Below.heap_alloc _ _ _ (Nat.lt_of_lt_of_le hk x.size)).trans (x.block k hk h1 h2)⟩
theorem Two.drawn (x : Two g h a w) (n : Nat) : Two g h a (w.drewN n) := ⟨x.os, x.tape, x.output, x.size, x.block⟩
theorem Two.row (x : Two g h a w) (q : Nat) (hq : q = g ∨ q = h) (cs : Array Value) : Two g h a (w.setRow q cs) :=
  ⟨x.os, x.tape, x.output, by simpa [World.setRow] using x.size, fun k hk h1 h2 => (setRow_other w q k _ (by omega)).trans (x.block k hk h1 h2)⟩
theorem Two.at0 (x : Two g h a w) (i : Nat) (v : Value) : Two g h a (w.setCell ⟨g, i, none⟩ v) := x.setCell (p := ⟨g, i, none⟩) (.inl rfl) v
theorem Two.at1 (x : Two g h a w) (i : Nat) (v : Value) : Two g h a (w.setCell ⟨h, i, none⟩ v) := x.setCell (p := ⟨h, i, none⟩) (.inr (.inl rfl)) v
theorem Two.left (x : Two g g a w) (h : Nat) : Two g h a w := ⟨x.os, x.tape, x.output, x.size, fun k hk h1 h2 => x.block k hk h1 h1⟩
theorem Two.right (x : Two h h a w) (g : Nat) : Two g h a w := ⟨x.os, x.tape, x.output, x.size, fun k hk h1 h2 => x.block k hk h2 h2⟩
theorem Two.below (x : Two g h a w) {B : Nat} (hB : B ≤ a.heap.size) (hg : B ≤ g) (hh : B ≤ h) : Below B a w :=
  ⟨x.os, x.tape, x.output, x.size, fun k hk => x.block k (by omega) (by omega) (by omega)⟩
theorem Two.draw (w : World) (g n : Nat) : Two g g w (w.drewN n) := (Two.refl g g w).drawn n
theorem below_drawn {B : Nat} {w w' : World} (h : Below B w w') (m : Nat) : Below B w (w'.drewN m) := ⟨h.os, h.tape, h.output, h.size, h.block⟩
end
/-- A block of cells. -/
def Bc (T : TypeId) (g : Nat) (cs : Array Value) (w : World) : Prop := w.heap[g]? = some (.cells cs T (0, 0))
section
variable {T : TypeId} {g : Nat} {cs : Array Value} {w : World}
theorem Bc.lt (h : Bc T g cs w) : g < w.heap.size := (Array.getElem?_eq_some_iff.1 h).1
theorem Bc.drawn (h : Bc T g cs w) (n : Nat) : Bc T g cs (w.drewN n) := h
theorem Bc.cell (h : Bc T g cs w) (k : Nat) : w.cell? ⟨g, k, none⟩ = cs[k]? := Lib.cell_of_heap h k
theorem Bc.frozen (h : Bc T g cs w) (k : Nat) : w.frozen? ⟨g, k, none⟩ = false := Lib.frozen_of_heap h k
theorem Bc.set (h : Bc T g cs w) (k : Nat) (v : Value) : Bc T g (cs.setIfInBounds k v) (w.setCell ⟨g, k, none⟩ v) := by
  unfold Bc at *
  simp [World.setCell, Array.getElem?_modify, h]
theorem Bc.two {p q : Nat} {w' : World} (h : Bc T g cs w) (t : Two p q w w') (h1 : g ≠ p) (h2 : g ≠ q) : Bc T g cs w' := (t.block g h.lt h1 h2).trans h
theorem Bc.below {w' : World} (h : Bc T g cs w) (t : Below w.heap.size w w') : Bc T g cs w' := (t.block g h.lt).trans h
theorem Bc.alloc (h : Bc T g cs w) (o : Obj) : Bc T g cs (w.alloc o) := (Below.heap_alloc w o g h.lt).trans h
end
/-- The program's sender in block g; the document's. -/
def Os.pc (s : Os) : Array Value := #[.int .i64 s.typ, .int .u64 s.inh, .int .u64 s.each, .bool s.on, .bool s.pw, .int .u64 s.pq, .int .u64 s.ps]
def Os.dc (s : Os) : Array Value := #[.int .i64 s.typ, .int .u64 s.inh, .int .u64 s.each, .bool s.on, .bool s.waits, .int .u64 s.since, .bool s.sent, .int .i64 s.syncs]
def Oa (g : Nat) (s : Os) (w : World) : Prop := Bc 61 g s.pc w
section
variable {g : Nat} {s : Os} {w : World}
theorem Oa.cells (h : Oa g s w) : w.cell? ⟨g, 0, none⟩ = some (.int .i64 s.typ) ∧ w.cell? ⟨g, 1, none⟩ = some (.int .u64 s.inh) ∧ w.cell? ⟨g, 2, none⟩ = some (.int .u64 s.each) ∧ w.cell? ⟨g, 3, none⟩ = some (.bool s.on) ∧ w.cell? ⟨g, 4, none⟩ = some (.bool s.pw) ∧ w.cell? ⟨g, 5, none⟩ = some (.int .u64 s.pq) ∧ w.cell? ⟨g, 6, none⟩ = some (.int .u64 s.ps) ∧ ∀ k, w.frozen? ⟨g, k, none⟩ = false :=
  ⟨Bc.cell h 0, Bc.cell h 1, Bc.cell h 2, Bc.cell h 3, Bc.cell h 4, Bc.cell h 5, Bc.cell h 6, fun k => Bc.frozen h k⟩
theorem Oa.mk {S : Os} {o b : Bool} {q n : Int} (h : Bc 61 g #[.int .i64 s.typ, .int .u64 s.inh, .int .u64 s.each, .bool o, .bool b, .int .u64 q, .int .u64 n] w) (e1 : S.typ = s.typ) (e2 : S.inh = s.inh) (e3 : S.each = s.each) (e4 : S.on = o) (e5 : S.pw = b) (e6 : (S.pq : Int) = q) (e7 : (S.ps : Int) = n) : Oa g S w := by
  unfold Oa Os.pc
  rw [e1, e2, e3, e4, e5, e6, e7]
  exact h
theorem Oa.same {S : Os} (h : Oa g s w) (e1 : S.typ = s.typ) (e2 : S.inh = s.inh) (e3 : S.each = s.each) (e4 : S.on = s.on) (e5 : S.pw = s.pw) (e6 : S.pq = s.pq) (e7 : S.ps = s.ps) : Oa g S w :=
  Oa.mk (s := s) h e1 e2 e3 e4 e5 (by rw [e6]) (by rw [e7])
theorem Oa.new (w : World) (t i e : Nat) : Oa w.heap.size ⟨t, i, e, false, false, 0, false, 0⟩ (w.alloc (.cells #[.int .i64 t, .int .u64 i, .int .u64 e, .bool false, .bool false, .int .u64 0, .int .u64 0] 61)) :=
  heap_alloc_new w (.cells #[.int .i64 t, .int .u64 i, .int .u64 e, .bool false, .bool false, .int .u64 0, .int .u64 0] 61)
end
def Od (g : Nat) (s : Os) (w : World) : Prop := Bc 34 g s.dc w
section
variable {g : Nat} {s : Os} {w : World}
theorem Od.cells (h : Od g s w) : w.cell? ⟨g, 0, none⟩ = some (.int .i64 s.typ) ∧ w.cell? ⟨g, 1, none⟩ = some (.int .u64 s.inh) ∧ w.cell? ⟨g, 2, none⟩ = some (.int .u64 s.each) ∧ w.cell? ⟨g, 3, none⟩ = some (.bool s.on) ∧ w.cell? ⟨g, 4, none⟩ = some (.bool s.waits) ∧ w.cell? ⟨g, 5, none⟩ = some (.int .u64 s.since) ∧ w.cell? ⟨g, 6, none⟩ = some (.bool s.sent) ∧ w.cell? ⟨g, 7, none⟩ = some (.int .i64 s.syncs) ∧ ∀ k, w.frozen? ⟨g, k, none⟩ = false :=
  ⟨Bc.cell h 0, Bc.cell h 1, Bc.cell h 2, Bc.cell h 3, Bc.cell h 4, Bc.cell h 5, Bc.cell h 6, Bc.cell h 7, fun k => Bc.frozen h k⟩
theorem Od.new (w : World) (t i e : Nat) : Od w.heap.size ⟨t, i, e, false, false, 0, false, 0⟩ (w.alloc (.cells #[.int .i64 t, .int .u64 i, .int .u64 e, .bool false, .bool false, .int .u64 0, .bool false, .int .i64 0] 34)) :=
  heap_alloc_new w (.cells #[.int .i64 t, .int .u64 i, .int .u64 e, .bool false, .bool false, .int .u64 0, .bool false, .int .i64 0] 34)
end
end Go.Proofs.Ytkflffdoipeocaa
