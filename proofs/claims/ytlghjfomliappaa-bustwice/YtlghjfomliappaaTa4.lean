/- Contracts of a reader's end, and of Decode. Contract of Decode. Contracts of Plain and Same. Frames held against each other by ==. The small living call of every statement of layer 2 answers true. Slices that came in, whatever their elements; append to rows of the call's own; runes as texts. Plain facts on texts in their order: the least one, texts that are there twice. Contracts of anyTwice, and of the library's Min and Index at texts. Slices that came in whose elements are structs. -/
import Derived.Test.YtlghjfomliappaaTa3
import Derived.Defers
import Derived.Recover
import Derived.Deep.RegionLaw
import Derived.Lib.SliceRun
import Derived.DeepKeys
import Derived.Laws.Cover4
import Derived.Maps.OwnSet
import Derived.Maps.Own
import Derived.Lib.MinMaxS
import Derived.Deep.MidRow
namespace Go.Proofs.Ytlghjfomliappaa
open Go.RowKit Go.Proofs.Bits
set_option linter.unusedVariables false
set_option maxRecDepth 1000000

section
variable {t : List UInt8} {s : RS} {g : Nat} {w w' : World}

/-- Decode's three results, in blocks q, q + 1, q + 2. -/
def Ns (q : Nat) (f : Fr) (n e : Int) (w : World) : Prop :=
  Fa q f w ∧ w.heap[q + 1]? = some (.cells #[.int .i64 n] 3 (0, 0)) ∧ w.heap[q + 2]? = some (.cells #[.int .i64 e] 28 (0, 0))
theorem Ns.new (w : World) : Ns w.heap.size Fr.nul 0 0 (((w.alloc (.cells Fr.nul.arr 38)).alloc (.cells #[.int .i64 0] 3)).alloc (.cells #[.int .i64 0] 28)) := by
  refine ⟨((Fa.new w Fr.nul).alloc _).alloc _, ?_, ?_⟩
  · have := heap_alloc_new (w.alloc (.cells Fr.nul.arr 38)) (.cells #[.int .i64 0] 3)
    rw [size_alloc] at this
    rw [Lib.alloc_old _ _ _ (by rw [size_alloc, size_alloc]; omega)]
    exact this
  · have := heap_alloc_new ((w.alloc (.cells Fr.nul.arr 38)).alloc (.cells #[.int .i64 0] 3)) (.cells #[.int .i64 0] 28)
    rw [size_alloc, size_alloc] at this
    exact this
section
variable {q : Nat} {f : Fr} {n e : Int}
theorem Ns.lt (h : Ns q f n e w) : q + 2 < w.heap.size := (Array.getElem?_eq_some_iff.1 h.2.2).1
theorem Ns.below {B : Nat} (h : Ns q f n e w) (hb : Below B w w') (hB : q + 2 < B) : Ns q f n e w' :=
  ⟨(hb.block q (by omega)).trans h.1, (hb.block _ (by omega)).trans h.2.1, (hb.block _ (by omega)).trans h.2.2⟩
theorem Ns.row (h : Ns q f n e w) (f' : Fr) : Ns q f' n e (w.setRow q f'.arr) :=
  ⟨h.1.row f', (setRow_other _ _ _ _ (by omega)).trans h.2.1, (setRow_other _ _ _ _ (by omega)).trans h.2.2⟩
theorem Ns.setN (h : Ns q f n e w) (n' : Int) : Ns q f n' e (w.setCell ⟨q + 1, 0, none⟩ (.int .i64 n')) := by
  refine ⟨h.1.other (p := ⟨q + 1, 0, none⟩) (by simp) _, ?_, ?_⟩
  · simp [World.setCell, Array.getElem?_modify, h.2.1]
  · rw [Below.heap_setCell _ _ _ _ (by simp)]; exact h.2.2
theorem Ns.setE (h : Ns q f n e w) (e' : Int) : Ns q f n e' (w.setCell ⟨q + 2, 0, none⟩ (.int .i64 e')) := by
  refine ⟨h.1.other (p := ⟨q + 2, 0, none⟩) (by simp) _, ?_, ?_⟩
  · rw [Below.heap_setCell _ _ _ _ (by simp)]; exact h.2.1
  · simp [World.setCell, Array.getElem?_modify, h.2.2]
theorem Ns.drew (h : Ns q f n e w) : Ns q f n e w.drew := h
theorem Ns.cn (h : Ns q f n e w) : w.cell? ⟨q + 1, 0, none⟩ = some (.int .i64 n) := Lib.cell_of_heap h.2.1 0
theorem Ns.ce (h : Ns q f n e w) : w.cell? ⟨q + 2, 0, none⟩ = some (.int .i64 e) := Lib.cell_of_heap h.2.2 0
theorem Ns.zn (h : Ns q f n e w) : w.frozen? ⟨q + 1, 0, none⟩ = false := Lib.frozen_of_heap h.2.1 0
theorem Ns.ze (h : Ns q f n e w) : w.frozen? ⟨q + 2, 0, none⟩ = false := Lib.frozen_of_heap h.2.2 0
theorem below_row {B : Nat} {a : World} (h : Below B a w) (hq : B ≤ q) (hl : B ≤ w.heap.size) (c : Array Value) : Below B a (w.setRow q c) := h.grown (setRow_kept w q c) hl (fun k hk => by cases hk; omega)
end

theorem arr_lit (f : Fr) : ∃ a0 a1 a2 a3 a4 a5 a6 a7 a8 a9 a10 a11 : Value, f.arr = #[a0, a1, a2, a3, a4, a5, a6, a7, a8, a9, a10, a11] := by
  obtain ⟨id, ext, rem, len, data, h1, h2, h3⟩ := f
  match data, h3 with
  | [d0, d1, d2, d3, d4, d5, d6, d7], _ => exact ⟨_, _, _, _, _, _, _, _, _, _, _, _, rfl⟩
theorem heap_set {q i : Nat} {A : Array Value} {T : TypeId} {z : Nat × Nat} (h : w.heap[q]? = some (.cells A T z)) (v : Value) : (w.setCell ⟨q, i, none⟩ v).heap[q]? = some (.cells (A.setIfInBounds i v) T z) := by
  simp [World.setCell, Array.getElem?_modify, h]
theorem heap_drew (q : Nat) : w.drew.heap[q]? = w.heap[q]? := rfl
def wipe (w : World) (q : Nat) : World := (((((((((((w.setCell ⟨q, 0, none⟩ (.int .u32 0)).setCell ⟨q, 1, none⟩ (.bool false)).setCell ⟨q, 2, none⟩ (.bool false)).setCell ⟨q, 3, none⟩ (.int .i64 0)).setCell ⟨q, 4, none⟩ (.int .u8 0)).setCell ⟨q, 5, none⟩ (.int .u8 0)).setCell ⟨q, 6, none⟩ (.int .u8 0)).setCell ⟨q, 7, none⟩ (.int .u8 0)).setCell ⟨q, 8, none⟩ (.int .u8 0)).setCell ⟨q, 9, none⟩ (.int .u8 0)).setCell ⟨q, 10, none⟩ (.int .u8 0)).setCell ⟨q, 11, none⟩ (.int .u8 0)
theorem Ns.wiped {q : Nat} {f : Fr} {n e : Int} (h : Ns q f n e w) : Ns q Fr.nul n e (wipe w q) := by
  obtain ⟨a0, a1, a2, a3, a4, a5, a6, a7, a8, a9, a10, a11, hA⟩ := arr_lit f
  obtain ⟨h0, h1, h2⟩ := h
  unfold Fa at h0
  rw [hA] at h0
  have o : ∀ (V : World) (p : Addr) (v : Value) (k : Nat), k ≠ p.block → (V.setCell p v).heap[k]? = V.heap[k]? := fun V p v k hk => Below.heap_setCell V p v k hk
  have e : ((((((((((((#[a0, a1, a2, a3, a4, a5, a6, a7, a8, a9, a10, a11] : Array Value).setIfInBounds 0 (.int .u32 0)).setIfInBounds 1 (.bool false)).setIfInBounds 2 (.bool false)).setIfInBounds 3 (.int .i64 0)).setIfInBounds 4 (.int .u8 0)).setIfInBounds 5 (.int .u8 0)).setIfInBounds 6 (.int .u8 0)).setIfInBounds 7 (.int .u8 0)).setIfInBounds 8 (.int .u8 0)).setIfInBounds 9 (.int .u8 0)).setIfInBounds 10 (.int .u8 0)).setIfInBounds 11 (.int .u8 0) = Fr.nul.arr := by
    simp [Fr.nul, Fr.arr, Fr.cells]
  have g := heap_set (i := 11) (heap_set (i := 10) (heap_set (i := 9) (heap_set (i := 8) (heap_set (i := 7) (heap_set (i := 6) (heap_set (i := 5) (heap_set (i := 4) (heap_set (i := 3) (heap_set (i := 2) (heap_set (i := 1) (heap_set (i := 0) h0 (.int .u32 0)) (.bool false)) (.bool false)) (.int .i64 0)) (.int .u8 0)) (.int .u8 0)) (.int .u8 0)) (.int .u8 0)) (.int .u8 0)) (.int .u8 0)) (.int .u8 0)) (.int .u8 0)
  rw [e] at g
  refine ⟨g, ?_, ?_⟩
  · unfold wipe
    rw [o _ _ _ _ (by simp), o _ _ _ _ (by simp), o _ _ _ _ (by simp), o _ _ _ _ (by simp), o _ _ _ _ (by simp), o _ _ _ _ (by simp), o _ _ _ _ (by simp), o _ _ _ _ (by simp), o _ _ _ _ (by simp), o _ _ _ _ (by simp), o _ _ _ _ (by simp), o _ _ _ _ (by simp)]
    exact h1
  · unfold wipe
    rw [o _ _ _ _ (by simp), o _ _ _ _ (by simp), o _ _ _ _ (by simp), o _ _ _ _ (by simp), o _ _ _ _ (by simp), o _ _ _ _ (by simp), o _ _ _ _ (by simp), o _ _ _ _ (by simp), o _ _ _ _ (by simp), o _ _ _ _ (by simp), o _ _ _ _ (by simp), o _ _ _ _ (by simp)]
    exact h2
theorem below_wipe {B q : Nat} {a : World} (h : Below B a w) (hq : B ≤ q) : Below B a (wipe w q) :=
  (((((((((((h.setCell (p := ⟨q, 0, none⟩) hq _).setCell (p := ⟨q, 1, none⟩) hq _).setCell (p := ⟨q, 2, none⟩) hq _).setCell (p := ⟨q, 3, none⟩) hq _).setCell (p := ⟨q, 4, none⟩) hq _).setCell (p := ⟨q, 5, none⟩) hq _).setCell (p := ⟨q, 6, none⟩) hq _).setCell (p := ⟨q, 7, none⟩) hq _).setCell (p := ⟨q, 8, none⟩) hq _).setCell (p := ⟨q, 9, none⟩) hq _).setCell (p := ⟨q, 10, none⟩) hq _).setCell (p := ⟨q, 11, none⟩) hq _

end
end Go.Proofs.Ytlghjfomliappaa
namespace Go.Proofs.Ytlghjfomliappaa
open Go.RowKit Go.Proofs.Bits
set_option linter.unusedVariables false
set_option maxRecDepth 1000000

/-- What Decode answers: the frame, a place, an error. -/
def decF (t : List UInt8) : Fr := if err t = 0 then (match decS t with | .error _ => Fr.nul | .ok (f, _) => toldF f) else Fr.nul
def decN (t : List UInt8) : Int := if err t = 0 then (match decS t with | .error f => f.1 | .ok (_, s) => s.pos) else 0
def decE (t : List UInt8) : Int := if err t = 0 then (match decS t with | .error f => f.2 | .ok _ => 0) else err t
def decV (t : List UInt8) : Value := .tuple #[(decF t).val, .int .i64 (decN t), .int .i64 (decE t)]

theorem arr_full (f : Fr) : ∃ (i : Int) (x r : Bool) (n d0 d1 d2 d3 d4 d5 d6 d7 : Int), f.arr = #[.int .u32 i, .bool x, .bool r, .int .i64 n, .int .u8 d0, .int .u8 d1, .int .u8 d2, .int .u8 d3, .int .u8 d4, .int .u8 d5, .int .u8 d6, .int .u8 d7] := by
  obtain ⟨id, ext, rem, len, data, h1, h2, h3⟩ := f
  match data, h3 with
  | [d0, d1, d2, d3, d4, d5, d6, d7], _ => exact ⟨_, _, _, _, _, _, _, _, _, _, _, _, rfl⟩
def fill (w : World) (q : Nat) (i : Int) (x r : Bool) (n d0 d1 d2 d3 d4 d5 d6 d7 : Int) : World := ((((((((((((((((((((((((w).setCell ⟨q, 0, none⟩ (.int .u32 i))).setCell ⟨q, 1, none⟩ (.bool x))).setCell ⟨q, 2, none⟩ (.bool r))).setCell ⟨q, 3, none⟩ (.int .i64 n))).setCell ⟨q, 4, none⟩ (.int .u8 d0))).setCell ⟨q, 5, none⟩ (.int .u8 d1))).setCell ⟨q, 6, none⟩ (.int .u8 d2))).setCell ⟨q, 7, none⟩ (.int .u8 d3))).setCell ⟨q, 8, none⟩ (.int .u8 d4))).setCell ⟨q, 9, none⟩ (.int .u8 d5))).setCell ⟨q, 10, none⟩ (.int .u8 d6))).setCell ⟨q, 11, none⟩ (.int .u8 d7))
theorem Ns.filled {q : Nat} {f : Fr} {m e : Int} {w : World} (i : Int) (x r : Bool) (n d0 d1 d2 d3 d4 d5 d6 d7 : Int) (hA : f.arr = #[.int .u32 i, .bool x, .bool r, .int .i64 n, .int .u8 d0, .int .u8 d1, .int .u8 d2, .int .u8 d3, .int .u8 d4, .int .u8 d5, .int .u8 d6, .int .u8 d7]) (h : Ns q f m e w) : Ns q f m e (fill w q i x r n d0 d1 d2 d3 d4 d5 d6 d7) := by
  obtain ⟨h0, h1, h2⟩ := h
  unfold Fa at h0
  rw [hA] at h0
  have o : ∀ (V : World) (p : Addr) (v : Value) (k : Nat), k ≠ p.block → (V.setCell p v).heap[k]? = V.heap[k]? := fun V p v k hk => Below.heap_setCell V p v k hk
  have ee : (((((((((((((((((((((((((#[.int .u32 i, .bool x, .bool r, .int .i64 n, .int .u8 d0, .int .u8 d1, .int .u8 d2, .int .u8 d3, .int .u8 d4, .int .u8 d5, .int .u8 d6, .int .u8 d7] : Array Value)).setIfInBounds 0 (.int .u32 i))).setIfInBounds 1 (.bool x))).setIfInBounds 2 (.bool r))).setIfInBounds 3 (.int .i64 n))).setIfInBounds 4 (.int .u8 d0))).setIfInBounds 5 (.int .u8 d1))).setIfInBounds 6 (.int .u8 d2))).setIfInBounds 7 (.int .u8 d3))).setIfInBounds 8 (.int .u8 d4))).setIfInBounds 9 (.int .u8 d5))).setIfInBounds 10 (.int .u8 d6))).setIfInBounds 11 (.int .u8 d7)) = #[.int .u32 i, .bool x, .bool r, .int .i64 n, .int .u8 d0, .int .u8 d1, .int .u8 d2, .int .u8 d3, .int .u8 d4, .int .u8 d5, .int .u8 d6, .int .u8 d7] := by simp
  have g := (heap_set (i := 11) (heap_set (i := 10) (heap_set (i := 9) (heap_set (i := 8) (heap_set (i := 7) (heap_set (i := 6) (heap_set (i := 5) (heap_set (i := 4) (heap_set (i := 3) (heap_set (i := 2) (heap_set (i := 1) (heap_set (i := 0) h0 (.int .u32 i)) (.bool x)) (.bool r)) (.int .i64 n)) (.int .u8 d0)) (.int .u8 d1)) (.int .u8 d2)) (.int .u8 d3)) (.int .u8 d4)) (.int .u8 d5)) (.int .u8 d6)) (.int .u8 d7))
  rw [ee, ← hA] at g
  refine ⟨g, ?_, ?_⟩
  · unfold fill
    rw [o _ _ _ _ (by simp), o _ _ _ _ (by simp), o _ _ _ _ (by simp), o _ _ _ _ (by simp), o _ _ _ _ (by simp), o _ _ _ _ (by simp), o _ _ _ _ (by simp), o _ _ _ _ (by simp), o _ _ _ _ (by simp), o _ _ _ _ (by simp), o _ _ _ _ (by simp), o _ _ _ _ (by simp)]
    exact h1
  · unfold fill
    rw [o _ _ _ _ (by simp), o _ _ _ _ (by simp), o _ _ _ _ (by simp), o _ _ _ _ (by simp), o _ _ _ _ (by simp), o _ _ _ _ (by simp), o _ _ _ _ (by simp), o _ _ _ _ (by simp), o _ _ _ _ (by simp), o _ _ _ _ (by simp), o _ _ _ _ (by simp), o _ _ _ _ (by simp)]
    exact h2
theorem below_fill {B q : Nat} {a w : World} (i : Int) (x r : Bool) (n d0 d1 d2 d3 d4 d5 d6 d7 : Int) (h : Below B a w) (hq : B ≤ q) : Below B a (fill w q i x r n d0 d1 d2 d3 d4 d5 d6 d7) :=
  ((((((((((((h.setCell (p := ⟨q, 0, none⟩) hq _).setCell (p := ⟨q, 1, none⟩) hq _).setCell (p := ⟨q, 2, none⟩) hq _).setCell (p := ⟨q, 3, none⟩) hq _).setCell (p := ⟨q, 4, none⟩) hq _).setCell (p := ⟨q, 5, none⟩) hq _).setCell (p := ⟨q, 6, none⟩) hq _).setCell (p := ⟨q, 7, none⟩) hq _).setCell (p := ⟨q, 8, none⟩) hq _).setCell (p := ⟨q, 9, none⟩) hq _).setCell (p := ⟨q, 10, none⟩) hq _).setCell (p := ⟨q, 11, none⟩) hq _)

end Go.Proofs.Ytlghjfomliappaa
namespace Go.Proofs.Ytlghjfomliappaa
open Go.RowKit Go.Proofs.Bits
set_option linter.unusedVariables false
set_option maxRecDepth 1000000

/-- A frame with its first n bytes alone. -/
def Fr.cut (f : Fr) (n : Nat) (hn : n ≤ 8) : Fr := { f with data := f.data.take n ++ List.replicate (8 - n) 0, hdata := by simp [f.hdata]; omega }
/-- A frame without the bytes that it has not. -/
def Fr.plain (f : Fr) : Fr := f.cut f.bytes f.bytes_le
theorem slice_tail (q n : Nat) (hn : n ≤ 8) (W : World) : (Instr.sliceAt 36 (.pointer (some ⟨q, 4, none⟩)) (some (.int .i64 n)) none none).run Try.prog W = .ok (.slice (some ⟨q, if n = 8 then 4 else 4 + n, none⟩) (8 - n) (8 - n)) W := by
  obtain ⟨i0, hi, hz0, hz1, hz2⟩ := info_parts binfo5
  have h0 : (0 : Int) ≤ (n : Int) := by omega
  simp [Instr.sliceAt, run_underlying Try.underlying36, go_sem, h0, sizeOf, typeInfo, hi, hz1, Addr.add]
  rw [if_pos (by omega)]
  by_cases h8 : n = 8
  · subst h8; rfl
  · by_cases h1 : n = 0
    · subst h1; rfl
    · rw [if_neg (fun e => h8 e.symm), if_neg h1, if_neg h8]
def setMany (A : Array Value) : Nat → List Value → Array Value
  | _, [] => A
  | o, v :: r => setMany (A.setIfInBounds o v) (o + 1) r
theorem heap_setCells (q : Nat) (T : TypeId) (z : Nat × Nat) : ∀ (vs : List Value) (o : Nat) (A : Array Value) (w : World), w.heap[q]? = some (.cells A T z) → (w.setCells q o vs).heap[q]? = some (.cells (setMany A o vs) T z)
  | [], _, _, _, h => h
  | v :: r, o, A, w, h => heap_setCells q T z r (o + 1) _ _ (by simp [World.setCell, Array.getElem?_modify, h])
theorem clear_arr (f : Fr) (n : Nat) (hn : n ≤ 8) : setMany f.arr (4 + n) (List.replicate (8 - n) (.int .u8 0)) = (f.cut n hn).arr := by
  obtain ⟨id, ext, rem, len, data, h1, h2, h3⟩ := f
  match data, h3 with
  | [d0, d1, d2, d3, d4, d5, d6, d7], _ =>
    match n, hn with
    | 0, _ => simp [setMany, Fr.arr, Fr.cells, Fr.cut, List.replicate]
    | 1, _ => simp [setMany, Fr.arr, Fr.cells, Fr.cut, List.replicate]
    | 2, _ => simp [setMany, Fr.arr, Fr.cells, Fr.cut, List.replicate]
    | 3, _ => simp [setMany, Fr.arr, Fr.cells, Fr.cut, List.replicate]
    | 4, _ => simp [setMany, Fr.arr, Fr.cells, Fr.cut, List.replicate]
    | 5, _ => simp [setMany, Fr.arr, Fr.cells, Fr.cut, List.replicate]
    | 6, _ => simp [setMany, Fr.arr, Fr.cells, Fr.cut, List.replicate]
    | 7, _ => simp [setMany, Fr.arr, Fr.cells, Fr.cut]
    | 8, _ => simp [setMany, Fr.arr, Fr.cells, Fr.cut]
theorem Fa.cleared {q : Nat} {f : Fr} {w : World} (h : Fa q f w) (n : Nat) (hn : n ≤ 8) : Fa q (f.cut n hn) (w.setCells q (4 + n) (List.replicate (8 - n) (.int .u8 0))) := by
  unfold Fa
  rw [← clear_arr f n hn]
  exact heap_setCells q _ _ _ _ _ _ h
theorem below_cells {B q : Nat} {a : World} (hq : B ≤ q) : ∀ (vs : List Value) (o : Nat) (w : World), Below B a w → Below B a (w.setCells q o vs)
  | [], _, _, h => h
  | v :: r, o, w, h => below_cells hq r (o + 1) _ (h.setCell (p := ⟨q, o, none⟩) hq v)
theorem heap_cells_other {q k : Nat} (hk : k ≠ q) : ∀ (vs : List Value) (o : Nat) (w : World), (w.setCells q o vs).heap[k]? = w.heap[k]?
  | [], _, _ => rfl
  | v :: r, o, w => (heap_cells_other hk r (o + 1) _).trans (Below.heap_setCell w ⟨q, o, none⟩ v k hk)
theorem Fr.arr_some (f : Fr) (k : Nat) (hk : k < 12) : (f.arr[k]?).isSome = true := by
  have := f.arr_size
  simp [this, hk]
theorem zero5 (w : World) : (zeroValue 5).run Try.prog w = .ok (.int .u8 0) w := by
  obtain ⟨i0, hi, hz0, hz1, hz2⟩ := info_parts binfo5
  simp [zeroValue, typeInfo, hi, hz0]

set_option maxHeartbeats 4000000 in
theorem fPlain_any (f : Fr) (w : World) :
    Calls Try.prog 33 #[f.val] w fun e w' => e = .returned f.plain.val ∧ Below w.heap.size w w' := by
  have fA : Fa w.heap.size f ((w.alloc (.cells f.arr 38)).alloc (.cells Fr.nul.arr 38)) := (Fa.new w f).alloc _
  have fB : Fa (w.heap.size + 1) Fr.nul ((w.alloc (.cells f.arr 38)).alloc (.cells Fr.nul.arr 38)) := by
    have := Fa.new (w.alloc (.cells f.arr 38)) Fr.nul
    rw [size_alloc] at this
    exact this
  have bA : Below w.heap.size w ((w.alloc (.cells f.arr 38)).alloc (.cells Fr.nul.arr 38)) := ((Below.refl _ _).alloc (Nat.le_refl _) _).alloc (by rw [size_alloc]; omega) _
  have sA : ((w.alloc (.cells f.arr 38)).alloc (.cells Fr.nul.arr 38)).heap.size = w.heap.size + 2 := by rw [size_alloc, size_alloc]
  have hbl := f.bytes_le
  unfold Fr.val
  go_enter Try.func33, Try.ntmps33
  go_wp2_with (refine fA.ld rfl _ rfl rfl ?_)
  change Calls Try.prog 54 _ ((w.alloc (.cells f.arr 38)).alloc (.cells Fr.nul.arr 38)) _
  generalize ((w.alloc (.cells f.arr 38)).alloc (.cells Fr.nul.arr 38)) = A at *
  refine (fbytesOf_any f _).mono ?_
  rintro e w1 ⟨rfl, b1⟩
  have f1 : Fa w.heap.size f w1 := (b1.block _ (by omega)).trans fA
  have g1 : Fa (w.heap.size + 1) Fr.nul w1 := (b1.block _ (by omega)).trans fB
  have B1 := bA.trans (b1.mono (by omega))
  have s1 := b1.size
  have HP : Hid (∀ h, f.plain = f.cut f.bytes h) := fun _ => rfl
  generalize hn : f.bytes = n at *
  have f2 := f1.cleared n hbl
  have g2 : Fa (w.heap.size + 1) Fr.nul (w1.setCells w.heap.size (4 + n) (List.replicate (8 - n) (.int .u8 0))) := (heap_cells_other (by omega) _ _ _).trans g1
  have B2 := below_cells (q := w.heap.size) (Nat.le_refl _) (List.replicate (8 - n) (.int .u8 0)) (4 + n) w1 B1
  have hst := slice_tail w.heap.size n hbl
  generalize hq : w.heap.size = q at *
  have hcl : ∀ ty, (Builtin.clear_ #[88] ty #[.slice (some ⟨q, if n = 8 then 4 else 4 + n, none⟩) (8 - n) (8 - n)]).run Try.prog w1 = .ok (.tuple #[]) (w1.setCells q (4 + n) (List.replicate (8 - n) (.int .u8 0))) := by
    intro ty
    by_cases h8 : n = 8
    · subst h8
      simp [Builtin.clear_, run_underlying Try.underlying88]
      rfl
    · rw [if_neg h8]
      exact Lib.run_clear_slice w1 88 5 ty (.int .u8 0) Try.underlying88 zero5 rfl rfl q (4 + n) (8 - n) _ (by omega) (fun j hj => by rw [show 4 + n + j = 4 + (n + j) by omega, Lib.cell_of_heap f1]; exact f.arr_some _ (by omega)) (fun j hj => Lib.frozen_of_heap f1 _)
  clear fA fB bA b1
  generalize (if n = 8 then 4 else 4 + n) = off at *
  go_wp2_with (first | refine f2.ld rfl _ rfl rfl ?_ | refine g2.sd (f.cut n hbl) rfl _ _ rfl rfl rfl ?_)
  have D3 := g2.row (f.cut n hbl)
  have B3 := below_row (q := q + 1) B2 (by omega) (by have := f2.lt; omega) (f.cut n hbl).arr
  refine bodyPost_ret (v := .agg (f.cut n hbl).arr) (results_cell_row rfl _ _ (q + 1) 38 (f.cut n hbl).arr (0, 0) _ rfl D3 Try.underlying38 rfl (by rw [(f.cut n hbl).arr_size]; exact infoF)) rfl ⟨by rw [HP.out hbl], by rw [hq]; exact B3⟩
end Go.Proofs.Ytlghjfomliappaa
namespace Go.Proofs.Ytlghjfomliappaa
open Go.RowKit Go.Proofs.Bits
set_option linter.unusedVariables false
set_option maxRecDepth 1000000

theorem keyF : Try.prog.keyTypeAt 3 38 = true := by kernel_rfl
theorem keyF2 : Try.prog.keyType 38 = true := by kernel_rfl
theorem wf_u32 (n : Nat) (h : n < 4294967296) : (Lit.int .u32 n).wf = true := by
  simp [Lit.wf, IntKind.min, IntKind.max, IntKind.signed, IntKind.bits]; omega
theorem wf_i64 (n : Int) (h : -9223372036854775808 ≤ n ∧ n < 9223372036854775808) : (Lit.int .i64 n).wf = true := by
  simp [Lit.wf, IntKind.min, IntKind.max, IntKind.signed, IntKind.bits]; omega
theorem wf_u8 (c : UInt8) : (Lit.int .u8 c.toNat).wf = true := by
  have := c.toNat_lt
  simp [Lit.wf, IntKind.min, IntKind.max, IntKind.signed, IntKind.bits]; omega
def Fr.lits (f : Fr) : List Lit := [.int .u32 f.id, .bool f.ext, .bool f.rem, .int .i64 f.len] ++ f.data.map fun c => .int .u8 c.toNat
theorem fr_keyLits (f : Fr) (d : Nat) : Try.prog.keyLits (d + 3) 38 f.cells = some f.lits := by
  obtain ⟨id, ext, rem, len, data, h1, h2, h3⟩ := f
  match data, h3 with
  | [d0, d1, d2, d3, d4, d5, d6, d7], _ =>
    have c1 : Try.prog.cellsOf 38 = 12 := by kernel_rfl
    have c2 : Try.prog.cellsOf 36 = 8 := by kernel_rfl
    have c3 : Try.prog.cellsOf 35 = 1 := by kernel_rfl
    have c4 : Try.prog.cellsOf 4 = 1 := by kernel_rfl
    have c5 : Try.prog.cellsOf 3 = 1 := by kernel_rfl
    have w1 := wf_u32 id h1
    have w2 := wf_i64 len h2
    have w3 := wf_u8
    simp [Fr.cells, Fr.lits, Program.keyLits, Try.underlying38, Try.underlying36, Try.underlying5, Try.underlying35, Try.underlying4, Try.underlying3, c1, c2, c3, c4, c5, bcells5, w1, w2, w3, List.range, List.range.loop]
theorem fr_formed (f : Fr) : f.val.formed Try.prog 38 = true := by
  have c1 : Try.prog.cellsOf 38 = 12 := by kernel_rfl
  simp [Fr.val, Value.formed, Try.underlying38, c1, f.arr_size]
/-- Whether two frames are one. -/
def frB (f g : Fr) : Bool := f.id == g.id && f.ext == g.ext && f.rem == g.rem && f.len == g.len && f.data == g.data
theorem frB_iff (f g : Fr) : frB f g = true ↔ f = g := by
  obtain ⟨id, ext, rem, len, data, h1, h2, h3⟩ := f
  obtain ⟨id', ext', rem', len', data', h1', h2', h3'⟩ := g
  simp [frB]
  constructor
  · rintro ⟨⟨⟨⟨a, b⟩, c⟩, d⟩, e⟩; exact ⟨a, b, c, d, e⟩
  · rintro ⟨a, b, c, d, e⟩; exact ⟨⟨⟨⟨a, b⟩, c⟩, d⟩, e⟩
theorem frB_same (f : Fr) : frB f f = true := (frB_iff f f).2 rfl
theorem lits_iff (f g : Fr) : f.lits = g.lits ↔ f = g := by
  constructor
  · intro h
    simp only [Fr.lits, List.cons_append, List.nil_append, List.cons.injEq, Lit.int.injEq, Lit.bool.injEq, true_and] at h
    obtain ⟨a, b, c, d, e⟩ := h
    have e' : f.data = g.data := by
      refine (List.map_inj_right ?_).1 e
      intro x y hxy
      simp only [Lit.int.injEq, true_and] at hxy
      exact UInt8.toNat_inj.1 (by omega)
    obtain ⟨id, ext, rem, len, data, h1, h2, h3⟩ := f
    obtain ⟨id', ext', rem', len', data', h1', h2', h3'⟩ := g
    simp only [Fr.mk.injEq] at *
    exact ⟨by omega, b, c, d, e'⟩
  · rintro rfl; rfl
theorem frEqual (f g : Fr) (w : World) : (Op.equal 38 f.val g.val).run Try.prog w = .ok (frB f g) w := by
  obtain ⟨r, hr, hiff⟩ := run_equalIn_deep (10000 - 3) 3 38 keyF w 3 3 f.val g.val f.lits g.lits (fr_formed f) (fr_formed g) (fr_keyLits f 0) (fr_keyLits g 0)
  have e : r = frB f g := by
    rw [Bool.eq_iff_iff, hiff, lits_iff, frB_iff]
  rw [← e]
  exact hr
theorem frEq (f g : Fr) (w : World) : (binOp .eql 38 (.agg f.arr) (.agg g.arr)).run Try.prog w = .ok (.bool (frB f g)) w := by
  have := frEqual f g w
  unfold Fr.val at this
  simp [binOp, this]
theorem frNeq (f g : Fr) (w : World) : (binOp .neq 38 (.agg f.arr) (.agg g.arr)).run Try.prog w = .ok (.bool (!frB f g)) w := by
  have := frEqual f g w
  unfold Fr.val at this
  simp [binOp, this]

theorem Fa.ldw {ops : Array Oper} {rest : List Oper} {o : Oper} {a : Act} {w : World} {Q : Exit → Act → World → Prop} {q : Nat} {f : Fr} (h : Fa q f w) (hgd : Region.wanted o (yielded ops a.tmps) = true) (x : Operand) (ho : o.op = .load 38 x) (hx : a.eval x = .pointer (some ⟨q, 0, none⟩))
    (hh : wpList Try.prog ops Q rest (a.put o.dst (.agg f.arr)) w) : wpList Try.prog ops Q (o :: rest) a w :=
  BigFrame.wpList_want hgd fun _ hK => wp_load_row 38 x ho q hx 38 f.arr (0, 0) _ h Try.underlying38 rfl (by rw [f.arr_size]; exact infoF) (hK _ _ hh)
theorem guardF : Try.prog.eqGuardType Try.prog.depth 38 = false := by kernel_rfl
/-- Two frames held against each other, in a walk. -/
theorem eqw {ops : Array Oper} {rest : List Oper} {o : Oper} {a : Act} {w : World} {Q : Exit → Act → World → Prop} (f g : Fr) (hgd : Region.wanted o (yielded ops a.tmps) = true) (x y : Operand) (ho : o.op = .binOp .eql 38 x y 38) (hx : a.eval x = .agg f.arr) (hy : a.eval y = .agg g.arr)
    (hh : wpList Try.prog ops Q rest (a.put o.dst (.bool (frB f g))) w) : wpList Try.prog ops Q (o :: rest) a w := by
  refine BigFrame.wpList_want hgd fun K hK => ?_
  have hl := frEq f g w
  have hg : (eqGuard .eql 38 x y (.agg f.arr) (.agg g.arr)).run Try.prog w = .ok () w := run_eqGuard_agg w .eql 38 x y f.arr g.arr guardF
  unfold Oper.wp execOp
  simp only [ho, hx, hy, Sem.run_bind, Sem.run_pure, hg, Result.andThen_ok, hl]
  exact hK _ _ hh
theorem neqw {ops : Array Oper} {rest : List Oper} {o : Oper} {a : Act} {w : World} {Q : Exit → Act → World → Prop} (f g : Fr) (hgd : Region.wanted o (yielded ops a.tmps) = true) (x y : Operand) (ho : o.op = .binOp .neq 38 x y 38) (hx : a.eval x = .agg f.arr) (hy : a.eval y = .agg g.arr)
    (hh : wpList Try.prog ops Q rest (a.put o.dst (.bool (!frB f g))) w) : wpList Try.prog ops Q (o :: rest) a w := by
  refine BigFrame.wpList_want hgd fun K hK => ?_
  have hl := frNeq f g w
  have hg : (eqGuard .neq 38 x y (.agg f.arr) (.agg g.arr)).run Try.prog w = .ok () w := run_eqGuard_agg w .neq 38 x y f.arr g.arr guardF
  unfold Oper.wp execOp
  simp only [ho, hx, hy, Sem.run_bind, Sem.run_pure, hg, Result.andThen_ok, hl]
  exact hK _ _ hh
theorem Later.fa {W : World} {q : Nat} {f : Fr} (h : Fa q f W) (x : Later W) : Fa q f x.now := (x.below.block q h.lt).trans h
theorem quiet_ld {W : World} {ops : Array Oper} {rest : List Oper} {o : Oper} {a : Act} {Q : Act → Prop} {q : Nat} {f : Fr} (h : Fa q f W) (hgd : o.guard = none) (x : Operand) (ho : o.op = .load 38 x) (hx : a.eval x = .pointer (some ⟨q, 0, none⟩))
    (hh : wpQuiet Try.prog ops (fun w' => ∃ x : Later W, w' = x.now) Q rest (a.put o.dst (.agg f.arr))) : wpQuiet Try.prog ops (fun w' => ∃ x : Later W, w' = x.now) Q (o :: rest) a := by
  unfold wpQuiet
  rw [if_pos (by simp [Region.wanted, hgd])]
  refine ⟨.agg f.arr, ?_, hh⟩
  rintro w' ⟨y, rfl⟩
  have hl := (Later.fa h y).load
  unfold Oper.quietAt execOp
  simp only [ho, hx, Instr.loadAt, Instr.sureAddr, Sem.run_bind, Sem.run_pure, Result.andThen_ok, hl]
  exact ⟨rfl, rfl⟩

theorem quiet_eq {W : World} {ops : Array Oper} {rest : List Oper} {o : Oper} {a : Act} {Q : Act → Prop} {A1 A2 : Array Value} (b : Bool) (hgd : o.guard = none) (x y : Operand) (ho : o.op = .binOp .eql 38 x y 38) (hx : a.eval x = .agg A1) (hy : a.eval y = .agg A2)
    (he : ∀ w, (binOp .eql 38 (.agg A1) (.agg A2)).run Try.prog w = .ok (.bool b) w)
    (hh : wpQuiet Try.prog ops (fun w' => ∃ x : Later W, w' = x.now) Q rest (a.put o.dst (.bool b))) : wpQuiet Try.prog ops (fun w' => ∃ x : Later W, w' = x.now) Q (o :: rest) a := by
  unfold wpQuiet
  rw [if_pos (by simp [Region.wanted, hgd])]
  refine ⟨.bool b, ?_, hh⟩
  rintro w' ⟨z, rfl⟩
  have hl := he z.now
  have hg : (eqGuard .eql 38 x y (.agg A1) (.agg A2)).run Try.prog z.now = .ok () z.now := run_eqGuard_agg z.now .eql 38 x y A1 A2 guardF
  unfold Oper.quietAt execOp
  simp only [ho, hx, hy, Sem.run_bind, Sem.run_pure, hg, Result.andThen_ok, hl]
  exact ⟨rfl, rfl⟩

end Go.Proofs.Ytlghjfomliappaa
namespace Go.Proofs.Ytlghjfomliappaa
open Go.RowKit Go.Proofs.Bits
set_option linter.unusedVariables false
set_option maxRecDepth 1000000

def f0 : Fr := ⟨291, false, false, 2, [1, 2, 0, 0, 0, 0, 0, 0], by decide, by decide, rfl⟩
theorem live_chk : f0.chk = 0 := by decide +kernel
theorem live_long : (encV f0 true).length = 64 := by decide +kernel
theorem live_dec : frB (decF (encV f0 true)) f0 = true := by decide +kernel
theorem live_n : decN (encV f0 true) = 64 := by decide +kernel
theorem live_e : decE (encV f0 true) = 0 := by decide +kernel
theorem live_decV : decV (encV f0 true) = .tuple #[.agg f0.arr, .int .i64 64, .int .i64 0] := by
  rw [decV, live_n, live_e, (frB_iff _ _).1 live_dec]; rfl
theorem live_enc (w : World) : Calls Try.prog 22 #[.agg f0.arr, .bool true] w fun e w' => e = .returned (.tuple #[.string ⟨(encV f0 true).toArray⟩, .int .i64 0]) ∧ Below w.heap.size w w' := by
  have h := fEncode_any f0 true w
  rw [live_chk] at h
  exact h
theorem live_check (w : World) : Calls Try.prog 31 #[.agg f0.arr] w fun e w' => e = .returned (.int .i64 0) ∧ Below w.heap.size w w' := by
  have h := fCheck_any f0 w
  rw [live_chk] at h
  exact h
end Go.Proofs.Ytlghjfomliappaa
namespace Go.Proofs.Ytlghjfomliappaa
open Go.RowKit Go.Proofs.Bits
set_option linter.unusedVariables false
set_option maxRecDepth 1000000

/-- A slice that came in: nil, or cells in an old block (where there is none, whatever address). -/
def Slots (w : World) (v : Value) (cs : List Value) : Prop :=
  ∃ ao cap, v = .slice ao cs.length cap ∧ (ao = none → cs = [] ∧ cap = 0) ∧ ∀ k (h : k < cs.length), ∃ b off, ao = some ⟨b, off, none⟩ ∧ b < w.heap.size ∧ w.cell? ⟨b, off + k, none⟩ = some cs[k]
theorem Slots.below {w w' : World} {v : Value} {cs : List Value} (h : Slots w v cs) (hb : Below w.heap.size w w') : Slots w' v cs := by
  obtain ⟨ao, cap, hv, h0, hc⟩ := h
  refine ⟨ao, cap, hv, h0, fun k hk => ?_⟩
  obtain ⟨b, off, ha, hlt, hcell⟩ := hc k hk
  exact ⟨b, off, ha, Nat.lt_of_lt_of_le hlt hb.size, (hb.cell (p := ⟨b, off + k, none⟩) hlt).trans hcell⟩
/-- The same, element by element, in whatever later world. -/
theorem Slots.map {α : Type} {f : α → Value} {w : World} {v : Value} {xs : List α} (h : Slots w v (xs.map f)) :
    ∃ ao cap, v = .slice ao xs.length cap ∧ ∀ (wr : World), Below w.heap.size w wr → ∀ k (h : k < xs.length), ∃ b off, ao = some ⟨b, off, none⟩ ∧ wr.cell? ⟨b, off + k, none⟩ = some (f xs[k]) := by
  obtain ⟨ao, cap, hv, _, hat⟩ := h
  refine ⟨ao, cap, by rw [hv, List.length_map], fun wr hbw k hk => ?_⟩
  obtain ⟨b, off, ha, hlt, hcell⟩ := hat k (by rw [List.length_map]; exact hk)
  refine ⟨b, off, ha, ?_⟩
  rw [hbw.cell (p := ⟨b, off + k, none⟩) hlt, hcell]
  simp
theorem slots_of_own {w : World} {B : Nat} {e : TypeId} {v : Value} {cs : List Value} (h : w.ownsRow B e 1 v cs.length cs) : Slots w v cs := by
  rcases h.2 with ⟨rfl, h0⟩ | ⟨g, cap, cur, rfl, hg, hcur, h1, h2, h3, h4⟩
  · obtain rfl := List.length_eq_zero_iff.1 h0
    exact ⟨none, 0, rfl, fun _ => ⟨rfl, rfl⟩, fun k hk => by simp at hk⟩
  · refine ⟨some ⟨g, 0, none⟩, cap, rfl, (fun h => by cases h), fun k hk => ⟨g, 0, rfl, (Array.getElem?_eq_some_iff.1 hcur).1, ?_⟩⟩
    rw [Lib.cell_of_heap hcur, Nat.zero_add]
    have e : cs[k]? = cur.toList[k]? := by
      rw [← h4, List.getElem?_take, if_pos (by omega)]
    rw [List.getElem?_eq_getElem hk] at e
    rw [e]; simp
theorem own_empty_at (w : World) (e : TypeId) : (w.alloc (.cells #[] e)).ownsRow w.heap.size e 1 (.slice (some ⟨w.heap.size, 0, none⟩) 0 0) 0 [] := by
  refine ⟨rfl, .inr ⟨w.heap.size, 0, #[], rfl, Nat.le_refl _, ?_, Nat.le_refl _, by decide, rfl, rfl⟩⟩
  show (w.heap.push _)[w.heap.size]? = _
  simp
/-- append of a slice that came in to a row of the call's own, guarded or not. -/
theorem append_slots {w : World} {ops : Array Oper} {rest : List Oper} {o : Oper} {a : Act} {Q : Exit → Act → World → Prop} (hgd : Region.wanted o (yielded ops a.tmps) = true) (s x : Operand) (t e : TypeId) (z : Value) (bytes : Nat)
    (ht : Try.prog.underlying t = some (.slice e)) (hinfo : (Try.prog.info? e).map (fun i => (i.zero, i.size, i.bytes)) = some (some z, 1, bytes)) (hzs : z.cells.size = 1)
    (ho : o.op = .call { callee := .builtin .append, args := #[s, x], argTypes := #[t, t] })
    (base : Nat) (v : Value) (xs : List Value) (hs : a.eval s = v) (hown : w.ownsRow base e 1 v xs.length xs)
    (vx : Value) (l : List Value) (hx : a.eval x = vx) (hB : Slots w vx l) (hone : ∀ u ∈ l, u.oneCell' = true) (h63 : xs.length + l.length ≤ maxLen) (hbytes : (xs.length + l.length) * bytes ≤ 140737488355328) (hbase : base ≤ w.heap.size)
    (h : ∀ v' w', w'.ownsRow base e 1 v' (xs ++ l).length (xs ++ l) → w.grownBy w' v.ownBlock → (v ≠ .slice none 0 0 → v' ≠ .slice none 0 0) → wpList Try.prog ops Q rest (a.put o.dst v') w') : wpList Try.prog ops Q (o :: rest) a w := by
  obtain ⟨i0, hi, hz0, hz1, hz2⟩ := info_parts hinfo
  obtain ⟨ao, cap, rfl, h0, hc⟩ := hB
  cases ao with
  | none =>
    obtain ⟨rfl, rfl⟩ := h0 rfl
    refine BigFrame.wpList_want hgd fun K hK => ?_
    have hrun := run_append_owned_none (P := Try.prog) (w := w) base t o.type e i0 1 ht hi v xs.length xs hown
    unfold Oper.wp
    simp only [List.length_nil] at hx
    simp [execOp, ho, resolve, invoke, builtin, hs, hx, hrun, Result.andThen]
    refine hK _ _ (h _ _ ?_ (grown_refl _ _) id)
    simpa using hown
  | some ad =>
    refine BigFrame.wpList_want hgd fun _ hK => wp_append_own w s x t ho base e i0 z 1 bytes ht hi hz0 hz1 hz2 hzs (by decide) v xs.length xs hs hown ad l.length cap l hx (by simp) ?_ hone h63 hbytes hbase ?_
    · intro j u hj
      have hlt : j < l.length := (List.getElem?_eq_some_iff.1 hj).1
      obtain ⟨b, off, ha, _, hcell⟩ := hc j hlt
      simp at ha
      subst ha
      rw [add_off, hcell, ← List.getElem?_eq_getElem hlt, hj]
    · intro v' w' h1 h2 h3
      refine hK _ _ (h v' w' ?_ h2 ?_)
      · rw [List.length_append]; exact h1
      · intro hn e; exact hn (h3.1 e).1
theorem own_set {w : World} {B : Nat} {e : TypeId} {g n cap : Nat} {cs : List Value} (h : w.ownsRow B e 1 (.slice (some ⟨g, 0, none⟩) n cap) n cs) (k : Nat) (v : Value) : (w.setCell ⟨g, k, none⟩ v).ownsRow B e 1 (.slice (some ⟨g, 0, none⟩) n cap) n (cs.set k v) := by
  obtain ⟨hl, h⟩ := h
  refine ⟨by rw [List.length_set]; exact hl, ?_⟩
  rcases h with ⟨hv, _⟩ | ⟨g', cap', cur, hv, hg, hcur, h1, h2, h3, h4⟩
  · cases hv
  · simp at hv
    obtain ⟨rfl, rfl⟩ := hv
    refine .inr ⟨g, cap, cur.setIfInBounds k v, rfl, hg, ?_, h1, h2, by simpa using h3, ?_⟩
    · simp [World.setCell, Array.getElem?_modify, hcur]
    · rw [Array.toList_setIfInBounds, List.take_set, h4]

theorem encode_ascii (n : Nat) (h : n < 128) : Utf8.encode (n : Int) = ⟨#[n.toUInt8]⟩ := by
  unfold Utf8.encode
  have h1 : Utf8.valid (n : Int) = true := by rw [validRune_eq]; simp [validRune]; omega
  simp [h1]
  omega
theorem runesBytes_ascii (l : List UInt8) (h : ∀ c ∈ l, c.toNat < 128) : runesBytes (l.map fun c => (c.toNat : Int)) = ⟨l.toArray⟩ := by
  unfold runesBytes
  suffices ∀ (r : ByteArray), (l.map fun c => (c.toNat : Int)).foldl (fun r n => r ++ Utf8.encode n) r = ⟨r.data ++ l.toArray⟩ by
    rw [this]
    apply ByteArray.ext
    simp
  induction l with
  | nil => intro r; simp
  | cons c l ih =>
    intro r
    rw [List.map_cons, List.foldl_cons, ih (fun d hd => h d (List.mem_cons_of_mem _ hd)), encode_ascii _ (h c (by simp))]
    apply ByteArray.ext
    simp
def runeCells (l : List UInt8) : List Value := l.map fun c => Value.int .i32 c.toNat
theorem runeCells_length (l : List UInt8) : (runeCells l).length = l.length := by simp [runeCells]
end Go.Proofs.Ytlghjfomliappaa
namespace Go.Proofs.Bits

/-- The place of the least of the first k texts: the first one, if there are several. -/
def best (T : List (List UInt8)) : Nat → Nat
  | 0 => 0
  | k + 1 => if T.getD k [] < T.getD (best T k) [] then k else best T k
theorem best_lt (T : List (List UInt8)) (k : Nat) (hk : 0 < k) : best T k < k := by
  induction k with
  | zero => omega
  | succ k ih =>
    rw [best]
    split
    · omega
    · rcases Nat.eq_zero_or_pos k with h | h
      · subst h; simp [best]
      · have := ih h; omega
theorem best_le (T : List (List UInt8)) (k : Nat) : best T k ≤ k := by
  rcases Nat.eq_zero_or_pos k with h | h
  · subst h; simp [best]
  · exact Nat.le_of_lt (best_lt T k h)
theorem best_least (T : List (List UInt8)) (k j : Nat) (hj : j < k) : T.getD (best T k) [] ≤ T.getD j [] := by
  induction k with
  | zero => omega
  | succ k ih =>
    rw [best]
    by_cases h : T.getD k [] < T.getD (best T k) []
    · rw [if_pos h]
      rcases Nat.lt_or_ge j k with h1 | h1
      · exact Std.le_trans (Std.le_of_lt h) (ih h1)
      · have : j = k := by omega
        rw [this]; exact Std.le_refl _
    · rw [if_neg h]
      rcases Nat.lt_or_ge j k with h1 | h1
      · exact ih h1
      · have : j = k := by omega
        rw [this]; exact Std.not_lt.1 h
/-- Texts gathered, each once. -/
def addU (acc : List (List UInt8)) (x : List UInt8) : List (List UInt8) := if acc.contains x then acc else acc ++ [x]
theorem addU_nodup (l acc : List (List UInt8)) (h : (acc ++ l).Nodup) : l.foldl addU acc = acc ++ l := by
  induction l generalizing acc with
  | nil => simp
  | cons x r ih =>
    rw [List.foldl_cons]
    have hx : ¬ x ∈ acc := by
      intro hx
      rw [List.nodup_append] at h
      exact h.2.2 x hx x (by simp) rfl
    have e : addU acc x = acc ++ [x] := by unfold addU; rw [if_neg (by simpa using hx)]
    rw [e, ih (acc ++ [x]) (by simpa using h)]
    simp
theorem addU_le (l acc : List (List UInt8)) : (l.foldl addU acc).length ≤ acc.length + l.length := by
  induction l generalizing acc with
  | nil => simp
  | cons x r ih =>
    rw [List.foldl_cons]
    have := ih (addU acc x)
    have h2 : (addU acc x).length ≤ acc.length + 1 := by unfold addU; split <;> simp
    simp; omega
theorem addU_dup (l acc : List (List UInt8)) (ha : acc.Nodup) (h : ¬ (acc ++ l).Nodup) : (l.foldl addU acc).length < acc.length + l.length := by
  induction l generalizing acc with
  | nil => simp at h; exact absurd ha h
  | cons x r ih =>
    rw [List.foldl_cons]
    by_cases hx : x ∈ acc
    · have e : addU acc x = acc := by unfold addU; rw [if_pos (by simpa using hx)]
      rw [e]
      have := addU_le r acc
      simp; omega
    · have e : addU acc x = acc ++ [x] := by unfold addU; rw [if_neg (by simpa using hx)]
      rw [e]
      have hn : (acc ++ [x]).Nodup := by
        rw [List.nodup_append]
        exact ⟨ha, by simp, fun a h1 b h2 e => hx (by simp at h2; rw [← h2, ← e]; exact h1)⟩
      have := ih (acc ++ [x]) hn (by simpa using h)
      simp at this ⊢; omega
theorem addU_twice (l : List (List UInt8)) : decide ((l.foldl addU []).length < l.length) = !decide l.Nodup := by
  by_cases h : l.Nodup
  · rw [addU_nodup l [] (by simpa using h)]; simp [h]
  · have := addU_dup l [] List.nodup_nil (by simpa using h)
    simp at this
    simp [h, this]
theorem nodup_at {l : List (List UInt8)} (h : l.Nodup) {i j : Nat} (hi : i < l.length) (hj : j < l.length) (e : l.getD i [] = l.getD j []) : i = j := by
  rw [List.getD, List.getD, List.getElem?_eq_getElem hi, List.getElem?_eq_getElem hj] at e
  exact (List.getElem_inj h).1 (by simpa using e)
theorem getD_at {l : List (List UInt8)} {i : Nat} (hi : i < l.length) : l.getD i [] = l[i] := by
  rw [List.getD, List.getElem?_eq_getElem hi]; rfl
end Go.Proofs.Bits
namespace Go.Proofs.Ytlghjfomliappaa
open Go.RowKit Go.Proofs.Bits Go.Maps Go.WideMaps
set_option linter.unusedVariables false
set_option maxRecDepth 1000000

def txtV (l : List UInt8) : Value := .string ⟨l.toArray⟩
def keyL (l : List UInt8) : Lit := .string l
theorem lawS : Keyed Try.prog 9 := string_keyed Try.underlying9
theorem run_makeMap_hint (n : Int) (w : World) : (Instr.makeMap 106 (some (.int .i64 n))).run Try.prog w = .ok (.map (some w.heap.size)) (w.alloc (.map #[] 0)) := by
  simp [Instr.makeMap, run_underlying Try.underlying106, asInt, asIntOf, Result.andThen]
theorem addKey_map (acc : List (List UInt8)) (x : List UInt8) : addKey (acc.map keyL) (keyL x) = (addU acc x).map keyL := by
  unfold addKey addU
  have e : (acc.map keyL).any (fun y => y.sameKey (keyL x)) = acc.contains x := by
    rw [List.any_map, Bool.eq_iff_iff, List.any_eq_true, List.contains_iff_mem]
    simp only [Function.comp, keyL, Lit.sameKey, beq_iff_eq]
    constructor
    · rintro ⟨a, h, rfl⟩; exact h
    · intro h; exact ⟨x, h, rfl⟩
  rw [e]
  split <;> simp
theorem fold_addKey (l acc : List (List UInt8)) : (l.map keyL).foldl addKey (acc.map keyL) = (l.foldl addU acc).map keyL := by
  induction l generalizing acc with
  | nil => rfl
  | cons x r ih => rw [List.map_cons, List.foldl_cons, List.foldl_cons, addKey_map, ih]
def setL (l : List (List UInt8)) : DataW Unit := setOf (.agg []) (l.map keyL)
theorem setL_size (l : List (List UInt8)) : Maps.size (setL l) = (l.foldl addU []).length := by
  unfold setL
  rw [size_setOf _ _ (fun x hx => by obtain ⟨_, _, rfl⟩ := List.mem_map.1 hx; trivial)]
  have := fold_addKey l []
  rw [List.map_nil] at this
  rw [this, List.length_map]
theorem setL_next (l : List (List UInt8)) (k : Nat) (hk : k < l.length) : setL (l.take (k + 1)) = (setL (l.take k)).put (keyL l[k]) (.agg []) := by
  unfold setL
  rw [List.take_succ_eq_append_getElem hk, List.map_append, List.map_cons, List.map_nil, setOf_snoc]
set_option maxHeartbeats 1000000 in
theorem anyTwice_any (v : Value) (ls : List (List UInt8)) (w : World) (hn : ls.length ≤ 140737488355328) (hz : ∀ l ∈ ls, l.length ≤ 65536) (hS : Slots w v (ls.map txtV)) :
    Calls Try.prog 87 #[v] w fun e w' => e = .returned (.bool (!decide ls.Nodup)) ∧ Below w.heap.size w w' := by
  obtain ⟨ao, cap, rfl, HAT0⟩ := hS.map
  have HAT : Hid (∀ (wr : World), Below w.heap.size w wr → ∀ k (h : k < ls.length), ∃ b off, ao = some ⟨b, off, none⟩ ∧ wr.cell? ⟨b, off + k, none⟩ = some (txtV ls[k])) := HAT0
  clear hS HAT0
  have HE : Hid (decide (Maps.size (setL ls) < ls.length) = !decide ls.Nodup) := by
    show _ = _
    rw [← addU_twice, setL_size]
  generalize (!decide ls.Nodup) = R at *
  have hmm := run_makeMap_hint
  go_enter Try.func87, Try.ntmps87
  go_wp2
  go_loopw [11] (fun i wr => ∃ k : Nat, k ≤ ls.length ∧ i = .int .i64 k ∧ wr.ownsMap Try.prog 9 (unitElem (H := Unit)) w.heap.size k (setL (ls.take k)) ∧ Below w.heap.size w wr) (fun i _ => ls.length - (intOf i).toNat)
  case atStart => exact ⟨0, Nat.zero_le _, rfl, World.ownsMap_made _ _ _ _, (Below.refl _ _).alloc (Nat.le_refl _) _⟩
  case round =>
    obtain ⟨k, hk, rfl, hown, hnx⟩ := hrel
    by_cases hkl : k < ls.length
    · obtain ⟨b, off, rfl, hcell⟩ := HAT.out wr hnx k hkl
      have hkey : keyOf Try.prog 9 (txtV ls[k]) = some (keyL ls[k]) := by
        have := keyOf_string_mk (P := Try.prog) Try.underlying9 (s := ⟨ls[k].toArray⟩) (by unfold maxLen; simp [ByteArray.size]; have := hz ls[k] (List.getElem_mem hkl); omega)
        simpa [keyL, txtV] using this
      have HN : Hid (setL (ls.take (k + 1)) = (setL (ls.take k)).put (keyL ls[k]) (.agg [])) := setL_next ls k hkl
      generalize ls[k] = s at *
      unfold txtV at hcell hkey
      generalize (⟨s.toArray⟩ : ByteArray) = S at *
      go_wp2_with (first
        | (at_mapUpdate; refine wpList_mapUpdate_own _ rfl _ _ _ 106 rfl 9 107 lawS Try.underlying106 (unitElem (H := Unit)) w.heap.size k _ rfl hown (by unfold maxLen; omega) _ _ _ rfl rfl hkey _ [] unitElem_mk ?_; intro w1 hown1 hgrow1)
        | go_in)
      go_roundw
      case rel => exact ⟨k + 1, by omega, by go_num, by rw [HN.out]; exact hown1, hnx.grown hgrow1 hnx.size (fun j hj => by cases hj; exact Nat.le_refl _)⟩
      case measure => simp [intOf]; omega
    · obtain rfl : k = ls.length := by omega
      rw [List.take_length] at hown
      go_wp2_with (first
        | (at_len; refine wpList_len_own _ rfl _ 106 rfl 9 107 Try.underlying106 _ w.heap.size _ _ rfl hown ?_)
        | go_in)
      go_ret
      exact ⟨ret_bool HE.out, hnx⟩

theorem minS_best (x y : List UInt8) : Lib.minS ⟨x.toArray⟩ ⟨y.toArray⟩ = ⟨(if y < x then y else x).toArray⟩ := by
  unfold Lib.minS
  by_cases h : y < x
  · rw [if_pos h, if_neg]
    simp only
    rintro (h1 | h1)
    · exact Std.lt_irrefl (Std.lt_trans h h1)
    · rw [h1] at h; exact Std.lt_irrefl h
  · rw [if_neg h, if_pos]
    simp only
    by_cases e : x = y
    · exact .inr e
    · exact .inl (Std.lt_of_le_of_ne (Std.not_lt.1 h) e)
/-- The k-th text, the least of the first k: as values. -/
def txB (ls : List (List UInt8)) (k : Nat) : ByteArray := ⟨(ls.getD k []).toArray⟩
def bestB (ls : List (List UInt8)) (k : Nat) : ByteArray := txB ls (best ls k)
theorem bestB_next (ls : List (List UInt8)) (k : Nat) : bestB ls (k + 1) = Lib.minS (bestB ls k) (txB ls k) := by
  unfold bestB txB
  rw [minS_best, best]
  split <;> rfl
theorem txB_inj {ls : List (List UInt8)} {i j : Nat} (h : ls.Nodup) (hi : i < ls.length) (hj : j < ls.length) (e : txB ls i = txB ls j) : i = j := by
  have := congrArg (fun x : ByteArray => x.data.toList) e
  exact nodup_at h hi hj (by simpa [txB] using this)
theorem beq_txt (a b : ByteArray) : (a.toList == b.toList) = decide (a = b) := by
  rw [Bool.eq_iff_iff, beq_iff_eq, decide_eq_true_eq, Lib.toList_data, Lib.toList_data]
  constructor
  · intro h; exact ByteArray.ext (Array.toList_inj.1 h)
  · intro h; rw [h]
theorem Slots.texts {w : World} {v : Value} {ls : List (List UInt8)} (hS : Slots w v (ls.map txtV)) (h0 : 0 < ls.length) :
    ∃ b off cap, v = .slice (some ⟨b, off, none⟩) ls.length cap ∧ ∀ k, k < ls.length → w.cell? ⟨b, off + k, none⟩ = some (.string (txB ls k)) := by
  obtain ⟨ao, cap, rfl, HAT0⟩ := hS.map
  obtain ⟨b, off, rfl, c0⟩ := HAT0 w (Below.refl _ _) 0 h0
  refine ⟨b, off, cap, rfl, fun k h => ?_⟩
  obtain ⟨b', off', e', c⟩ := HAT0 w (Below.refl _ _) k h
  simp only [Option.some.injEq, Addr.mk.injEq, and_true] at e'
  obtain ⟨rfl, rfl⟩ := e'
  rw [c, txB, getD_at h]
  rfl
set_option maxHeartbeats 1000000 in
theorem Min_any (v : Value) (ls : List (List UInt8)) (w : World) (h0 : 0 < ls.length) (hn : ls.length ≤ 140737488355328) (hS : Slots w v (ls.map txtV)) :
    Calls Try.prog 89 #[v] w fun e w' => e = .returned (.string (bestB ls ls.length)) ∧ w' = w := by
  obtain ⟨b, off, cap, rfl, HAT0⟩ := hS.texts h0
  have HAT : Hid (∀ k, k < ls.length → w.cell? ⟨b, off + k, none⟩ = some (.string (txB ls k))) := HAT0
  have c1 := HAT.out 0 h0
  rw [Nat.add_zero] at c1
  clear hS HAT0
  have hmx : ∀ (w : World) (ts : Array TypeId) (t : TypeId) (x y : ByteArray), (Builtin.min_ ts t #[.string x, .string y]).run Try.prog w = .ok (.string (Lib.minS x y)) w := Lib.run_min_strs
  have hl1 : decide ((ls.length : Int) < 1) = false := by simp; omega
  go_enter Try.func89, Try.ntmps89
  go_wp2
  go_loop [3, 4] (fun m i => ∃ k : Nat, 0 < k ∧ k ≤ ls.length ∧ i = .int .i64 k ∧ m = .string (bestB ls k)) (fun _ i => ls.length - (intOf i).toNat)
  case atStart => exact ⟨1, by omega, h0, rfl, by simp [bestB, best]⟩
  case round =>
    obtain ⟨k, hk0, hk, rfl, rfl⟩ := hrel
    by_cases hkl : k < ls.length
    · have ck := HAT.out k hkl
      have HB : Hid (bestB ls (k + 1) = Lib.minS (bestB ls k) (txB ls k)) := bestB_next ls k
      clear c1
      go_wp2
      go_round
      case rel => exact ⟨k + 1, by omega, by omega, by go_num, by rw [HB.out]⟩
      case measure => simp [intOf]; omega
    · obtain rfl : k = ls.length := by omega
      clear c1
      go_wp2
      go_ret
      exact ⟨rfl, rfl⟩
set_option maxHeartbeats 1000000 in
theorem Index_any (v : Value) (ls : List (List UInt8)) (w : World) (i : Nat) (hi : i < ls.length) (hd : ls.Nodup) (hn : ls.length ≤ 140737488355328) (hS : Slots w v (ls.map txtV)) :
    Calls Try.prog 88 #[v, .string (txB ls i)] w fun e w' => e = .returned (.int .i64 i) ∧ w' = w := by
  obtain ⟨b, off, cap, rfl, HAT0⟩ := hS.texts (by omega)
  have HAT : Hid (∀ k, k < ls.length → w.cell? ⟨b, off + k, none⟩ = some (.string (txB ls k))) := HAT0
  clear hS HAT0
  go_enter Try.func88, Try.ntmps88
  go_wp2
  go_loop [8] (fun j => ∃ k : Nat, k ≤ i ∧ j = .int .i64 k) (fun j => ls.length - (intOf j).toNat)
  case atStart => exact ⟨0, by omega, rfl⟩
  case round =>
    obtain ⟨k, hk, rfl⟩ := hrel
    have ck := HAT.out k (by omega)
    have hkl : (k : Int) < (ls.length : Int) := by omega
    have hb := beq_txt (txB ls i) (txB ls k)
    by_cases hki : k = i
    · subst hki
      rw [show decide (txB ls k = txB ls k) = true by simp] at hb
      go_wp2
      go_ret
      exact ⟨rfl, rfl⟩
    · have hne : ¬ txB ls i = txB ls k := fun e => hki (txB_inj hd hi (by omega) e).symm
      rw [show decide (txB ls i = txB ls k) = false by simpa using hne] at hb
      go_wp2
      go_round
      case rel => exact ⟨k + 1, by omega, by go_num⟩
      case measure => simp [intOf]; omega
end Go.Proofs.Ytlghjfomliappaa
namespace Go.Proofs.Ytlghjfomliappaa
open Go.ChangeShapes Go.WideShapes Go.ChangeAt Go.RowKit
set_option linter.unusedVariables false
set_option maxRecDepth 1000000

/-- A slice that came in whose elements are rows of c cells: nil, or cells in an old block. -/
def Wide {α : Type} (c : Nat) (dec : α → List Value) (w : World) (v : Value) (l : List α) : Prop :=
  ∃ ao cap, v = .slice ao l.length cap ∧ (ao = none → l = [] ∧ cap = 0) ∧ ∀ k (h : k < l.length), ∃ b off, ao = some ⟨b, off, none⟩ ∧ b < w.heap.size ∧ w.rangeAt b (off + k * c) (dec l[k])
theorem Wide.at {α : Type} {c : Nat} {dec : α → List Value} {w : World} {ao : Option Addr} {l : List α} (h : ∀ k (h : k < l.length), ∃ b off, ao = some ⟨b, off, none⟩ ∧ b < w.heap.size ∧ w.rangeAt b (off + k * c) (dec l[k])) {wr : World} (hb : Below w.heap.size w wr) (k : Nat) (hk : k < l.length) :
    ∃ b off, ao = some ⟨b, off, none⟩ ∧ b < w.heap.size ∧ wr.rangeAt b (off + k * c) (dec l[k]) := by
  obtain ⟨b, off, ha, hlt, hc⟩ := h k hk
  exact ⟨b, off, ha, hlt, fun j v hv => (hb.cell (p := ⟨b, off + k * c + j, none⟩) hlt).trans (hc j v hv)⟩
theorem open_wide {α : Type} {c : Nat} {dec : α → List Value} {P : Program} {H : Type} {enc : TypeId × Value → H} {W : World} {base : Nat} {v : Value} {d : DataW H} {ps : List MemPlace} {t e : TypeId}
    (ht : P.underlying t = some (.slice e)) (hc : P.cellsOf e = c) (h0 : 0 < c)
    (hone : ∀ n cs y, DataW.trod enc P W 0 (fun _ => true) true n e cs = some y → ∃ a : α, cs = dec a)
    (hval : Value.okWide P W .any base t v) (h : DataW.Trod enc P W 0 (fun _ => true) true t v d ps) (hlt : ∀ x ∈ ps, x.block < W.heap.size) :
    ∃ l : List α, Wide c dec W v l ∧ ((d = .nil ∧ l = []) ∨ ∃ e s, d = .slice e s ∧ e.length = l.length) := by
  obtain ⟨ao, len, cap, rfl⟩ := okWide_slice ht hval
  obtain ⟨fuel, hf⟩ := h
  rcases DataW.trod_slice ht hf with ⟨hcs, hx⟩ | ⟨a, len', cap', elems, rest, n, _, hcs, hx, _, hl, hm, hlen, hel, _, _⟩
  · simp [Value.cells] at hcs
    obtain ⟨rfl, rfl, rfl⟩ := hcs
    simp only [Prod.mk.injEq] at hx
    exact ⟨[], ⟨none, 0, rfl, fun _ => ⟨rfl, rfl⟩, fun k hk => by simp at hk⟩, .inl ⟨hx.1, rfl⟩⟩
  · simp [Value.cells] at hcs
    obtain ⟨rfl, rfl, rfl⟩ := hcs
    simp only [Prod.mk.injEq] at hx
    have each : ∀ i : Fin len, ∃ x : α, ∃ b off, a = ⟨b, off, none⟩ ∧ b < W.heap.size ∧ W.rangeAt b (off + i.1 * c) (dec x) := by
      intro i
      have hi := hel i.1 i.2
      rw [List.getElem?_eq_getElem (by omega), Option.bind_eq_some_iff] at hi
      obtain ⟨cs, hcs, hy⟩ := hi
      obtain ⟨x, rfl⟩ := hone _ _ _ hy
      obtain ⟨_, h2, h3⟩ := World.cells?_some hcs
      rw [hc] at h2 h3
      have hs : a.spot = none := by
        have hi0 := hel 0 (by have := i.2; omega)
        rw [List.getElem?_eq_getElem (by have := i.2; omega), Option.bind_eq_some_iff] at hi0
        obtain ⟨cs0, hcs0, _⟩ := hi0
        obtain ⟨_, l2, l3⟩ := World.cells?_some hcs0
        have h4 := l3 0 (by omega)
        rw [List.getElem?_eq_getElem (by omega)] at h4
        have := World.cell?_spot h4
        simpa [Addr.add] using this
      obtain ⟨b, off, spot⟩ := a
      simp only at hs
      subst hs
      refine ⟨x, b, off, rfl, ?_, ?_⟩
      · have hlt2 : i.1 * c < (elems.length + rest.length) * c := Nat.mul_lt_mul_of_pos_right (by have := i.2; omega) h0
        have := hlt (.cell b (off + i.1 * c)) (by rw [hx.2, hc]; simp [MemPlace.row]; left; exact hlt2)
        exact this
      · intro j u hj
        have hjl := (List.getElem?_eq_some_iff.1 hj).1
        have := h3 j (by omega)
        rw [Addr.add_mid, Addr.add_mid, hj] at this
        exact this
    have hlist : ∃ l : List α, l.length = len ∧ ∀ k (h : k < l.length), ∃ b off, a = ⟨b, off, none⟩ ∧ b < W.heap.size ∧ W.rangeAt b (off + k * c) (dec l[k]) := by
      refine ⟨List.ofFn fun i => Classical.choose (each i), by simp, fun k hk => ?_⟩
      rw [List.getElem_ofFn]
      exact Classical.choose_spec (each ⟨k, by simpa using hk⟩)
    obtain ⟨l, hll, hat⟩ := hlist
    refine ⟨l, ⟨some a, cap, by rw [hll], (fun h => by cases h), fun k hk => ?_⟩, .inr ⟨_, _, hx.1, by rw [List.length_map, hlen, hll]⟩⟩
    obtain ⟨b, off, rfl, hb, hr⟩ := hat k hk
    exact ⟨b, off, rfl, hb, hr⟩
theorem size_wide {α : Type} {P : Program} {H : Type} {t e : TypeId} {ts : List TypeId} {ds : List (DataW H)} {j c : Nat} {d : DataW H} {l : List α} (h : (DataW.weightsEach P ts ds).all (· ≤ reachBytes) = true) (ht : ts[j]? = some t) (hd : ds[j]? = some d) (hu : P.underlying t = some (.slice e)) (hc : P.bytesOf e = c) (x : (d = .nil ∧ l = []) ∨ ∃ e s, d = .slice e s ∧ e.length = l.length) : l.length * c ≤ 140737488351232 := by
  rcases x with ⟨_, rfl⟩ | ⟨x, s, rfl, he⟩
  · simp
  · have hs := sized_slice h ht hd hu
    rw [hc] at hs
    have hr : reachBytes = 140737488351232 := by decide
    have : l.length * c ≤ (x.length + s.length) * c := Nat.mul_le_mul_right _ (by omega)
    omega

end Go.Proofs.Ytlghjfomliappaa
