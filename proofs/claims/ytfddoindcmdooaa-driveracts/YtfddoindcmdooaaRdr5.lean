/- Contracts of a reader's end, and of Decode. -/
import Derived.Test.YtfddoindcmdooaaRdr4
import Derived.Defers
import Derived.Recover
import Derived.Deep.RegionLaw
namespace Go.Proofs.Ytfddoindcmdooaa
open Go.RowKit Go.Proofs.Bits
set_option linter.unusedVariables false
set_option maxRecDepth 1000000

section
variable {t : List UInt8} {s : RS} {g : Nat} {w w' : World}

/-- Decode's three results, in blocks q, q + 1, q + 2. -/
def Ns (q : Nat) (f : Fr) (n e : Int) (w : World) : Prop :=
  Fa q f w ∧ w.heap[q + 1]? = some (.cells #[.int .i64 n] 3 (0, 0)) ∧ w.heap[q + 2]? = some (.cells #[.int .i64 e] 27 (0, 0))
theorem Ns.new (w : World) : Ns w.heap.size Fr.nul 0 0 (((w.alloc (.cells Fr.nul.arr 45)).alloc (.cells #[.int .i64 0] 3)).alloc (.cells #[.int .i64 0] 27)) := by
  refine ⟨((Fa.new w Fr.nul).alloc _).alloc _, ?_, ?_⟩
  · have := heap_alloc_new (w.alloc (.cells Fr.nul.arr 45)) (.cells #[.int .i64 0] 3)
    rw [size_alloc] at this
    rw [Lib.alloc_old _ _ _ (by rw [size_alloc, size_alloc]; omega)]
    exact this
  · have := heap_alloc_new ((w.alloc (.cells Fr.nul.arr 45)).alloc (.cells #[.int .i64 0] 3)) (.cells #[.int .i64 0] 27)
    rw [size_alloc, size_alloc] at this
    exact this
section
variable {q : Nat} {f : Fr} {n e : Int}
theorem Ns.lt (h : Ns q f n e w) : q + 2 < w.heap.size := (Array.getElem?_eq_some_iff.1 h.2.2).1
theorem Ns.below {B : Nat} (h : Ns q f n e w) (hb : Below B w w') (hB : q + 2 < B) : Ns q f n e w' :=
  ⟨(hb.block q (by omega)).trans h.1, (hb.block _ (by omega)).trans h.2.1, (hb.block _ (by omega)).trans h.2.2⟩
theorem Ns.row (h : Ns q f n e w) (f' : Fr) : Ns q f' n e (w.setRow q f'.arr) :=
  ⟨h.1.row f', (setRow_other _ _ _ _ (by omega)).trans h.2.1, (setRow_other _ _ _ _ (by omega)).trans h.2.2⟩
theorem Ns.setN (h : Ns q f n e w) (n' : Int) : Ns q f n' e (w.setCell ⟨q + 1, 0, none⟩ (.int .i64 n')) := by
  refine ⟨h.1.other (p := ⟨q + 1, 0, none⟩) (by simp) _, ?_, ?_⟩
  · simp [World.setCell, Array.getElem?_modify, h.2.1]
  · rw [Below.heap_setCell _ _ _ _ (by simp)]; exact h.2.2
theorem Ns.setE (h : Ns q f n e w) (e' : Int) : Ns q f n e' (w.setCell ⟨q + 2, 0, none⟩ (.int .i64 e')) := by
  refine ⟨h.1.other (p := ⟨q + 2, 0, none⟩) (by simp) _, ?_, ?_⟩
  · rw [Below.heap_setCell _ _ _ _ (by simp)]; exact h.2.1
  · simp [World.setCell, Array.getElem?_modify, h.2.2]
theorem Ns.drew (h : Ns q f n e w) : Ns q f n e w.drew := h
theorem Ns.cn (h : Ns q f n e w) : w.cell? ⟨q + 1, 0, none⟩ = some (.int .i64 n) := Lib.cell_of_heap h.2.1 0
theorem Ns.ce (h : Ns q f n e w) : w.cell? ⟨q + 2, 0, none⟩ = some (.int .i64 e) := Lib.cell_of_heap h.2.2 0
theorem Ns.zn (h : Ns q f n e w) : w.frozen? ⟨q + 1, 0, none⟩ = false := Lib.frozen_of_heap h.2.1 0
theorem Ns.ze (h : Ns q f n e w) : w.frozen? ⟨q + 2, 0, none⟩ = false := Lib.frozen_of_heap h.2.2 0
theorem below_row {B : Nat} {a : World} (h : Below B a w) (hq : B ≤ q) (hl : B ≤ w.heap.size) (c : Array Value) : Below B a (w.setRow q c) := h.grown (setRow_kept w q c) hl (fun k hk => by cases hk; omega)
end

theorem arr_lit (f : Fr) : ∃ a0 a1 a2 a3 a4 a5 a6 a7 a8 a9 a10 a11 : Value, f.arr = #[a0, a1, a2, a3, a4, a5, a6, a7, a8, a9, a10, a11] := by
  obtain ⟨id, ext, rem, len, data, h1, h2, h3⟩ := f
  match data, h3 with
  | [d0, d1, d2, d3, d4, d5, d6, d7], _ => exact ⟨_, _, _, _, _, _, _, _, _, _, _, _, rfl⟩
theorem heap_set {q i : Nat} {A : Array Value} {T : TypeId} {z : Nat × Nat} (h : w.heap[q]? = some (.cells A T z)) (v : Value) : (w.setCell ⟨q, i, none⟩ v).heap[q]? = some (.cells (A.setIfInBounds i v) T z) := by
  simp [World.setCell, Array.getElem?_modify, h]
theorem heap_drew (q : Nat) : w.drew.heap[q]? = w.heap[q]? := rfl
def wipe (w : World) (q : Nat) : World := (((((((((((w.setCell ⟨q, 0, none⟩ (.int .u32 0)).setCell ⟨q, 1, none⟩ (.bool false)).setCell ⟨q, 2, none⟩ (.bool false)).setCell ⟨q, 3, none⟩ (.int .i64 0)).setCell ⟨q, 4, none⟩ (.int .u8 0)).setCell ⟨q, 5, none⟩ (.int .u8 0)).setCell ⟨q, 6, none⟩ (.int .u8 0)).setCell ⟨q, 7, none⟩ (.int .u8 0)).setCell ⟨q, 8, none⟩ (.int .u8 0)).setCell ⟨q, 9, none⟩ (.int .u8 0)).setCell ⟨q, 10, none⟩ (.int .u8 0)).setCell ⟨q, 11, none⟩ (.int .u8 0)
theorem Ns.wiped {q : Nat} {f : Fr} {n e : Int} (h : Ns q f n e w) : Ns q Fr.nul n e (wipe w q) := by
  obtain ⟨a0, a1, a2, a3, a4, a5, a6, a7, a8, a9, a10, a11, hA⟩ := arr_lit f
  obtain ⟨h0, h1, h2⟩ := h
  unfold Fa at h0
  rw [hA] at h0
  have o : ∀ (V : World) (p : Addr) (v : Value) (k : Nat), k ≠ p.block → (V.setCell p v).heap[k]? = V.heap[k]? := fun V p v k hk => Below.heap_setCell V p v k hk
  have e : ((((((((((((#[a0, a1, a2, a3, a4, a5, a6, a7, a8, a9, a10, a11] : Array Value).setIfInBounds 0 (.int .u32 0)).setIfInBounds 1 (.bool false)).setIfInBounds 2 (.bool false)).setIfInBounds 3 (.int .i64 0)).setIfInBounds 4 (.int .u8 0)).setIfInBounds 5 (.int .u8 0)).setIfInBounds 6 (.int .u8 0)).setIfInBounds 7 (.int .u8 0)).setIfInBounds 8 (.int .u8 0)).setIfInBounds 9 (.int .u8 0)).setIfInBounds 10 (.int .u8 0)).setIfInBounds 11 (.int .u8 0) = Fr.nul.arr := by
    simp [Fr.nul, Fr.arr, Fr.cells]
  have g := heap_set (i := 11) (heap_set (i := 10) (heap_set (i := 9) (heap_set (i := 8) (heap_set (i := 7) (heap_set (i := 6) (heap_set (i := 5) (heap_set (i := 4) (heap_set (i := 3) (heap_set (i := 2) (heap_set (i := 1) (heap_set (i := 0) h0 (.int .u32 0)) (.bool false)) (.bool false)) (.int .i64 0)) (.int .u8 0)) (.int .u8 0)) (.int .u8 0)) (.int .u8 0)) (.int .u8 0)) (.int .u8 0)) (.int .u8 0)) (.int .u8 0)
  rw [e] at g
  refine ⟨g, ?_, ?_⟩
  · unfold wipe
    rw [o _ _ _ _ (by simp), o _ _ _ _ (by simp), o _ _ _ _ (by simp), o _ _ _ _ (by simp), o _ _ _ _ (by simp), o _ _ _ _ (by simp), o _ _ _ _ (by simp), o _ _ _ _ (by simp), o _ _ _ _ (by simp), o _ _ _ _ (by simp), o _ _ _ _ (by simp), o _ _ _ _ (by simp)]
    exact h1
  · unfold wipe
    rw [o _ _ _ _ (by simp), o _ _ _ _ (by simp), o _ _ _ _ (by simp), o _ _ _ _ (by simp), o _ _ _ _ (by simp), o _ _ _ _ (by simp), o _ _ _ _ (by simp), o _ _ _ _ (by simp), o _ _ _ _ (by simp), o _ _ _ _ (by simp), o _ _ _ _ (by simp), o _ _ _ _ (by simp)]
    exact h2
theorem below_wipe {B q : Nat} {a : World} (h : Below B a w) (hq : B ≤ q) : Below B a (wipe w q) :=
  (((((((((((h.setCell (p := ⟨q, 0, none⟩) hq _).setCell (p := ⟨q, 1, none⟩) hq _).setCell (p := ⟨q, 2, none⟩) hq _).setCell (p := ⟨q, 3, none⟩) hq _).setCell (p := ⟨q, 4, none⟩) hq _).setCell (p := ⟨q, 5, none⟩) hq _).setCell (p := ⟨q, 6, none⟩) hq _).setCell (p := ⟨q, 7, none⟩) hq _).setCell (p := ⟨q, 8, none⟩) hq _).setCell (p := ⟨q, 9, none⟩) hq _).setCell (p := ⟨q, 10, none⟩) hq _).setCell (p := ⟨q, 11, none⟩) hq _

end
end Go.Proofs.Ytfddoindcmdooaa
