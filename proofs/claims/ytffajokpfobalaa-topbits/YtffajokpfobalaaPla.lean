/- Contracts of Plain and Same. -/
import Derived.Test.YtffajokpfobalaaEnc
import Derived.Test.YtffajokpfobalaaDec
import Derived.Lib.SliceRun
namespace Go.Proofs.Ytffajokpfobalaa
open Go.RowKit Go.Proofs.Bits
set_option linter.unusedVariables false
set_option maxRecDepth 1000000

/-- A frame with its first n bytes alone. -/
def Fr.cut (f : Fr) (n : Nat) (hn : n ≤ 8) : Fr := { f with data := f.data.take n ++ List.replicate (8 - n) 0, hdata := by simp [f.hdata]; omega }
/-- A frame without the bytes that it has not. -/
def Fr.plain (f : Fr) : Fr := f.cut f.bytes f.bytes_le
theorem slice_tail (q n : Nat) (hn : n ≤ 8) (W : World) : (Instr.sliceAt 31 (.pointer (some ⟨q, 4, none⟩)) (some (.int .i64 n)) none none).run Try.prog W = .ok (.slice (some ⟨q, if n = 8 then 4 else 4 + n, none⟩) (8 - n) (8 - n)) W := by
  obtain ⟨i0, hi, hz0, hz1, hz2⟩ := info_parts binfo5
  have h0 : (0 : Int) ≤ (n : Int) := by omega
  simp [Instr.sliceAt, run_underlying Try.underlying31, go_sem, h0, sizeOf, typeInfo, hi, hz1, Addr.add]
  rw [if_pos (by omega)]
  by_cases h8 : n = 8
  · subst h8; rfl
  · by_cases h1 : n = 0
    · subst h1; rfl
    · rw [if_neg (fun e => h8 e.symm), if_neg h1, if_neg h8]
def setMany (A : Array Value) : Nat → List Value → Array Value
  | _, [] => A
  | o, v :: r => setMany (A.setIfInBounds o v) (o + 1) r
theorem heap_setCells (q : Nat) (T : TypeId) (z : Nat × Nat) : ∀ (vs : List Value) (o : Nat) (A : Array Value) (w : World), w.heap[q]? = some (.cells A T z) → (w.setCells q o vs).heap[q]? = some (.cells (setMany A o vs) T z)
  | [], _, _, _, h => h
  | v :: r, o, A, w, h => heap_setCells q T z r (o + 1) _ _ (by simp [World.setCell, Array.getElem?_modify, h])
theorem clear_arr (f : Fr) (n : Nat) (hn : n ≤ 8) : setMany f.arr (4 + n) (List.replicate (8 - n) (.int .u8 0)) = (f.cut n hn).arr := by
  obtain ⟨id, ext, rem, len, data, h1, h2, h3⟩ := f
  match data, h3 with
  | [d0, d1, d2, d3, d4, d5, d6, d7], _ =>
    match n, hn with
    | 0, _ => simp [setMany, Fr.arr, Fr.cells, Fr.cut, List.replicate]
    | 1, _ => simp [setMany, Fr.arr, Fr.cells, Fr.cut, List.replicate]
    | 2, _ => simp [setMany, Fr.arr, Fr.cells, Fr.cut, List.replicate]
    | 3, _ => simp [setMany, Fr.arr, Fr.cells, Fr.cut, List.replicate]
    | 4, _ => simp [setMany, Fr.arr, Fr.cells, Fr.cut, List.replicate]
    | 5, _ => simp [setMany, Fr.arr, Fr.cells, Fr.cut, List.replicate]
    | 6, _ => simp [setMany, Fr.arr, Fr.cells, Fr.cut, List.replicate]
    | 7, _ => simp [setMany, Fr.arr, Fr.cells, Fr.cut]
    | 8, _ => simp [setMany, Fr.arr, Fr.cells, Fr.cut]
theorem Fa.cleared {q : Nat} {f : Fr} {w : World} (h : Fa q f w) (n : Nat) (hn : n ≤ 8) : Fa q (f.cut n hn) (w.setCells q (4 + n) (List.replicate (8 - n) (.int .u8 0))) := by
  unfold Fa
  rw [← clear_arr f n hn]
  exact heap_setCells q _ _ _ _ _ _ h
theorem below_cells {B q : Nat} {a : World} (hq : B ≤ q) : ∀ (vs : List Value) (o : Nat) (w : World), Below B a w → Below B a (w.setCells q o vs)
  | [], _, _, h => h
  | v :: r, o, w, h => below_cells hq r (o + 1) _ (h.setCell (p := ⟨q, o, none⟩) hq v)
theorem heap_cells_other {q k : Nat} (hk : k ≠ q) : ∀ (vs : List Value) (o : Nat) (w : World), (w.setCells q o vs).heap[k]? = w.heap[k]?
  | [], _, _ => rfl
  | v :: r, o, w => (heap_cells_other hk r (o + 1) _).trans (Below.heap_setCell w ⟨q, o, none⟩ v k hk)
theorem Fr.arr_some (f : Fr) (k : Nat) (hk : k < 12) : (f.arr[k]?).isSome = true := by
  have := f.arr_size
  simp [this, hk]
theorem zero5 (w : World) : (zeroValue 5).run Try.prog w = .ok (.int .u8 0) w := by
  obtain ⟨i0, hi, hz0, hz1, hz2⟩ := info_parts binfo5
  simp [zeroValue, typeInfo, hi, hz0]

end Go.Proofs.Ytffajokpfobalaa
