/- Contracts of Plain and Same. -/
import Derived.Test.YtfddoindcmdooaaEnc
import Derived.Test.YtfddoindcmdooaaDec
import Derived.Lib.SliceRun
namespace Go.Proofs.Ytfddoindcmdooaa
open Go.RowKit Go.Proofs.Bits
set_option linter.unusedVariables false
set_option maxRecDepth 1000000

/-- A frame with its first n bytes alone. -/
def Fr.cut (f : Fr) (n : Nat) (hn : n ≤ 8) : Fr := { f with data := f.data.take n ++ List.replicate (8 - n) 0, hdata := by simp [f.hdata]; omega }
/-- A frame without the bytes that it has not. -/
def Fr.plain (f : Fr) : Fr := f.cut f.bytes f.bytes_le
theorem slice_tail (q n : Nat) (hn : n ≤ 8) (W : World) : (Instr.sliceAt 43 (.pointer (some ⟨q, 4, none⟩)) (some (.int .i64 n)) none none).run Try.prog W = .ok (.slice (some ⟨q, if n = 8 then 4 else 4 + n, none⟩) (8 - n) (8 - n)) W := by
  obtain ⟨i0, hi, hz0, hz1, hz2⟩ := info_parts binfo5
  have h0 : (0 : Int) ≤ (n : Int) := by omega
  simp [Instr.sliceAt, run_underlying Try.underlying43, go_sem, h0, sizeOf, typeInfo, hi, hz1, Addr.add]
  rw [if_pos (by omega)]
  by_cases h8 : n = 8
  · subst h8; rfl
  · by_cases h1 : n = 0
    · subst h1; rfl
    · rw [if_neg (fun e => h8 e.symm), if_neg h1, if_neg h8]
def setMany (A : Array Value) : Nat → List Value → Array Value
  | _, [] => A
  | o, v :: r => setMany (A.setIfInBounds o v) (o + 1) r
theorem heap_setCells (q : Nat) (T : TypeId) (z : Nat × Nat) : ∀ (vs : List Value) (o : Nat) (A : Array Value) (w : World), w.heap[q]? = some (.cells A T z) → (w.setCells q o vs).heap[q]? = some (.cells (setMany A o vs) T z)
  | [], _, _, _, h => h
  | v :: r, o, A, w, h => heap_setCells q T z r (o + 1) _ _ (by simp [World.setCell, Array.getElem?_modify, h])
theorem clear_arr (f : Fr) (n : Nat) (hn : n ≤ 8) : setMany f.arr (4 + n) (List.replicate (8 - n) (.int .u8 0)) = (f.cut n hn).arr := by
  obtain ⟨id, ext, rem, len, data, h1, h2, h3⟩ := f
  match data, h3 with
  | [d0, d1, d2, d3, d4, d5, d6, d7], _ =>
    match n, hn with
    | 0, _ => simp [setMany, Fr.arr, Fr.cells, Fr.cut, List.replicate]
    | 1, _ => simp [setMany, Fr.arr, Fr.cells, Fr.cut, List.replicate]
    | 2, _ => simp [setMany, Fr.arr, Fr.cells, Fr.cut, List.replicate]
    | 3, _ => simp [setMany, Fr.arr, Fr.cells, Fr.cut, List.replicate]
    | 4, _ => simp [setMany, Fr.arr, Fr.cells, Fr.cut, List.replicate]
    | 5, _ => simp [setMany, Fr.arr, Fr.cells, Fr.cut, List.replicate]
    | 6, _ => simp [setMany, Fr.arr, Fr.cells, Fr.cut, List.replicate]
    | 7, _ => simp [setMany, Fr.arr, Fr.cells, Fr.cut]
    | 8, _ => simp [setMany, Fr.arr, Fr.cells, Fr.cut]
theorem Fa.cleared {q : Nat} {f : Fr} {w : World} (h : Fa q f w) (n : Nat) (hn : n ≤ 8) : Fa q (f.cut n hn) (w.setCells q (4 + n) (List.replicate (8 - n) (.int .u8 0))) := by
  unfold Fa
  rw [← clear_arr f n hn]
  exact heap_setCells q _ _ _ _ _ _ h
theorem below_cells {B q : Nat} {a : World} (hq : B ≤ q) : ∀ (vs : List Value) (o : Nat) (w : World), Below B a w → Below B a (w.setCells q o vs)
  | [], _, _, h => h
  | v :: r, o, w, h => below_cells hq r (o + 1) _ (h.setCell (p := ⟨q, o, none⟩) hq v)
theorem heap_cells_other {q k : Nat} (hk : k ≠ q) : ∀ (vs : List Value) (o : Nat) (w : World), (w.setCells q o vs).heap[k]? = w.heap[k]?
  | [], _, _ => rfl
  | v :: r, o, w => (heap_cells_other hk r (o + 1) _).trans (Below.heap_setCell w ⟨q, o, none⟩ v k hk)
theorem Fr.arr_some (f : Fr) (k : Nat) (hk : k < 12) : (f.arr[k]?).isSome = true := by
  have := f.arr_size
  simp [this, hk]
theorem zero5 (w : World) : (zeroValue 5).run Try.prog w = .ok (.int .u8 0) w := by
  obtain ⟨i0, hi, hz0, hz1, hz2⟩ := info_parts binfo5
  simp [zeroValue, typeInfo, hi, hz0]

set_option maxHeartbeats 4000000 in
theorem fPlain_any (f : Fr) (w : World) :
    Calls Try.prog 31 #[f.val] w fun e w' => e = .returned f.plain.val ∧ Below w.heap.size w w' := by
  have fA : Fa w.heap.size f ((w.alloc (.cells f.arr 45)).alloc (.cells Fr.nul.arr 45)) := (Fa.new w f).alloc _
  have fB : Fa (w.heap.size + 1) Fr.nul ((w.alloc (.cells f.arr 45)).alloc (.cells Fr.nul.arr 45)) := by
    have := Fa.new (w.alloc (.cells f.arr 45)) Fr.nul
    rw [size_alloc] at this
    exact this
  have bA : Below w.heap.size w ((w.alloc (.cells f.arr 45)).alloc (.cells Fr.nul.arr 45)) := ((Below.refl _ _).alloc (Nat.le_refl _) _).alloc (by rw [size_alloc]; omega) _
  have sA : ((w.alloc (.cells f.arr 45)).alloc (.cells Fr.nul.arr 45)).heap.size = w.heap.size + 2 := by rw [size_alloc, size_alloc]
  have hbl := f.bytes_le
  unfold Fr.val
  go_enter Try.func31, Try.ntmps31
  go_wp2_with (refine fA.ld rfl _ rfl rfl ?_)
  change Calls Try.prog 47 _ ((w.alloc (.cells f.arr 45)).alloc (.cells Fr.nul.arr 45)) _
  generalize ((w.alloc (.cells f.arr 45)).alloc (.cells Fr.nul.arr 45)) = A at *
  refine (fbytesOf_any f _).mono ?_
  rintro e w1 ⟨rfl, b1⟩
  have f1 : Fa w.heap.size f w1 := (b1.block _ (by omega)).trans fA
  have g1 : Fa (w.heap.size + 1) Fr.nul w1 := (b1.block _ (by omega)).trans fB
  have B1 := bA.trans (b1.mono (by omega))
  have s1 := b1.size
  have HP : Hid (∀ h, f.plain = f.cut f.bytes h) := fun _ => rfl
  generalize hn : f.bytes = n at *
  have f2 := f1.cleared n hbl
  have g2 : Fa (w.heap.size + 1) Fr.nul (w1.setCells w.heap.size (4 + n) (List.replicate (8 - n) (.int .u8 0))) := (heap_cells_other (by omega) _ _ _).trans g1
  have B2 := below_cells (q := w.heap.size) (Nat.le_refl _) (List.replicate (8 - n) (.int .u8 0)) (4 + n) w1 B1
  have hst := slice_tail w.heap.size n hbl
  generalize hq : w.heap.size = q at *
  have hcl : ∀ ty, (Builtin.clear_ #[75] ty #[.slice (some ⟨q, if n = 8 then 4 else 4 + n, none⟩) (8 - n) (8 - n)]).run Try.prog w1 = .ok (.tuple #[]) (w1.setCells q (4 + n) (List.replicate (8 - n) (.int .u8 0))) := by
    intro ty
    by_cases h8 : n = 8
    · subst h8
      simp [Builtin.clear_, run_underlying Try.underlying75]
      rfl
    · rw [if_neg h8]
      exact Lib.run_clear_slice w1 75 5 ty (.int .u8 0) Try.underlying75 zero5 rfl rfl q (4 + n) (8 - n) _ (by omega) (fun j hj => by rw [show 4 + n + j = 4 + (n + j) by omega, Lib.cell_of_heap f1]; exact f.arr_some _ (by omega)) (fun j hj => Lib.frozen_of_heap f1 _)
  clear fA fB bA b1
  generalize (if n = 8 then 4 else 4 + n) = off at *
  go_wp2_with (first | refine f2.ld rfl _ rfl rfl ?_ | refine g2.sd (f.cut n hbl) rfl _ _ rfl rfl rfl ?_)
  have D3 := g2.row (f.cut n hbl)
  have B3 := below_row (q := q + 1) B2 (by omega) (by have := f2.lt; omega) (f.cut n hbl).arr
  refine bodyPost_ret (v := .agg (f.cut n hbl).arr) (results_cell_row rfl _ _ (q + 1) 45 (f.cut n hbl).arr (0, 0) _ rfl D3 Try.underlying45 rfl (by rw [(f.cut n hbl).arr_size]; exact infoF)) rfl ⟨by rw [HP.out hbl], by rw [hq]; exact B3⟩
end Go.Proofs.Ytfddoindcmdooaa
