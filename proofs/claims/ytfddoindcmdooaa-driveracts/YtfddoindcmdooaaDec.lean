/- Contract of Decode. -/
import Derived.Test.YtfddoindcmdooaaRdr5
namespace Go.Proofs.Ytfddoindcmdooaa
open Go.RowKit Go.Proofs.Bits
set_option linter.unusedVariables false
set_option maxRecDepth 1000000

/-- What Decode answers: the frame, a place, an error. -/
def decF (t : List UInt8) : Fr := if err t = 0 then (match decS t with | .error _ => Fr.nul | .ok (f, _) => toldF f) else Fr.nul
def decN (t : List UInt8) : Int := if err t = 0 then (match decS t with | .error f => f.1 | .ok (_, s) => s.pos) else 0
def decE (t : List UInt8) : Int := if err t = 0 then (match decS t with | .error f => f.2 | .ok _ => 0) else err t
def decV (t : List UInt8) : Value := .tuple #[(decF t).val, .int .i64 (decN t), .int .i64 (decE t)]

theorem arr_full (f : Fr) : ∃ (i : Int) (x r : Bool) (n d0 d1 d2 d3 d4 d5 d6 d7 : Int), f.arr = #[.int .u32 i, .bool x, .bool r, .int .i64 n, .int .u8 d0, .int .u8 d1, .int .u8 d2, .int .u8 d3, .int .u8 d4, .int .u8 d5, .int .u8 d6, .int .u8 d7] := by
  obtain ⟨id, ext, rem, len, data, h1, h2, h3⟩ := f
  match data, h3 with
  | [d0, d1, d2, d3, d4, d5, d6, d7], _ => exact ⟨_, _, _, _, _, _, _, _, _, _, _, _, rfl⟩
def fill (w : World) (q : Nat) (i : Int) (x r : Bool) (n d0 d1 d2 d3 d4 d5 d6 d7 : Int) : World := ((((((((((((((((((((((((w).setCell ⟨q, 0, none⟩ (.int .u32 i))).setCell ⟨q, 1, none⟩ (.bool x))).setCell ⟨q, 2, none⟩ (.bool r))).setCell ⟨q, 3, none⟩ (.int .i64 n))).setCell ⟨q, 4, none⟩ (.int .u8 d0))).setCell ⟨q, 5, none⟩ (.int .u8 d1))).setCell ⟨q, 6, none⟩ (.int .u8 d2))).setCell ⟨q, 7, none⟩ (.int .u8 d3))).setCell ⟨q, 8, none⟩ (.int .u8 d4))).setCell ⟨q, 9, none⟩ (.int .u8 d5))).setCell ⟨q, 10, none⟩ (.int .u8 d6))).setCell ⟨q, 11, none⟩ (.int .u8 d7))
theorem Ns.filled {q : Nat} {f : Fr} {m e : Int} {w : World} (i : Int) (x r : Bool) (n d0 d1 d2 d3 d4 d5 d6 d7 : Int) (hA : f.arr = #[.int .u32 i, .bool x, .bool r, .int .i64 n, .int .u8 d0, .int .u8 d1, .int .u8 d2, .int .u8 d3, .int .u8 d4, .int .u8 d5, .int .u8 d6, .int .u8 d7]) (h : Ns q f m e w) : Ns q f m e (fill w q i x r n d0 d1 d2 d3 d4 d5 d6 d7) := by
  obtain ⟨h0, h1, h2⟩ := h
  unfold Fa at h0
  rw [hA] at h0
  have o : ∀ (V : World) (p : Addr) (v : Value) (k : Nat), k ≠ p.block → (V.setCell p v).heap[k]? = V.heap[k]? := fun V p v k hk => Below.heap_setCell V p v k hk
  have ee : (((((((((((((((((((((((((#[.int .u32 i, .bool x, .bool r, .int .i64 n, .int .u8 d0, .int .u8 d1, .int .u8 d2, .int .u8 d3, .int .u8 d4, .int .u8 d5, .int .u8 d6, .int .u8 d7] : Array Value)).setIfInBounds 0 (.int .u32 i))).setIfInBounds 1 (.bool x))).setIfInBounds 2 (.bool r))).setIfInBounds 3 (.int .i64 n))).setIfInBounds 4 (.int .u8 d0))).setIfInBounds 5 (.int .u8 d1))).setIfInBounds 6 (.int .u8 d2))).setIfInBounds 7 (.int .u8 d3))).setIfInBounds 8 (.int .u8 d4))).setIfInBounds 9 (.int .u8 d5))).setIfInBounds 10 (.int .u8 d6))).setIfInBounds 11 (.int .u8 d7)) = #[.int .u32 i, .bool x, .bool r, .int .i64 n, .int .u8 d0, .int .u8 d1, .int .u8 d2, .int .u8 d3, .int .u8 d4, .int .u8 d5, .int .u8 d6, .int .u8 d7] := by simp
  have g := (heap_set (i := 11) (heap_set (i := 10) (heap_set (i := 9) (heap_set (i := 8) (heap_set (i := 7) (heap_set (i := 6) (heap_set (i := 5) (heap_set (i := 4) (heap_set (i := 3) (heap_set (i := 2) (heap_set (i := 1) (heap_set (i := 0) h0 (.int .u32 i)) (.bool x)) (.bool r)) (.int .i64 n)) (.int .u8 d0)) (.int .u8 d1)) (.int .u8 d2)) (.int .u8 d3)) (.int .u8 d4)) (.int .u8 d5)) (.int .u8 d6)) (.int .u8 d7))
  rw [ee, ← hA] at g
  refine ⟨g, ?_, ?_⟩
  · unfold fill
    rw [o _ _ _ _ (by simp), o _ _ _ _ (by simp), o _ _ _ _ (by simp), o _ _ _ _ (by simp), o _ _ _ _ (by simp), o _ _ _ _ (by simp), o _ _ _ _ (by simp), o _ _ _ _ (by simp), o _ _ _ _ (by simp), o _ _ _ _ (by simp), o _ _ _ _ (by simp), o _ _ _ _ (by simp)]
    exact h1
  · unfold fill
    rw [o _ _ _ _ (by simp), o _ _ _ _ (by simp), o _ _ _ _ (by simp), o _ _ _ _ (by simp), o _ _ _ _ (by simp), o _ _ _ _ (by simp), o _ _ _ _ (by simp), o _ _ _ _ (by simp), o _ _ _ _ (by simp), o _ _ _ _ (by simp), o _ _ _ _ (by simp), o _ _ _ _ (by simp)]
    exact h2
theorem below_fill {B q : Nat} {a w : World} (i : Int) (x r : Bool) (n d0 d1 d2 d3 d4 d5 d6 d7 : Int) (h : Below B a w) (hq : B ≤ q) : Below B a (fill w q i x r n d0 d1 d2 d3 d4 d5 d6 d7) :=
  ((((((((((((h.setCell (p := ⟨q, 0, none⟩) hq _).setCell (p := ⟨q, 1, none⟩) hq _).setCell (p := ⟨q, 2, none⟩) hq _).setCell (p := ⟨q, 3, none⟩) hq _).setCell (p := ⟨q, 4, none⟩) hq _).setCell (p := ⟨q, 5, none⟩) hq _).setCell (p := ⟨q, 6, none⟩) hq _).setCell (p := ⟨q, 7, none⟩) hq _).setCell (p := ⟨q, 8, none⟩) hq _).setCell (p := ⟨q, 9, none⟩) hq _).setCell (p := ⟨q, 10, none⟩) hq _).setCell (p := ⟨q, 11, none⟩) hq _)

end Go.Proofs.Ytfddoindcmdooaa
