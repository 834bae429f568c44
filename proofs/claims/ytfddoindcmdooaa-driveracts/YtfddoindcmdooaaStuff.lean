/- Contracts of Stuff and of what it calls. -/
import Derived.Test.YtfddoindcmdooaaBuild
import Derived.Test.YtfddoindcmdooaaMathB
namespace Go.Proofs.Ytfddoindcmdooaa
open Go.RowKit Go.Proofs.Bits
set_option linter.unusedVariables false
set_option maxRecDepth 1000000

/-- All blocks but that of r stand as they stood. -/
def But (r : Nat) (w w' : World) : Prop := ∀ k, k < w.heap.size → k ≠ r → w'.heap[k]? = w.heap[k]?
theorem at_other {T e : TypeId} {B b r : Nat} {p : Value} {bs : List Value} {w w' : World} (h : Lib.BuilderAtF T e B b p bs w) (hk : But r w w') (hr : ∀ c fz, w.heap[r]? ≠ some (.cells c T fz)) (hr2 : ∀ c fz, w.heap[r]? ≠ some (.cells c e fz)) : Lib.BuilderAtF T e B b p bs w' := by
  obtain ⟨hB, v, hb, hown, hne⟩ := h
  have lt : ∀ {k : Nat} {o : Obj}, w.heap[k]? = some o → k < w.heap.size := fun h => (Array.getElem?_eq_some_iff.1 h).1
  refine ⟨hB, v, ?_, ⟨hown.1, ?_⟩, hne⟩
  · rw [hk b (lt hb) (by rintro rfl; exact hr _ _ hb)]; exact hb
  · rcases hown.2 with hn | ⟨g, cap, cur, fz, hv, hbg, hg, rest⟩
    · exact .inl hn
    · refine .inr ⟨g, cap, cur, fz, hv, hbg, ?_, rest⟩
      rw [hk g (lt hg) (by rintro rfl; exact hr2 _ _ hg)]; exact hg
theorem is_other {T e : TypeId} {B b r : Nat} {bs : List Value} {w w' : World} (h : Lib.IsBuilderF T e B b bs w) (hk : But r w w') (hr : ∀ c fz, w.heap[r]? ≠ some (.cells c T fz)) (hr2 : ∀ c fz, w.heap[r]? ≠ some (.cells c e fz)) : Lib.IsBuilderF T e B b bs w' :=
  h.elim (fun x => .inl (at_other x hk hr hr2)) (fun x => .inr (at_other x hk hr hr2))
theorem heap_set2 {w : World} {r : Nat} {x y x' y' : Value} {T : TypeId} (h : w.heap[r]? = some (.cells #[x, y] T (0, 0))) :
    ((w.setCell ⟨r, 0, none⟩ x').setCell ⟨r, 1, none⟩ y').heap[r]? = some (.cells #[x', y'] T (0, 0)) := by
  simp [World.setCell, Array.getElem?_modify, h]
theorem but_set2 (w : World) (r : Nat) (x' y' : Value) : But r w ((w.setCell ⟨r, 0, none⟩ x').setCell ⟨r, 1, none⟩ y') := by
  intro k hk hne
  rw [Below.heap_setCell _ _ _ _ hne, Below.heap_setCell _ _ _ _ hne]


theorem But.below {r : Nat} {w w' : World} (h : Below w.heap.size w w') : But r w w' := fun k hk _ => h.block k hk

section
variable {w1 wr w' : World} {s : ByteArray} {acc : List UInt8} {lv : UInt8} {ct pos : Nat}
end
end Go.Proofs.Ytfddoindcmdooaa
