/- A node takes bytes that the law copied first. -/
import Derived.Test.YtjifoeponfeffaaNnE
import Derived.Test.YtjifoeponfeffaaNnOp
namespace Go.Proofs.Ytjifoeponfeffaa
open Go.RowKit
set_option linter.unusedVariables false
set_option maxRecDepth 1000000
set_option linter.unusedSimpArgs false
theorem grown_two {X w2 : World} {g : Nat} (h : X.grownBy w2 (some g)) : Two g g X w2 := ⟨h.os, h.tape, h.output, h.size, fun z hz h3 _ => h.block z hz (fun h => h3 (Option.some.inj h))⟩
/-- What stands behind it: a copy was made of nothing, and grown. -/
theorem Two.copied {p : Nat} {wr X1 w2 w3 : World} {e0 : Nat} (hX : wr.alloc (.cells #[] 5) = X1) (he : wr.heap.size = e0) (h : X1.grownBy w2 (some e0)) (t : Two p p w2 w3) : Two p p wr w3 := by
  have g := grown_two h
  have h1 : Two p p wr X1 := by rw [← hX]; exact (Two.refl _ _ _).alloc _
  refine ⟨t.os.trans (g.os.trans h1.os), t.tape.trans (g.tape.trans h1.tape), t.output.trans (g.output.trans h1.output), Nat.le_trans h1.size (Nat.le_trans g.size t.size), fun k hk h3 h4 => ?_⟩
  have s1 := h1.size
  have s2 := g.size
  rw [t.block k (by omega) h3 h4, g.block k (by omega) (by omega) (by omega), h1.block k hk h3 h4]
theorem took_any {p : Nat} {s : Nd} {wr X1 : World} {e0 : Nat} (hX : wr.alloc (.cells #[] 5) = X1) (he : wr.heap.size = e0) (hN : Na p s wr) (bl : List UInt8) (h1 : -4611686018427387904 ≤ s.boots ∧ s.boots < 4611686018427387904) (h2 : -4611686018427387904 ≤ s.talks ∧ s.talks < 4611686018427387904) :
    ∀ v1 w2, w2.ownsRow e0 5 1 v1 bl.length (Lib.byteCells bl) → X1.grownBy w2 (some e0) → Calls Try.prog 10 #[.pointer (some ⟨p, 0, none⟩), v1] w2 fun e w' => e = .returned (.int .i64 (s.told bl)) ∧ Na p (s.take bl) w' ∧ Two p p wr w' := by
  intro v1 w2 ho hg
  have g := grown_two hg
  have lp := Bc.lt hN
  have N2 : Na p s w2 := Bc.two (by rw [← hX]; exact Bc.alloc hN _) g (by omega) (by omega)
  exact (take_any v1 bl N2 (bytes_of_own ho) h1 h2).mono fun e w' ⟨a, b, c⟩ => ⟨a, b, Two.copied hX he hg c⟩
/-- How far its beginnings have got behind so many calls. -/
def Nd.few (s : Nd) (k : Nat) : Prop := 0 ≤ s.boots ∧ s.boots ≤ k ∧ 0 ≤ s.talks ∧ s.talks ≤ k
theorem Nd.few.take {s : Nd} {k : Nat} (h : s.few k) (l : List UInt8) : (s.take l).few (k + 1) := by
  obtain ⟨a, b, c, d⟩ := h
  unfold Nd.take Nd.few
  repeat' split
  all_goals (try unfold Nd.does); repeat' split
  all_goals (first | omega | (simp only; omega))
theorem Nd.few.step {s : Nd} {k : Nat} (h : s.few k) : s.step.few (k + 1) := by
  obtain ⟨a, b, c, d⟩ := h
  unfold Nd.step Nd.few
  split
  all_goals (first | omega | (simp only; omega))
theorem Nd.few.set {s : Nd} {k : Nat} (h : s.few k) (n : Int) : (s.set n).few (k + 1) := by
  obtain ⟨a, b, c, d⟩ := h
  unfold Nd.set Nd.few
  repeat' split
  all_goals (first | omega | (simp only; omega))
theorem Nd.few.more {s : Nd} {k : Nat} (h : s.few k) : s.few (k + 1) := by
  obtain ⟨a, b, c, d⟩ := h
  unfold Nd.few
  omega
end Go.Proofs.Ytjifoeponfeffaa
