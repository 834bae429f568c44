/- Bits of a word that are turned about, some of them. -/
import Derived.Test.YtpjddhihokgffaaMathG
import Derived.Test.YtpjddhihokgffaaCopy
import Derived.Test.YtpjddhihokgffaaCells
import Derived.Test.YtpjddhihokgffaaNum
import Derived.Test.YtpjddhihokgffaaOne
namespace Go.Proofs.Ytpjddhihokgffaa
open Go.RowKit Go.Proofs.Bits
set_option linter.unusedVariables false
set_option maxRecDepth 1000000

theorem all_flip (l : List UInt8) (k : Nat) (hk : k < l.length) (h : l.all isBit = true) : (l.set k (oth l[k])).all isBit = true := by
  rw [List.all_eq_true] at h ⊢
  intro c hc
  rcases List.mem_or_eq_of_mem_set hc with hc | rfl
  · exact h c hc
  · exact isBit_of (oth_bit _)
theorem byteCells_set (l : List UInt8) (k : Nat) (c : UInt8) : (Lib.byteCells l).set k (.int .u8 c.toNat) = Lib.byteCells (l.set k c) := by
  simp [Lib.byteCells, List.map_set]
/-- A part of such a row of bytes as a text. -/
theorem Row.part {w : World} {g : Nat} {l : List UInt8} (h : Row w g (Lib.byteCells l)) (o m cap : Nat) (hm : o + m ≤ l.length) : (convert 46 9 (.slice (some ⟨g, o, none⟩) m cap)).run Try.prog w = .ok (.string ⟨((l.drop o).take m).toArray⟩) w := by
  have hl : ((l.drop o).take m).length = m := by simp; omega
  have := run_convert_bytes_back (P := Try.prog) w 46 9 5 ⟨g, o, none⟩ cap ((l.drop o).take m) Try.underlying46 Try.underlying5 Try.underlying9 ?_
  · rw [hl] at this; exact this
  · intro j hj
    have e : (⟨g, o, none⟩ : Addr).add j = ⟨g, o + j, none⟩ := by
      unfold Addr.add
      split
      · rename_i h; subst h; rfl
      · simp
    rw [e, h.cell (o + j) (by rw [Lib.byteCells_length]; omega)]
    simp [Lib.byteCells]

/-- What holds of a word X of n bits, some of them turned about: those at the places F, told from the end. -/
structure Turned (X L : List UInt8) (n : Nat) (F : List Nat) : Prop where
  len : L.length = n
  bits : L.all isBit = true
  sum : rem L = xall F
  once : F.Nodup
  lt : ∀ j ∈ F, j < n
  same : ∀ k (hk : k < n), (L[k]? = X[k]? ↔ n - 1 - k ∉ F)
theorem Turned.start (X : List UInt8) (n : Nat) (h1 : X.length = n) (h2 : X.all isBit = true) (h3 : rem X = 0) : Turned X X n [] :=
  ⟨h1, h2, h3, List.nodup_nil, by simp, by simp⟩
theorem Turned.step {X L : List UInt8} {n : Nat} {F : List Nat} (h : Turned X L n F) (hX : X.length = n) (hXb : X.all isBit = true) (k : Nat) (hk : k < n) (hkL : k < L.length) (he : L[k]? = X[k]?) : Turned X (L.set k (oth L[k])) n ((n - 1 - k) :: F) := by
  have hnot := (h.same k hk).1 he
  refine ⟨by rw [List.length_set]; exact h.len, all_flip L k hkL h.bits, ?_, List.nodup_cons.2 ⟨hnot, h.once⟩, ?_, ?_⟩
  · rw [rem_flip L k hkL h.bits, h.sum, h.len]; rfl
  · intro j hj
    rcases List.mem_cons.1 hj with rfl | hj
    · omega
    · exact h.lt j hj
  · intro j hj
    by_cases e : j = k
    · subst e
      rw [List.getElem?_set_self (by omega)]
      have hkx : j < X.length := by omega
      rw [← he, List.getElem?_eq_getElem hkL]
      constructor
      · intro h2
        exact absurd (Option.some.inj h2) (oth_ne _)
      · intro h2
        exact absurd (List.mem_cons_self) h2
    · rw [List.getElem?_set_ne (Ne.symm e), h.same j hj]
      simp only [List.mem_cons, not_or]
      constructor
      · intro h2; exact ⟨by omega, h2⟩
      · exact fun h2 => h2.2

theorem heap_drewN (w : World) (n : Nat) : (w.drewN n).heap = w.heap := by
  induction n with
  | zero => rfl
  | succ n ih => exact ih
end Go.Proofs.Ytpjddhihokgffaa
