/- Contracts of anyTwice, and of the library's Min and Index at texts. -/
import Derived.Test.YtfddoindcmdooaaSlots
import Derived.Test.YtfddoindcmdooaaMathO
import Derived.Maps.OwnSet
import Derived.Maps.Own
import Derived.Lib.MinMaxS
namespace Go.Proofs.Ytfddoindcmdooaa
open Go.RowKit Go.Proofs.Bits Go.Maps Go.WideMaps
set_option linter.unusedVariables false
set_option maxRecDepth 1000000

def txtV (l : List UInt8) : Value := .string ⟨l.toArray⟩
def keyL (l : List UInt8) : Lit := .string l
theorem lawS : Keyed Try.prog 9 := string_keyed Try.underlying9
theorem addKey_map (acc : List (List UInt8)) (x : List UInt8) : addKey (acc.map keyL) (keyL x) = (addU acc x).map keyL := by
  unfold addKey addU
  have e : (acc.map keyL).any (fun y => y.sameKey (keyL x)) = acc.contains x := by
    rw [List.any_map, Bool.eq_iff_iff, List.any_eq_true, List.contains_iff_mem]
    simp only [Function.comp, keyL, Lit.sameKey, beq_iff_eq]
    constructor
    · rintro ⟨a, h, rfl⟩; exact h
    · intro h; exact ⟨x, h, rfl⟩
  rw [e]
  split <;> simp
theorem fold_addKey (l acc : List (List UInt8)) : (l.map keyL).foldl addKey (acc.map keyL) = (l.foldl addU acc).map keyL := by
  induction l generalizing acc with
  | nil => rfl
  | cons x r ih => rw [List.map_cons, List.foldl_cons, List.foldl_cons, addKey_map, ih]
def setL (l : List (List UInt8)) : DataW Unit := setOf (.agg []) (l.map keyL)
theorem setL_size (l : List (List UInt8)) : Maps.size (setL l) = (l.foldl addU []).length := by
  unfold setL
  rw [size_setOf _ _ (fun x hx => by obtain ⟨_, _, rfl⟩ := List.mem_map.1 hx; trivial)]
  have := fold_addKey l []
  rw [List.map_nil] at this
  rw [this, List.length_map]
theorem setL_next (l : List (List UInt8)) (k : Nat) (hk : k < l.length) : setL (l.take (k + 1)) = (setL (l.take k)).put (keyL l[k]) (.agg []) := by
  unfold setL
  rw [List.take_succ_eq_append_getElem hk, List.map_append, List.map_cons, List.map_nil, setOf_snoc]
theorem minS_best (x y : List UInt8) : Lib.minS ⟨x.toArray⟩ ⟨y.toArray⟩ = ⟨(if y < x then y else x).toArray⟩ := by
  unfold Lib.minS
  by_cases h : y < x
  · rw [if_pos h, if_neg]
    simp only
    rintro (h1 | h1)
    · exact Std.lt_irrefl (Std.lt_trans h h1)
    · rw [h1] at h; exact Std.lt_irrefl h
  · rw [if_neg h, if_pos]
    simp only
    by_cases e : x = y
    · exact .inr e
    · exact .inl (Std.lt_of_le_of_ne (Std.not_lt.1 h) e)
/-- The k-th text, the least of the first k: as values. -/
def txB (ls : List (List UInt8)) (k : Nat) : ByteArray := ⟨(ls.getD k []).toArray⟩
def bestB (ls : List (List UInt8)) (k : Nat) : ByteArray := txB ls (best ls k)
theorem bestB_next (ls : List (List UInt8)) (k : Nat) : bestB ls (k + 1) = Lib.minS (bestB ls k) (txB ls k) := by
  unfold bestB txB
  rw [minS_best, best]
  split <;> rfl
theorem txB_inj {ls : List (List UInt8)} {i j : Nat} (h : ls.Nodup) (hi : i < ls.length) (hj : j < ls.length) (e : txB ls i = txB ls j) : i = j := by
  have := congrArg (fun x : ByteArray => x.data.toList) e
  exact nodup_at h hi hj (by simpa [txB] using this)
theorem beq_txt (a b : ByteArray) : (a.toList == b.toList) = decide (a = b) := by
  rw [Bool.eq_iff_iff, beq_iff_eq, decide_eq_true_eq, Lib.toList_data, Lib.toList_data]
  constructor
  · intro h; exact ByteArray.ext (Array.toList_inj.1 h)
  · intro h; rw [h]
theorem Slots.texts {w : World} {v : Value} {ls : List (List UInt8)} (hS : Slots w v (ls.map txtV)) (h0 : 0 < ls.length) :
    ∃ b off cap, v = .slice (some ⟨b, off, none⟩) ls.length cap ∧ ∀ k, k < ls.length → w.cell? ⟨b, off + k, none⟩ = some (.string (txB ls k)) := by
  obtain ⟨ao, cap, rfl, HAT0⟩ := hS.map
  obtain ⟨b, off, rfl, c0⟩ := HAT0 w (Below.refl _ _) 0 h0
  refine ⟨b, off, cap, rfl, fun k h => ?_⟩
  obtain ⟨b', off', e', c⟩ := HAT0 w (Below.refl _ _) k h
  simp only [Option.some.injEq, Addr.mk.injEq, and_true] at e'
  obtain ⟨rfl, rfl⟩ := e'
  rw [c, txB, getD_at h]
  rfl
end Go.Proofs.Ytfddoindcmdooaa
