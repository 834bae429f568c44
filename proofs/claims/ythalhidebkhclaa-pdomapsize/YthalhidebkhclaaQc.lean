/- Saved bytes as a list: plain facts. -/
import Derived.Test.YthalhidebkhclaaTyB
namespace Go.Proofs.Ythalhidebkhclaa
open Go.Proofs.Ty
set_option linter.unusedVariables false
set_option maxRecDepth 1000000
set_option linter.unusedSimpArgs false
/-- What is saved of one entry: where it is, its bytes. -/
structure Sv where
  ix : Nat
  sb : Nat
  raw : List UInt8
  hix : ix < 65536
  hsb : sb < 256
def Sv.pl (s : Sv) : Nat := s.ix * 256 + s.sb
/-- How many bytes stand behind a head. -/
def hdN (b : List UInt8) : Nat := joinL ((b.drop 3).take 4)
theorem hdN_lt (b : List UInt8) : hdN b < 4294967296 := by
  have h := joinL_lt ((b.drop 3).take 4)
  have h2 : ((b.drop 3).take 4).length ≤ 4 := by rw [List.length_take]; omega
  have h3 : 256 ^ ((b.drop 3).take 4).length ≤ 256 ^ 4 := Nat.pow_le_pow_right (by omega) h2
  have h4 : (256 : Nat) ^ 4 = 4294967296 := by decide
  unfold hdN
  omega
def svOf (b : List UInt8) : Sv := ⟨(b.getD 0 0).toNat + 256 * (b.getD 1 0).toNat, (b.getD 2 0).toNat, (b.drop 7).take (hdN b), by have := (b.getD 0 0).toNat_lt; have := (b.getD 1 0).toNat_lt; omega, (b.getD 2 0).toNat_lt⟩
/-- Bytes as saved values; none, if they are no list. -/
def cutL (ah : Int) (b : List UInt8) : Option (List Sv) :=
  if h0 : b = [] then some [] else if b.length < 7 then none else if b.length - 7 < hdN b then none else if ((svOf b).pl : Int) ≤ ah then none else (cutL ((svOf b).pl : Int) (b.drop (7 + hdN b))).map (svOf b :: ·)
termination_by b.length
decreasing_by
  have : 0 < b.length := List.length_pos_iff.2 h0
  rw [List.length_drop]; omega
theorem cutL_nil (ah : Int) : cutL ah [] = some [] := by rw [cutL]; simp
theorem cutL_short {ah : Int} {b : List UInt8} (h0 : b ≠ []) (h : b.length < 7) : cutL ah b = none := by rw [cutL, dif_neg h0, if_pos h]
theorem cutL_long {ah : Int} {b : List UInt8} (h1 : 7 ≤ b.length) (h : b.length - 7 < hdN b) : cutL ah b = none := by
  have h0 : b ≠ [] := by intro e; subst e; simp at h1
  rw [cutL, dif_neg h0, if_neg (by omega), if_pos h]
theorem cutL_low {ah : Int} {b : List UInt8} (h1 : 7 ≤ b.length) (h : ((svOf b).pl : Int) ≤ ah) : cutL ah b = none := by
  have h0 : b ≠ [] := by intro e; subst e; simp at h1
  rw [cutL, dif_neg h0, if_neg (by omega)]
  split
  · rfl
  · rfl
theorem cutL_go {ah : Int} {b : List UInt8} (h1 : 7 ≤ b.length) (h2 : ¬ b.length - 7 < hdN b) (h : ¬ ((svOf b).pl : Int) ≤ ah) : cutL ah b = (cutL ((svOf b).pl : Int) (b.drop (7 + hdN b))).map (svOf b :: ·) := by
  have h0 : b ≠ [] := by intro e; subst e; simp at h1
  conv => lhs; rw [cutL]
  rw [dif_neg h0, if_neg (by omega), if_neg h2, if_neg h]
theorem cutL_cons {ah : Int} {b : List UInt8} {s : Sv} {r : List Sv} (h : cutL ah b = some (s :: r)) : 7 ≤ b.length ∧ hdN b ≤ b.length - 7 ∧ s = svOf b ∧ cutL (s.pl : Int) (b.drop (7 + hdN b)) = some r := by
  by_cases h0 : b = []
  · subst h0; rw [cutL_nil] at h; simp at h
  · by_cases h1 : b.length < 7
    · rw [cutL_short h0 h1] at h; cases h
    · by_cases h2 : b.length - 7 < hdN b
      · rw [cutL_long (by omega) h2] at h; cases h
      · by_cases h3 : ((svOf b).pl : Int) ≤ ah
        · rw [cutL_low (by omega) h3] at h; cases h
        · rw [cutL_go (by omega) h2 h3] at h
          cases hc : cutL ((svOf b).pl : Int) (b.drop (7 + hdN b)) with
          | none => rw [hc] at h; cases h
          | some t =>
            rw [hc] at h
            simp only [Option.map_some, Option.some.injEq, List.cons.injEq] at h
            obtain ⟨rfl, rfl⟩ := h
            exact ⟨by omega, by omega, rfl, hc⟩
theorem cutL_done {ah : Int} {b : List UInt8} (h : cutL ah b = some []) : b = [] := by
  by_cases h0 : b = []
  · exact h0
  · by_cases h1 : b.length < 7
    · rw [cutL_short h0 h1] at h; cases h
    · by_cases h2 : b.length - 7 < hdN b
      · rw [cutL_long (by omega) h2] at h; cases h
      · by_cases h3 : ((svOf b).pl : Int) ≤ ah
        · rw [cutL_low (by omega) h3] at h; cases h
        · rw [cutL_go (by omega) h2 h3] at h
          cases hc : cutL ((svOf b).pl : Int) (b.drop (7 + hdN b)) with
          | none => rw [hc] at h; cases h
          | some t => rw [hc] at h; simp at h
/-- A list is no longer than its bytes. -/
theorem cutL_len {ah : Int} {b : List UInt8} {l : List Sv} (h : cutL ah b = some l) : l.length ≤ b.length := by
  induction l generalizing ah b with
  | nil => simp
  | cons s r ih =>
    obtain ⟨h1, h2, _, h4⟩ := cutL_cons h
    have := ih h4
    rw [List.length_drop] at this
    simp only [List.length_cons]; omega
end Go.Proofs.Ythalhidebkhclaa
