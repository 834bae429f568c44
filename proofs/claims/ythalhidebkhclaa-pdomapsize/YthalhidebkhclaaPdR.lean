/- The entries of a dictionary whose values can be. -/
import Derived.Test.YthalhidebkhclaaPdQ
namespace Go.Proofs.Ythalhidebkhclaa
open Go.RowKit Go.Shelf Go.Proofs.Ty
set_option linter.unusedVariables false
set_option maxRecDepth 1000000
set_option linter.unusedSimpArgs false
theorem enc_siz (v : Vl) (hc : v.chk = 0) (hs : 0 < siz v.t) : v.enc.length = siz v.t := by
  have h1 : Go.Proofs.Ty.chk v.t v.n v.s = 0 := hc
  unfold Vl.enc encV
  rw [if_pos h1]
  unfold Go.Proofs.Ty.encL
  split
  · rw [lowL_length]
  · omega
/-- A value that can be, of its entry's type, of an entry that can be. -/
def Fit (i : Im) : Prop := i.v.t = i.e.df.t ∧ i.v.chk = 0 ∧ i.e.can = 0
theorem fit_mn {its : List Im} (h : ∀ i ∈ its, Fit i) : Mn its := fun i hi hm => by
  have hc := (h i hi).2.2
  unfold En.can at hc
  by_cases h0 : 0 < siz i.e.df.t
  · exact h0
  · exfalso
    split at hc
    · rename_i h1; exact h1 hc
    · split at hc
      · cases hc
      · split at hc
        · cases hc
        · rw [if_pos ⟨hm, h0⟩] at hc
          cases hc
theorem fit_vn {its : List Im} (h : ∀ i ∈ its, Fit i) : Vn its := fun i hi hm => by
  have h0 := fit_mn h i hi hm
  obtain ⟨h1, h2, _⟩ := h i hi
  rw [← h1] at h0 ⊢
  exact enc_siz i.v h2 h0
end Go.Proofs.Ythalhidebkhclaa
