/- Writes keep entries whose values can be; what is written is what is told. -/
import Derived.Test.YthalhidebkhclaaPdR
import Derived.Test.YthalhidebkhclaaOMa
namespace Go.Proofs.Ythalhidebkhclaa
open Go.RowKit Go.Shelf Go.Proofs.Ty
set_option linter.unusedVariables false
set_option maxRecDepth 1000000
set_option linter.unusedSimpArgs false
theorem wc_dec {its : List Im} {ix sb : Nat} {l : List UInt8} {i : Im} (hf : fnd its ix sb = some i) (h : wc its ix sb l = 0) : decE i.e.df.t l = 0 := by
  unfold wc at h
  rw [hf] at h
  have h2 : wcode i l = 0 := h
  unfold wcode at h2
  split at h2
  · cases h2
  · split at h2
    · assumption
    · split at h2
      · cases h2
      · split at h2 <;> cases h2
theorem fit_wrt {its : List Im} (hd : (its.map Im.b).Nodup) (h : ∀ i ∈ its, Fit i) (ix sb : Nat) (l : List UInt8) : ∀ i ∈ wrt its ix sb l, Fit i := by
  unfold wrt
  split
  · rename_i hw
    split
    · exact h
    · rename_i i hf
      have he := wc_dec hf hw
      intro x hx
      unfold setV at hx
      obtain ⟨y, hy, rfl⟩ := List.mem_map.1 hx
      split
      · rename_i hb
        have hi := fnd_mem hf
        have hyi : y = i := mem_b hd hy hi hb
        subst hyi
        refine ⟨dec_t _ y.e.df.ht l he, (dec_enc _ y.e.df.ht l he).1, (h y hy).2.2⟩
      · exact h y hy
  · exact h
theorem fit_wrN {its : List Im} (hd : (its.map Im.b).Nodup) (h : ∀ i ∈ its, Fit i) (L : List Sl) (l : List UInt8) : ∀ k, ∀ i ∈ wrN its L l k, Fit i
  | 0 => h
  | k + 1 => by
    unfold wrN
    exact fit_wrt (by rw [wrN_b]; exact hd) (fit_wrN hd h L l k) _ _ _
end Go.Proofs.Ythalhidebkhclaa
