/- Contracts of the document's own: Decode. -/
import Derived.Test.YthalhidebkhclaaTy10
import Derived.Test.YthalhidebkhclaaTyD
namespace Go.Proofs.Ythalhidebkhclaa
open Go.RowKit Go.Proofs.Ty
set_option linter.unusedVariables false
set_option maxRecDepth 1000000
theorem wide_dec {t : Int} {l : List UInt8} (h : 0 < siz t) (hl : l.length = siz t) : wideN (kind t == 2) l = decN t l := by
  have hk : kind t = 1 ∨ kind t = 2 := by
    have := siz_zero t
    omega
  rcases hk with hk | hk
  · rw [hk, decN, if_pos hk, wideN, if_neg (by simp)]
  · rw [hk, decN, if_neg (by omega), if_pos hk]
    have e := low_join l
    rw [hl] at e
    rw [← wide_low (joinL l) (siz t) (wid t) (sz2 hk), e]
    rfl
theorem decN_lt {t : Int} {l : List UInt8} (h : 0 < siz t) (hl : l.length = siz t) : decN t l < 18446744073709551616 := by
  have h8 := siz_le t
  unfold decN
  split
  · exact join8 (by omega)
  · split
    · rename_i h1 h2
      exact extN_lt _ _ (kind_wid2 h2)
    · omega
end Go.Proofs.Ythalhidebkhclaa
