/- What was written is read as it was: plain facts. -/
import Derived.Test.YthalhidebkhclaaTy11
import Derived.Test.YthalhidebkhclaaTy12
namespace Go.Proofs.Ythalhidebkhclaa
open Go.RowKit Go.Proofs.Ty
set_option linter.unusedVariables false
set_option maxRecDepth 1000000
/-- What was written is read as it was. -/
theorem chk_plain (v : Vl) : v.plain.chk = v.chk := by
  have hk := kind_le v.t
  by_cases h : kind v.t = 1 ∨ kind v.t = 2
  · rw [Vl.plain_num h]
    unfold Vl.chk chk Vl.setB
    rcases h with h | h <;> simp [h]
  · by_cases h3 : kind v.t = 3 ∨ kind v.t = 4
    · rw [Vl.plain_txt h3]
      unfold Vl.chk chk Vl.setN
      rcases h3 with h | h <;> simp [h]
    · rw [Vl.plain_none (by omega)]
theorem enc_dec (v : Vl) (h : v.chk = 0) : decE v.t v.enc = 0 ∧ decW v.t v.enc = v.plain := by
  have hE : v.enc = if 0 < siz v.t then lowL v.n (siz v.t) else v.s.data.toList := by
    show encV v.t v.n v.s = _
    unfold encV
    rw [if_pos (show chk v.t v.n v.s = 0 from h)]
    rfl
  have hk0 : kind v.t ≠ 0 := by
    intro e
    have : v.chk = 1 := by unfold Vl.chk chk; simp [e]
    omega
  have hz := siz_zero v.t
  have hp := chk_plain v
  rw [h] at hp
  by_cases hs : 0 < siz v.t
  · rw [if_pos hs] at hE
    have hl : v.enc.length = siz v.t := by rw [hE, lowL_length]
    have hk : kind v.t = 1 ∨ kind v.t = 2 := by omega
    have hN : decN v.t v.enc = v.n := by
      rw [← wide_dec hs hl, hE]
      show wv v = v.n
      rcases hk with hk | hk
      · by_cases h1 : v.t = 1
        · have := chk_bool h1
          rw [h] at this
          by_cases hc : wv v = v.n ∧ ¬ 1 < v.n
          · exact hc.1
          · rw [if_neg hc] at this; omega
        · have := chk_num1 hk h1
          rw [h] at this
          by_cases hc : wv v = v.n
          · exact hc
          · rw [if_neg hc] at this; omega
      · have := chk_num2 hk
        rw [h] at this
        by_cases hc : wv v = v.n
        · exact hc
        · rw [if_neg hc] at this; omega
    have hS : decS v.t v.enc = ⟨#[]⟩ := by unfold decS; rw [if_pos hk]
    have hF : fitE v.t v.enc.length = 0 := by
      have := siz_le v.t
      rw [hl]
      unfold fitE
      rw [if_neg hk0, if_neg (by omega), if_neg (by omega)]
    have e1 : decE v.t v.enc = 0 := by
      unfold decE
      rw [hF, hN, hS, if_neg (by simp)]
      rw [Vl.plain_num hk] at hp
      have : chk v.t v.n ⟨#[]⟩ = 0 := hp
      rw [this, if_neg (by simp)]
    refine ⟨e1, ?_⟩
    unfold decW
    rw [if_pos e1, hN, hS, Vl.plain_num hk]
    exact mkV_eq _ _ _
  · rw [if_neg hs] at hE
    have hk : kind v.t = 3 ∨ kind v.t = 4 := by
      have := kind_le v.t
      omega
    have hle : v.s.size ≤ 65536 := by
      have h' : Ty.chk v.t v.n v.s = 0 := h
      unfold chk at h'
      rw [if_neg (by omega), if_neg (by omega), if_neg hk0] at h'
      by_cases hc : 65536 < v.s.size
      · rw [if_pos hc] at h'; omega
      · omega
    have hN : decN v.t v.enc = 0 := by unfold decN; rw [if_neg (by omega), if_neg (by omega)]
    have hS : decS v.t v.enc = v.s := by
      unfold decS
      rw [if_neg (by omega), hE]
    have hF : fitE v.t v.enc.length = 0 := by
      rw [hE]
      unfold fitE
      rw [if_neg hk0, if_neg (by omega), if_neg (by simp; omega)]
    have e1 : decE v.t v.enc = 0 := by
      unfold decE
      rw [hF, hN, hS, if_neg (by simp)]
      rw [Vl.plain_txt hk] at hp
      have : chk v.t 0 v.s = 0 := hp
      rw [this, if_neg (by simp)]
    refine ⟨e1, ?_⟩
    unfold decW
    rw [if_pos e1, hN, hS, Vl.plain_txt hk]
    exact mkV_eq _ _ _
end Go.Proofs.Ythalhidebkhclaa
