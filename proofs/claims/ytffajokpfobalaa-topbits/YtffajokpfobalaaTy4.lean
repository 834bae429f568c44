/- Contracts: Plain, Encode. -/
import Derived.Test.YtffajokpfobalaaTyRow
namespace Go.Proofs.Ytffajokpfobalaa.Tv
open Go.RowKit Go.Proofs.Ty
set_option linter.unusedVariables false
set_option maxRecDepth 1000000

def Vl.setS (v : Vl) : Vl := ⟨v.t, v.n, ⟨#[]⟩, v.ht, v.hn, by decide⟩
def Vl.setN (v : Vl) (n : Nat) (h : n < 18446744073709551616) : Vl := ⟨v.t, n, v.s, v.ht, h, v.hs⟩
def Vl.setB (v : Vl) (s : ByteArray) (h : s.size ≤ maxLen) : Vl := ⟨v.t, v.n, s, v.ht, v.hn, h⟩
theorem Va.setN {q : Nat} {v : Vl} {w : World} (h : Va q v w) (n : Nat) (hn : n < 18446744073709551616) : Va q (v.setN n hn) (w.setCell ⟨q, 1, none⟩ (.int .u64 n)) := by unfold Va; rw [h.set]; rfl
theorem Va.setB {q : Nat} {v : Vl} {w : World} (h : Va q v w) (s : ByteArray) (hs : s.size ≤ maxLen) : Va q (v.setB s hs) (w.setCell ⟨q, 2, none⟩ (.string s)) := by unfold Va; rw [h.set]; rfl
theorem Vl.plain_num {v : Vl} (h : kind v.t = 1 ∨ kind v.t = 2) : v.plain = v.setB ⟨#[]⟩ (by decide) := by
  simp only [Vl.plain, Vl.setB, Vl.mk.injEq, true_and, plN, plS]
  exact ⟨if_neg (by omega), if_pos h⟩
theorem Vl.plain_txt {v : Vl} (h : kind v.t = 3 ∨ kind v.t = 4) : v.plain = v.setN 0 (by decide) := by
  simp only [Vl.plain, Vl.setN, Vl.mk.injEq, true_and, plN, plS]
  exact ⟨if_pos h, if_neg (by omega)⟩
theorem Vl.plain_none {v : Vl} (h : kind v.t = 0) : v.plain = v := by
  obtain ⟨t, n, s, h1, h2, h3⟩ := v
  have h : kind t = 0 := h
  simp only [Vl.plain, Vl.mk.injEq, true_and, plN, plS]
  exact ⟨if_neg (by omega), if_neg (by omega)⟩

end Go.Proofs.Ytffajokpfobalaa.Tv
