/- The law TypesOrder returns true whatever comes in. -/
import Derived.Test.YtoihcjokifjcgaaTyL
import Derived.Test.YtoihcjokifjcgaaTyLa
import Derived.Test.YtoihcjokifjcgaaTy12
import Derived.Test.YtoihcjokifjcgaaTy14
namespace Go.Proofs.Ytoihcjokifjcgaa
open Go.RowKit Go.Proofs.Ty
set_option linter.unusedVariables false
set_option maxRecDepth 1000000
theorem cmpI_back (x y : Int) : cmpI y x = - cmpI x y := by
  unfold cmpI
  (repeat' split) <;> omega
theorem cmpI_zero (x y : Int) : cmpI x y = 0 ↔ x = y := by
  unfold cmpI
  (repeat' split) <;> omega
theorem cmpI_on (x y z : Int) (h : cmpI x y = cmpI y z) : cmpI x z = cmpI x y := by
  unfold cmpI at *
  (repeat' split at h) <;> (repeat' split) <;> omega
theorem cmpI_range (x y : Int) : cmpI x y = -1 ∨ cmpI x y = 0 ∨ cmpI x y = 1 := by
  unfold cmpI
  (repeat' split) <;> omega
theorem lt_asymmL {x y : List UInt8} (h : x < y) : ¬ y < x := fun h2 => Std.lt_irrefl (Std.lt_trans h h2)
theorem lt_triL (x y : List UInt8) : x < y ∨ x = y ∨ y < x := by
  by_cases h1 : x < y
  · exact .inl h1
  · by_cases h2 : x = y
    · exact .inr (.inl h2)
    · exact .inr (.inr (Std.lt_of_le_of_ne (Std.not_lt.1 h1) (fun e => h2 e.symm)))
theorem cmpL_cases (x y : List UInt8) : (x < y ∧ cmpL x y = -1) ∨ (x = y ∧ cmpL x y = 0) ∨ (y < x ∧ cmpL x y = 1) := by
  unfold cmpL
  rcases lt_triL x y with h | h | h
  · exact .inl ⟨h, by rw [if_pos h]⟩
  · subst h
    exact .inr (.inl ⟨rfl, by rw [if_neg Std.lt_irrefl, if_neg Std.lt_irrefl]⟩)
  · exact .inr (.inr ⟨h, by rw [if_neg (lt_asymmL h), if_pos h]⟩)
theorem cmpL_back (x y : List UInt8) : cmpL y x = - cmpL x y := by
  rcases cmpL_cases x y with ⟨h, e⟩ | ⟨h, e⟩ | ⟨h, e⟩ <;> rcases cmpL_cases y x with ⟨g, f⟩ | ⟨g, f⟩ | ⟨g, f⟩ <;> rw [e, f] <;> first
    | rfl
    | exact absurd g (lt_asymmL h)
    | (subst h; exact absurd g Std.lt_irrefl)
    | (subst g; exact absurd h Std.lt_irrefl)
theorem cmpL_zero (x y : List UInt8) : cmpL x y = 0 ↔ x = y := by
  rcases cmpL_cases x y with ⟨h, e⟩ | ⟨h, e⟩ | ⟨h, e⟩
  · rw [e]
    exact ⟨fun h2 => by omega, fun h2 => by subst h2; exact absurd h Std.lt_irrefl⟩
  · exact ⟨fun _ => h, fun _ => e⟩
  · rw [e]
    exact ⟨fun h2 => by omega, fun h2 => by subst h2; exact absurd h Std.lt_irrefl⟩
theorem cmpL_on (x y z : List UInt8) (h : cmpL x y = cmpL y z) : cmpL x z = cmpL x y := by
  rcases cmpL_cases x y with ⟨h1, e⟩ | ⟨h1, e⟩ | ⟨h1, e⟩ <;> rcases cmpL_cases y z with ⟨g, f⟩ | ⟨g, f⟩ | ⟨g, f⟩ <;> rw [e, f] at h <;> first
    | omega
    | (rw [e]; unfold cmpL; rw [if_pos (Std.lt_trans h1 g)])
    | (subst h1; exact f.trans e.symm)
    | (rw [e]; unfold cmpL; rw [if_neg (lt_asymmL (Std.lt_trans g h1)), if_pos (Std.lt_trans g h1)])
theorem sgn_inj {n m : Nat} (hn : n < 18446744073709551616) (hm : m < 18446744073709551616) (h : sgnN n = sgnN m) : n = m := by
  unfold sgnN at h
  (repeat' split at h) <;> omega
theorem ordE_zero {a b : Vl} (h : ordE a b = 0) : a.chk = 0 ∧ b.chk = 0 ∧ a.t = b.t := by
  unfold ordE at h
  by_cases h1 : a.chk = 0
  · by_cases h2 : b.chk = 0
    · rw [if_neg (by omega), if_neg (by omega)] at h
      by_cases h3 : a.t = b.t
      · exact ⟨h1, h2, h3⟩
      · rw [if_pos h3] at h; omega
    · rw [if_neg (by omega), if_pos h2] at h; omega
  · rw [if_pos h1] at h; omega
theorem ordE_of {a b : Vl} (h1 : a.chk = 0) (h2 : b.chk = 0) (h3 : a.t = b.t) : ordE a b = 0 := by
  unfold ordE
  rw [if_neg (by omega), if_neg (by omega), if_neg (fun h => h h3)]
theorem ord_back {a b : Vl} (h : ordE a b = 0) : ordE b a = 0 ∧ ordN b a = - ordN a b := by
  obtain ⟨h1, h2, h3⟩ := ordE_zero h
  have h' := ordE_of h2 h1 h3.symm
  refine ⟨h', ?_⟩
  unfold ordN ordR
  rw [if_pos h, if_pos h', h3]
  split
  · exact cmpI_back _ _
  · split
    · exact cmpI_back _ _
    · exact cmpL_back _ _
theorem ord_zero {a b : Vl} (h : ordE a b = 0) : (ordN a b == 0) = vlB a.plain b.plain := by
  obtain ⟨h1, h2, h3⟩ := ordE_zero h
  have hk0 : kind a.t ≠ 0 := by
    intro e
    have : a.chk = 1 := by unfold Vl.chk chk; simp [e]
    omega
  have hk4 := kind_le a.t
  unfold ordN
  rw [if_pos h, Bool.eq_iff_iff, vlB_iff, beq_iff_eq]
  unfold ordR
  by_cases hk : kind a.t = 1 ∨ kind a.t = 2
  · rw [Vl.plain_num hk, Vl.plain_num (v := b) (by rw [← h3]; exact hk)]
    have e : (a.setB ⟨#[]⟩ (by decide) = b.setB ⟨#[]⟩ (by decide)) ↔ a.n = b.n := by
      simp [Vl.setB, h3]
    rw [e]
    rcases hk with hk | hk
    · rw [if_pos hk, cmpI_zero]
      omega
    · rw [if_neg (by omega), if_pos hk, cmpI_zero]
      exact ⟨fun h => sgn_inj a.hn b.hn h, fun h => by rw [h]⟩
  · have hk3 : kind a.t = 3 ∨ kind a.t = 4 := by omega
    rw [if_neg (by omega), if_neg (by omega), cmpL_zero, Vl.plain_txt hk3, Vl.plain_txt (v := b) (by rw [← h3]; exact hk3)]
    have e : (a.setN 0 (by decide) = b.setN 0 (by decide)) ↔ a.s = b.s := by
      simp [Vl.setN, h3]
    rw [e]
    constructor
    · intro h
      cases ha : a.s; cases hb : b.s
      rw [ha, hb] at h
      simp only [ByteArray.mk.injEq]
      exact Array.toList_inj.1 h
    · intro h; rw [h]
theorem ord_on {a b c : Vl} (h : ordE a b = 0) (g : ordE b c = 0) : ordE a c = 0 ∧ (ordN a b = ordN b c → ordN a c = ordN a b) := by
  obtain ⟨h1, h2, h3⟩ := ordE_zero h
  obtain ⟨g1, g2, g3⟩ := ordE_zero g
  have hg := ordE_of h1 g2 (h3.trans g3)
  refine ⟨hg, ?_⟩
  unfold ordN ordR
  rw [if_pos h, if_pos hg, if_pos g, h3]
  split
  · exact cmpI_on _ _ _
  · split
    · exact cmpI_on _ _ _
    · exact cmpL_on _ _ _
theorem ord_range (a b : Vl) : ordN a b = -1 ∨ ordN a b = 0 ∨ ordN a b = 1 := by
  unfold ordN ordR
  split
  · split
    · exact cmpI_range _ _
    · split
      · exact cmpI_range _ _
      · rcases cmpL_cases a.s.data.toList b.s.data.toList with ⟨_, e⟩ | ⟨_, e⟩ | ⟨_, e⟩ <;> rw [e] <;> simp
  · exact .inr (.inl rfl)
end Go.Proofs.Ytoihcjokifjcgaa
