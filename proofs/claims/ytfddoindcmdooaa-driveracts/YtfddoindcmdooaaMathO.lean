/- Plain facts on texts in their order: the least one, texts that are there twice. -/
import Derived.Test.YtfddoindcmdooaaMathN
namespace Go.Proofs.Bits

/-- The place of the least of the first k texts: the first one, if there are several. -/
def best (T : List (List UInt8)) : Nat → Nat
  | 0 => 0
  | k + 1 => if T.getD k [] < T.getD (best T k) [] then k else best T k
theorem best_lt (T : List (List UInt8)) (k : Nat) (hk : 0 < k) : best T k < k := by
  induction k with
  | zero => omega
  | succ k ih =>
    rw [best]
    split
    · omega
    · rcases Nat.eq_zero_or_pos k with h | h
      · subst h; simp [best]
      · have := ih h; omega
theorem best_le (T : List (List UInt8)) (k : Nat) : best T k ≤ k := by
  rcases Nat.eq_zero_or_pos k with h | h
  · subst h; simp [best]
  · exact Nat.le_of_lt (best_lt T k h)
theorem best_least (T : List (List UInt8)) (k j : Nat) (hj : j < k) : T.getD (best T k) [] ≤ T.getD j [] := by
  induction k with
  | zero => omega
  | succ k ih =>
    rw [best]
    by_cases h : T.getD k [] < T.getD (best T k) []
    · rw [if_pos h]
      rcases Nat.lt_or_ge j k with h1 | h1
      · exact Std.le_trans (Std.le_of_lt h) (ih h1)
      · have : j = k := by omega
        rw [this]; exact Std.le_refl _
    · rw [if_neg h]
      rcases Nat.lt_or_ge j k with h1 | h1
      · exact ih h1
      · have : j = k := by omega
        rw [this]; exact Std.not_lt.1 h
/-- Texts gathered, each once. -/
def addU (acc : List (List UInt8)) (x : List UInt8) : List (List UInt8) := if acc.contains x then acc else acc ++ [x]
theorem addU_nodup (l acc : List (List UInt8)) (h : (acc ++ l).Nodup) : l.foldl addU acc = acc ++ l := by
  induction l generalizing acc with
  | nil => simp
  | cons x r ih =>
    rw [List.foldl_cons]
    have hx : ¬ x ∈ acc := by
      intro hx
      rw [List.nodup_append] at h
      exact h.2.2 x hx x (by simp) rfl
    have e : addU acc x = acc ++ [x] := by unfold addU; rw [if_neg (by simpa using hx)]
    rw [e, ih (acc ++ [x]) (by simpa using h)]
    simp
theorem addU_le (l acc : List (List UInt8)) : (l.foldl addU acc).length ≤ acc.length + l.length := by
  induction l generalizing acc with
  | nil => simp
  | cons x r ih =>
    rw [List.foldl_cons]
    have := ih (addU acc x)
    have h2 : (addU acc x).length ≤ acc.length + 1 := by unfold addU; split <;> simp
    simp; omega
theorem addU_dup (l acc : List (List UInt8)) (ha : acc.Nodup) (h : ¬ (acc ++ l).Nodup) : (l.foldl addU acc).length < acc.length + l.length := by
  induction l generalizing acc with
  | nil => simp at h; exact absurd ha h
  | cons x r ih =>
    rw [List.foldl_cons]
    by_cases hx : x ∈ acc
    · have e : addU acc x = acc := by unfold addU; rw [if_pos (by simpa using hx)]
      rw [e]
      have := addU_le r acc
      simp; omega
    · have e : addU acc x = acc ++ [x] := by unfold addU; rw [if_neg (by simpa using hx)]
      rw [e]
      have hn : (acc ++ [x]).Nodup := by
        rw [List.nodup_append]
        exact ⟨ha, by simp, fun a h1 b h2 e => hx (by simp at h2; rw [← h2, ← e]; exact h1)⟩
      have := ih (acc ++ [x]) hn (by simpa using h)
      simp at this ⊢; omega
theorem addU_twice (l : List (List UInt8)) : decide ((l.foldl addU []).length < l.length) = !decide l.Nodup := by
  by_cases h : l.Nodup
  · rw [addU_nodup l [] (by simpa using h)]; simp [h]
  · have := addU_dup l [] List.nodup_nil (by simpa using h)
    simp at this
    simp [h, this]
theorem nodup_at {l : List (List UInt8)} (h : l.Nodup) {i j : Nat} (hi : i < l.length) (hj : j < l.length) (e : l.getD i [] = l.getD j []) : i = j := by
  rw [List.getD, List.getD, List.getElem?_eq_getElem hi, List.getElem?_eq_getElem hj] at e
  exact (List.getElem_inj h).1 (by simpa using e)
theorem getD_at {l : List (List UInt8)} {i : Nat} (hi : i < l.length) : l.getD i [] = l[i] := by
  rw [List.getD, List.getElem?_eq_getElem hi]; rfl
end Go.Proofs.Bits
