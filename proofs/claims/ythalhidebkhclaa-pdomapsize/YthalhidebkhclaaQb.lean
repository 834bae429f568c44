/- Bytes cut out of bytes. -/
import Derived.Test.YthalhidebkhclaaOw
namespace Go.Proofs.Ythalhidebkhclaa
open Go.RowKit Go.Proofs.Ty Go.Sort Go.Lib
set_option linter.unusedVariables false
set_option maxRecDepth 1000000
set_option linter.unusedSimpArgs false
/-- A slice that has room for what it holds. -/
def Cp (v : Value) : Prop := ∀ ao n c, v = .slice ao n c → n ≤ c
theorem own_cp {w : World} {B : Nat} {e : TypeId} {c n : Nat} {v : Value} {xs : List Value} (h : w.ownsRow B e c v n xs) : Cp v := by
  rintro ao m k rfl
  rcases h.2 with ⟨h1, h2⟩ | ⟨g, cap, cur, h1, _, _, h2, _⟩
  · injection h1 with e1 e2 e3; omega
  · injection h1 with e1 e2 e3; omega
/-- Where a part of bytes begins. -/
def adB (a : Addr) (lo cap : Nat) : Addr := if cap = lo then a else if lo = 0 then a else ⟨a.block, a.off + lo, none⟩
theorem bytes_part {x : World} {a : Addr} {cap : Nat} {l : List UInt8} (hx : Bytes x (.slice (some a) l.length cap) l) (lo hi : Nat) (h1 : lo ≤ hi) (h2 : hi ≤ l.length) (hc : l.length ≤ cap) (c2 : Nat) : Bytes x (.slice (some (adB a lo cap)) (hi - lo) c2) ((l.drop lo).take (hi - lo)) := by
  obtain ⟨ao', cap', hv, h0, hcell⟩ := hx
  injection hv with e1 _ e3
  subst e1 e3
  have hlen : ((l.drop lo).take (hi - lo)).length = hi - lo := by rw [List.length_take, List.length_drop]; omega
  refine ⟨_, _, by rw [hlen], (fun h => by cases h), fun j hj => ?_⟩
  rw [hlen] at hj
  obtain ⟨b, off, e, hlt, hr⟩ := hcell (lo + j) (by omega)
  injection e with e
  subst e
  unfold adB
  rw [if_neg (by omega)]
  by_cases hk0 : lo = 0
  · rw [if_pos hk0]
    subst hk0
    refine ⟨b, off, rfl, hlt, ?_⟩
    simp only [Nat.zero_add] at hr
    simp only [List.getElem_take, List.getElem_drop, Nat.zero_add]
    exact hr
  · rw [if_neg hk0]
    refine ⟨b, off + lo, rfl, hlt, ?_⟩
    simp only [List.getElem_take, List.getElem_drop]
    rw [show off + lo + j = off + (lo + j) by omega]
    exact hr
section
variable {w : World} {v : Value} {l : List UInt8}
theorem bslice_nil (h : Bytes w v l) (hao : ∃ cap, v = .slice none l.length cap) : l = [] ∧ v = .slice none 0 0 := by
  obtain ⟨cap, rfl⟩ := hao
  obtain ⟨ao', cap', hv, h0, _⟩ := h
  injection hv with e1 _ e3
  obtain ⟨rfl, rfl⟩ := h0 e1.symm
  subst e3
  exact ⟨rfl, rfl⟩
theorem bslice_lh (h : Bytes w v l) (hc : Cp v) (lo hi : Nat) (h1 : lo ≤ hi) (h2 : hi ≤ l.length) : ∃ a c, (∀ W, (Instr.sliceAt 24 v (some (.int .i64 lo)) (some (.int .i64 hi)) none).run Try.prog W = .ok (.slice a (hi - lo) c) W) ∧ (∀ x, Bytes x v l → Bytes x (.slice a (hi - lo) c) ((l.drop lo).take (hi - lo))) ∧ Cp (.slice a (hi - lo) c) := by
  obtain ⟨i0, hi0, hz0, hz1, hz2⟩ := info_parts info5
  obtain ⟨ao, cap, rfl⟩ : ∃ ao cap, v = .slice ao l.length cap := by obtain ⟨ao, cap, h, _⟩ := h; exact ⟨ao, cap, h⟩
  have hcap := hc _ _ _ rfl
  have a0 : (0 : Int) ≤ (lo : Int) := by omega
  have a1 : (lo : Int) ≤ (hi : Int) := by omega
  have a2 : (hi : Int) ≤ (cap : Int) := by omega
  cases ao with
  | none =>
    obtain ⟨rfl, hv⟩ := bslice_nil h ⟨_, rfl⟩
    injection hv with _ _ e3
    subst e3
    obtain rfl : hi = 0 := by simpa using h2
    obtain rfl : lo = 0 := by omega
    refine ⟨none, 0, fun W => ?_, fun x hx => by simpa using hx, fun _ _ _ e => by injection e; omega⟩
    simp [Instr.sliceAt, run_underlying Try.underlying24, go_sem, sizeOf, typeInfo, hi0, hz1, Addr.add]
  | some a =>
    refine ⟨some (adB a lo cap), cap - lo, fun W => ?_, fun x hx => bytes_part hx lo hi h1 h2 hcap _, fun _ _ _ e => by injection e; omega⟩
    simp [Instr.sliceAt, run_underlying Try.underlying24, go_sem, sizeOf, typeInfo, hi0, hz1, Addr.add, a0, a1, a2, adB]
    try (split <;> rfl)
theorem bslice_l (h : Bytes w v l) (hc : Cp v) (lo : Nat) (h1 : lo ≤ l.length) : ∃ a c, (∀ W, (Instr.sliceAt 24 v (some (.int .i64 lo)) none none).run Try.prog W = .ok (.slice a (l.length - lo) c) W) ∧ (∀ x, Bytes x v l → Bytes x (.slice a (l.length - lo) c) (l.drop lo)) ∧ Cp (.slice a (l.length - lo) c) := by
  obtain ⟨i0, hi0, hz0, hz1, hz2⟩ := info_parts info5
  obtain ⟨ao, cap, rfl⟩ : ∃ ao cap, v = .slice ao l.length cap := by obtain ⟨ao, cap, h, _⟩ := h; exact ⟨ao, cap, h⟩
  have hcap := hc _ _ _ rfl
  have a0 : (0 : Int) ≤ (lo : Int) := by omega
  have a1 : (lo : Int) ≤ (l.length : Int) := by omega
  have a2 : (l.length : Int) ≤ (cap : Int) := by omega
  cases ao with
  | none =>
    obtain ⟨rfl, hv⟩ := bslice_nil h ⟨_, rfl⟩
    injection hv with _ _ e3
    subst e3
    obtain rfl : lo = 0 := by simpa using h1
    refine ⟨none, 0, fun W => ?_, fun x hx => by simpa using hx, fun _ _ _ e => by injection e; omega⟩
    simp [Instr.sliceAt, run_underlying Try.underlying24, go_sem, sizeOf, typeInfo, hi0, hz1, Addr.add]
  | some a =>
    refine ⟨some (adB a lo cap), cap - lo, fun W => ?_, fun x hx => ?_, fun _ _ _ e => by injection e; omega⟩
    · simp [Instr.sliceAt, run_underlying Try.underlying24, go_sem, sizeOf, typeInfo, hi0, hz1, Addr.add, a0, a1, a2, adB]
      try (split <;> rfl)
    · have := bytes_part hx lo l.length h1 (Nat.le_refl _) hcap (cap - lo)
      rw [List.take_of_length_le (by rw [List.length_drop]; omega)] at this
      exact this
theorem bslice_h (h : Bytes w v l) (hc : Cp v) (kd : IntKind) (hi : Nat) (h2 : hi ≤ l.length) : ∃ a c, (∀ W, (Instr.sliceAt 24 v none (some (.int kd hi)) none).run Try.prog W = .ok (.slice a hi c) W) ∧ (∀ x, Bytes x v l → Bytes x (.slice a hi c) (l.take hi)) ∧ Cp (.slice a hi c) := by
  obtain ⟨i0, hi0, hz0, hz1, hz2⟩ := info_parts info5
  obtain ⟨ao, cap, rfl⟩ : ∃ ao cap, v = .slice ao l.length cap := by obtain ⟨ao, cap, h, _⟩ := h; exact ⟨ao, cap, h⟩
  have hcap := hc _ _ _ rfl
  have a0 : (0 : Int) ≤ (hi : Int) := by omega
  have a2 : (hi : Int) ≤ (cap : Int) := by omega
  cases ao with
  | none =>
    obtain ⟨rfl, hv⟩ := bslice_nil h ⟨_, rfl⟩
    injection hv with _ _ e3
    subst e3
    obtain rfl : hi = 0 := by simpa using h2
    refine ⟨none, 0, fun W => ?_, fun x hx => by simpa using hx, fun _ _ _ e => by injection e; omega⟩
    simp [Instr.sliceAt, run_underlying Try.underlying24, go_sem, sizeOf, typeInfo, hi0, hz1, Addr.add]
  | some a =>
    refine ⟨some (adB a 0 cap), cap, fun W => ?_, fun x hx => ?_, fun _ _ _ e => by injection e; omega⟩
    · simp [Instr.sliceAt, run_underlying Try.underlying24, go_sem, sizeOf, typeInfo, hi0, hz1, Addr.add, a0, a2, adB]
    · have := bytes_part hx 0 hi (Nat.zero_le _) h2 hcap cap
      simpa using this
end
end Go.Proofs.Ythalhidebkhclaa
