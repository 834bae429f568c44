/- A teller's calls, whatever its rows. -/
import Derived.Test.YtlkocebgkmdeoaaEmP
namespace Go.Proofs.Ytlkocebgkmdeoaa
open Go.RowKit
set_option linter.unusedVariables false
set_option maxRecDepth 1000000
set_option linter.unusedSimpArgs false
/-- What Frame tells. -/
def Te.fa (s : Te) : Array Value := if s.may then (match s.waits with | f :: _ => f.far | [] => z8) else z8
section
variable {g : Nat} {P : Nat → Prop} {s : Te} {w x y : World}
theorem Pt.lt (h : Pt g P s w) : g < w.heap.size := by
  obtain ⟨_, _, _, h⟩ := h
  exact h.blk.lt
theorem raiseP (h : Pt g P s w) (hP : ∀ k, w.heap.size ≤ k → P k) (hl : (s.now.length + 1) * 8 ≤ 140737488355328) (hf : s.Fit) (x : Tr) :
    Calls Try.prog 9 #[.pointer (some ⟨g, 0, none⟩), .agg x.arr] w fun e w' => e = .returned (.bool (s.can x)) ∧ Pt g P (s.raise x) w' ∧ Kq P w w' := by
  obtain ⟨_, _, _, h⟩ := h
  exact raise_any h hP hl hf x
theorem clearP (h : Pt g P s w) (hP : ∀ k, w.heap.size ≤ k → P k) (hl : s.now.length ≤ 2305843009213693951) (c : Nat) :
    Calls Try.prog 11 #[.pointer (some ⟨g, 0, none⟩), .int .u16 c] w fun e w' => e = .returned (.bool (s.there c)) ∧ Pt g P (s.clear c) w' ∧ Kq P w w' := by
  obtain ⟨_, _, _, h⟩ := h
  exact clear_any h hP hl c
theorem tickP (h : Pt g P s w) : Calls Try.prog 13 #[.pointer (some ⟨g, 0, none⟩)] w fun e w' => e = .returned (.bool s.tick.may) ∧ Pt g P s.tick w' ∧ Kq P w w' := by
  obtain ⟨_, _, _, h⟩ := h
  exact (tick_any h).mono fun e w' ⟨h1, h2, h3⟩ => ⟨h1, ⟨_, _, _, h2⟩, h3⟩
theorem frameP (h : Pt g P s w) (hP : ∀ k, w.heap.size ≤ k → P k) : Calls Try.prog 15 #[.pointer (some ⟨g, 0, none⟩)] w fun e w' => e = .returned (.tuple #[.agg s.fa, .bool s.may]) ∧ Pt g P s.frame w' ∧ Kq P w w' := by
  obtain ⟨_, _, _, h⟩ := h
  cases hm : s.may with
  | false =>
    have e1 : s.fa = z8 := by unfold Te.fa; rw [hm]; rfl
    have e2 : s.frame = s := by unfold Te.frame; rw [hm]; rfl
    rw [e1, e2]
    exact (frame_no h hm).mono fun e w' ⟨h1, h2⟩ => ⟨h1, ⟨_, _, _, h.below h2⟩, .of_below h2⟩
  | true =>
    obtain ⟨f, r, hfr, hc⟩ := frame_yes h hP hm
    have e1 : s.fa = f.far := by unfold Te.fa; rw [hm, hfr]; rfl
    have e2 : s.frame = s.out := by unfold Te.frame; rw [hm]; rfl
    rw [e1, e2]
    exact hc
theorem forgetP (h : Pt g P s w) : Calls Try.prog 17 #[.pointer (some ⟨g, 0, none⟩)] w fun e w' => e = .returned (.tuple #[]) ∧ Pt g P s.forget w' ∧ Kq P w w' := by
  obtain ⟨_, _, _, h⟩ := h
  exact forget_any h
theorem regP (h : Pt g P s w) (hl : s.now.length ≤ 2305843009213693951) : Calls Try.prog 18 #[.pointer (some ⟨g, 0, none⟩)] w fun e w' => e = .returned (.int .u8 (reg s.now)) ∧ Below w.heap.size w w' := by
  obtain ⟨_, _, _, h⟩ := h
  exact reg_any h hl
theorem histP (h : Pt g P s w) : Calls Try.prog 21 #[.pointer (some ⟨g, 0, none⟩)] w fun e w' => ∃ ao c, e = .returned (.slice ao s.past.length c) ∧ Wide 7 Tr.cs w' (.slice ao s.past.length c) s.past ∧ Below w.heap.size w w' := by
  obtain ⟨_, _, _, h⟩ := h
  refine (hist_any h).mono ?_
  rintro e w' ⟨x, rfl, r1, b1⟩
  obtain ⟨ao, c, rfl⟩ := own_shape5 r1
  exact ⟨ao, c, rfl, wide_of_own DT r1, b1⟩
theorem nowP (h : Pt g P s w) (hl : s.now.length * 8 ≤ 140737488355328) : Calls Try.prog 22 #[.pointer (some ⟨g, 0, none⟩)] w fun e w' => ∃ ao c, e = .returned (.slice ao s.now.length c) ∧ Wide 7 Tr.cs w' (.slice ao s.now.length c) s.now ∧ Below w.heap.size w w' := by
  obtain ⟨_, _, _, h⟩ := h
  refine (now_any h hl).mono ?_
  rintro e w' ⟨x, rfl, r1, b1⟩
  obtain ⟨ao, c, rfl⟩ := own_shape5 r1
  exact ⟨ao, c, rfl, wide_of_own DT r1, b1⟩
theorem newP (h i : Nat) (h1 : 1 ≤ h) (h2 : h ≤ 254) (h3 : i ≤ 4294967296) (w : World) (P : Nat → Prop) (hP : P w.heap.size) : Calls Try.prog 7 #[.int .i64 h, .int .u64 i] w fun e w' => e = .returned (.tuple #[.pointer (some ⟨w.heap.size, 0, none⟩), .int .i64 0]) ∧ Pt w.heap.size P ⟨h, i, [], [], [], 0⟩ w' ∧ Below w.heap.size w w' :=
  (new_ok h i h1 h2 h3 w P hP).mono fun e w' ⟨h1, h2, h3⟩ => ⟨h1, ⟨_, _, _, h2⟩, h3⟩
theorem Pt.ok (h : Pt g P s w) : s.Ok := by
  obtain ⟨_, _, _, h⟩ := h
  exact h.ok
end
/-- How many errors there are. -/
theorem Te.raise_len (s : Te) (x : Tr) : (s.raise x).now.length ≤ s.now.length + 1 := by
  unfold Te.raise
  split
  · simp [Te.rs]
  · omega
theorem Te.clear_len (s : Te) (c : Nat) : (s.clear c).now.length ≤ s.now.length := by
  unfold Te.clear
  split
  · simp [Te.cl, List.length_eraseIdx]; split <;> omega
  · omega
end Go.Proofs.Ytlkocebgkmdeoaa
