/- Contracts of the document's own unit: Reset, Sent, Received, Failed, Erred, Idle. -/
import Derived.Test.YtajoganfpppimaaUnit2
namespace Go.Proofs.Ytajoganfpppimaa
open Go.RowKit
set_option linter.unusedVariables false
set_option maxRecDepth 1000000

section
variable {g : Nat} {u : Un} {w : World}
/-- Four cells of the document's unit. -/
def Dc (g : Nat) (s r : Nat) (o : Bool) (k : Nat) (w : World) : Prop := w.heap[g]? = some (.cells #[.int .i64 s, .int .i64 r, .bool o, .int .i64 k] 27 (0, 0))
theorem Dc.set0 {s r k : Nat} {o : Bool} (h : Dc g s r o k w) (v : Nat) : Dc g v r o k (w.setCell ⟨g, 0, none⟩ (.int .i64 v)) := by
  unfold Dc at *; simp [World.setCell, Array.getElem?_modify, h]
theorem Dc.set1 {s r k : Nat} {o : Bool} (h : Dc g s r o k w) (v : Nat) : Dc g s v o k (w.setCell ⟨g, 1, none⟩ (.int .i64 v)) := by
  unfold Dc at *; simp [World.setCell, Array.getElem?_modify, h]
theorem Dc.set2 {s r k : Nat} {o : Bool} (h : Dc g s r o k w) (v : Bool) : Dc g s r v k (w.setCell ⟨g, 2, none⟩ (.bool v)) := by
  unfold Dc at *; simp [World.setCell, Array.getElem?_modify, h]
theorem Dc.set3 {s r k : Nat} {o : Bool} (h : Dc g s r o k w) (v : Nat) : Dc g s r o v (w.setCell ⟨g, 3, none⟩ (.int .i64 v)) := by
  unfold Dc at *; simp [World.setCell, Array.getElem?_modify, h]
theorem Da.dc (h : Da g u w) : Dc g u.s u.r u.off u.k w := h
theorem Dc.da {s r k : Nat} {o : Bool} (h : Dc g s r o k w) (ho : o = decide (255 < s)) : Da g ⟨s, r, k⟩ w := by subst ho; exact h
theorem Da.new (w : World) : Da w.heap.size Un.nul (w.alloc (.cells #[.int .i64 0, .int .i64 0, .bool false, .int .i64 0] 27)) := heap_alloc_new w _

theorem dreset_any (h : Da g u w) : Calls Try.prog 27 #[.pointer (some ⟨g, 0, none⟩)] w fun e w' => e = .returned (.tuple #[]) ∧ Da g Un.nul w' ∧ Two g g w w' := by
  obtain ⟨c0, c1, c2, c3, hf⟩ := h.cells
  have f0 := hf 0
  have f1 := hf 1
  have f2 := hf 2
  have f3 := hf 3
  have HH : Hid (Da g Un.nul ((((w.setCell ⟨g, 0, none⟩ (.int .i64 0)).setCell ⟨g, 1, none⟩ (.int .i64 0)).setCell ⟨g, 2, none⟩ (.bool false)).setCell ⟨g, 3, none⟩ (.int .i64 0))) :=
    ((((h.dc.set0 0).set1 0).set2 false).set3 0).da rfl
  go_enter Try.func27, Try.ntmps27
  go_wp2
  go_end0
  exact ⟨rfl, HH.out, ((((Two.refl _ _ _).at0 _ _).at0 _ _).at0 _ _).at0 _ _⟩
theorem dsent_any (hk : u.ok) (h : Da g u w) : Calls Try.prog 20 #[.pointer (some ⟨g, 0, none⟩)] w fun e w' => e = .returned (.tuple #[]) ∧ Da g u.sent w' ∧ Two g g w w' := by
  obtain ⟨c0, c1, c2, c3, hf⟩ := h.cells
  have f0 := hf 0
  obtain ⟨k1, k2, k3⟩ := hk
  unfold Un.off at c2
  by_cases h1 : 255 < u.s
  · rw [show decide (255 < u.s) = true by simpa using h1] at c2
    have HU : Hid (u.sent = u) := by show _ = _; unfold Un.sent; rw [if_pos h1]
    generalize u.sent = U at *
    clear h1
    go_enter Try.func20, Try.ntmps20
    go_wp2
    go_end0
    exact ⟨rfl, by rw [HU.out]; exact h, Two.refl _ _ _⟩
  · rw [show decide (255 < u.s) = false by simpa using h1] at c2
    by_cases h2 : 0 < u.s
    · have HH : Hid (∀ z : Int, z = ((u.s - 1 : Nat) : Int) → Da g u.sent (w.setCell ⟨g, 0, none⟩ (.int .i64 z))) := by
        intro z hz
        unfold Un.sent
        rw [hz, if_neg h1]
        exact (h.dc.set0 _).da (by unfold Un.off; simp; omega)
      generalize u.sent = U at *
      have hd : decide ((0 : Int) < (u.s : Int)) = true := by simp; omega
      clear h1 h
      go_enter Try.func20, Try.ntmps20
      go_wp2
      go_end0
      exact ⟨rfl, HH.out _ (by omega), (Two.refl _ _ _).at0 _ _⟩
    · have HU : Hid (u.sent = u) := by
        show _ = _
        unfold Un.sent
        rw [if_neg h1]
        have : u.s - 1 = u.s := by omega
        rw [this]
      generalize u.sent = U at *
      have hd : decide ((0 : Int) < (u.s : Int)) = false := by simp; omega
      clear h1
      go_enter Try.func20, Try.ntmps20
      go_wp2
      go_end0
      exact ⟨rfl, by rw [HU.out]; exact h, Two.refl _ _ _⟩
theorem drecv_any (hk : u.ok) (h : Da g u w) : Calls Try.prog 22 #[.pointer (some ⟨g, 0, none⟩)] w fun e w' => e = .returned (.tuple #[]) ∧ Da g u.recv w' ∧ Two g g w w' := by
  obtain ⟨c0, c1, c2, c3, hf⟩ := h.cells
  have f1 := hf 1
  obtain ⟨k1, k2, k3⟩ := hk
  unfold Un.off at c2
  by_cases h1 : 255 < u.s
  · rw [show decide (255 < u.s) = true by simpa using h1] at c2
    have HU : Hid (u.recv = u) := by show _ = _; unfold Un.recv; rw [if_pos h1]
    generalize u.recv = U at *
    clear h1
    go_enter Try.func22, Try.ntmps22
    go_wp2
    refine bodyPost_ret (results_none rfl _ _ _) rfl ?_
    exact ⟨rfl, by rw [HU.out]; exact h, Two.refl _ _ _⟩
  · rw [show decide (255 < u.s) = false by simpa using h1] at c2
    by_cases h3 : 127 < u.r
    · have HH : Hid (Da g u.recv (w.setCell ⟨g, 1, none⟩ (.int .i64 120))) := by
        unfold Un.recv
        rw [if_neg h1, if_pos h3]
        exact (h.dc.set1 120).da rfl
      generalize u.recv = U at *
      have hd : decide ((127 : Int) < (u.r : Int)) = true := by simp; omega
      clear h1 h
      go_enter Try.func22, Try.ntmps22
      go_wp2
      go_end0
      exact ⟨rfl, HH.out, (Two.refl _ _ _).at0 _ _⟩
    · have hd : decide ((127 : Int) < (u.r : Int)) = false := by simp; omega
      by_cases h2 : 0 < u.r
      · have HH : Hid (∀ z : Int, z = ((u.r - 1 : Nat) : Int) → Da g u.recv (w.setCell ⟨g, 1, none⟩ (.int .i64 z))) := by
          intro z hz
          unfold Un.recv
          rw [hz, if_neg h1, if_neg h3]
          exact (h.dc.set1 _).da rfl
        generalize u.recv = U at *
        have hd2 : decide ((0 : Int) < (u.r : Int)) = true := by simp; omega
        clear h1 h
        go_enter Try.func22, Try.ntmps22
        go_wp2
        go_end0
        exact ⟨rfl, HH.out _ (by omega), (Two.refl _ _ _).at0 _ _⟩
      · have HU : Hid (u.recv = u) := by
          show _ = _
          unfold Un.recv
          rw [if_neg h1, if_neg (by omega)]
          have : u.r - 1 = u.r := by omega
          rw [this]
        generalize u.recv = U at *
        have hd2 : decide ((0 : Int) < (u.r : Int)) = false := by simp; omega
        clear h1
        go_enter Try.func22, Try.ntmps22
        go_wp2
        go_end0
        exact ⟨rfl, by rw [HU.out]; exact h, Two.refl _ _ _⟩
theorem dfail_any (q : Bool) (hk : u.ok) (h : Da g u w) : Calls Try.prog 23 #[.pointer (some ⟨g, 0, none⟩), .bool q] w fun e w' => e = .returned (.tuple #[]) ∧ Da g (u.fail q) w' ∧ Two g g w w' := by
  have HS := dstate_any h
  obtain ⟨c0, c1, c2, c3, hf⟩ := h.cells
  have f0 := hf 0
  have f2 := hf 2
  have f3 := hf 3
  obtain ⟨k1, k2, k3⟩ := hk
  unfold Un.off at c2
  by_cases h1 : 255 < u.s
  · rw [show decide (255 < u.s) = true by simpa using h1] at c2
    have HU : Hid (u.fail q = u) := by show _ = _; unfold Un.fail; rw [if_pos h1]
    generalize u.fail q = U at *
    clear h1
    go_enter Try.func23, Try.ntmps23
    go_wp2
    refine bodyPost_ret (results_none rfl _ _ _) rfl ?_
    exact ⟨rfl, by rw [HU.out]; exact h, Two.refl _ _ _⟩
  · rw [show decide (255 < u.s) = false by simpa using h1] at c2
    unfold Un.state at HS
    rw [if_neg h1] at HS
    by_cases h2 : q = true ∧ (127 < u.s ∨ 127 < u.r)
    · have HU : Hid (u.fail q = u) := by show _ = _; unfold Un.fail; rw [if_neg h1, if_pos h2]
      rw [if_pos h2.2] at HS
      obtain rfl := h2.1
      generalize u.fail true = U at *
      clear h1 h2
      go_enter Try.func23, Try.ntmps23
      go_wp2_with (first | (go_at_call 12; refine HS.mono ?_; rintro e w' ⟨rfl, rfl⟩))
      refine bodyPost_ret (results_none rfl _ _ _) rfl ?_
      exact ⟨rfl, by rw [HU.out]; exact h, Two.refl _ _ _⟩
    · by_cases h3 : 247 < u.s
      · have HH : Hid (∀ z : Int, z = ((u.s + 8 : Nat) : Int) → Da g (u.fail q) ((((w.setCell ⟨g, 0, none⟩ (.int .i64 z)).setCell ⟨g, 2, none⟩ (.bool true)).setCell ⟨g, 0, none⟩ (.int .i64 256)).setCell ⟨g, 3, none⟩ (.int .i64 0))) := by
          intro z hz
          unfold Un.fail
          rw [hz, if_neg h1, if_neg h2, if_pos h3]
          exact ((((h.dc.set0 _).set2 true).set0 256).set3 0).da rfl
        have hd : decide ((255 : Int) < (u.s : Int) + 8) = true := by simp; omega
        obtain rfl : q = false := by cases q <;> simp_all; omega
        clear h1 h2 h HS
        go_enter Try.func23, Try.ntmps23
        go_wp2
        go_end0
        exact ⟨rfl, HH.out _ (by omega), ((((Two.refl _ _ _).at0 _ _).at0 _ _).at0 _ _).at0 _ _⟩
      · have HH : Hid (∀ z : Int, z = ((u.s + 8 : Nat) : Int) → Da g (u.fail q) (w.setCell ⟨g, 0, none⟩ (.int .i64 z))) := by
          intro z hz
          unfold Un.fail
          rw [hz, if_neg h1, if_neg h2, if_neg h3]
          exact (h.dc.set0 _).da (by unfold Un.off; simp; omega)
        have hd : decide ((255 : Int) < (u.s : Int) + 8) = false := by simp; omega
        cases q
        · clear h1 h2 h HS
          go_enter Try.func23, Try.ntmps23
          go_wp2
          go_end0
          exact ⟨rfl, HH.out _ (by omega), (Two.refl _ _ _).at0 _ _⟩
        · rw [if_neg (fun hh => h2 ⟨rfl, hh⟩)] at HS
          clear h1 h2 h
          go_enter Try.func23, Try.ntmps23
          go_wp2_with (first | (go_at_call 12; refine HS.mono ?_; rintro e w' ⟨rfl, rfl⟩))
          go_end0
          exact ⟨rfl, HH.out _ (by omega), (Two.refl _ _ _).at0 _ _⟩
theorem derr_any (l : Bool) (hk : u.ok) (h : Da g u w) : Calls Try.prog 25 #[.pointer (some ⟨g, 0, none⟩), .bool l] w fun e w' => e = .returned (.tuple #[]) ∧ Da g (u.err l) w' ∧ Two g g w w' := by
  obtain ⟨c0, c1, c2, c3, hf⟩ := h.cells
  have f1 := hf 1
  obtain ⟨k1, k2, k3⟩ := hk
  unfold Un.off at c2
  by_cases h1 : 255 < u.s
  · rw [show decide (255 < u.s) = true by simpa using h1] at c2
    have HU : Hid (u.err l = u) := by show _ = _; unfold Un.err; rw [if_pos h1]
    generalize u.err l = U at *
    clear h1
    go_enter Try.func25, Try.ntmps25
    go_wp2
    refine bodyPost_ret (results_none rfl _ _ _) rfl ?_
    exact ⟨rfl, by rw [HU.out]; exact h, Two.refl _ _ _⟩
  · rw [show decide (255 < u.s) = false by simpa using h1] at c2
    have HU : Hid (u.err l = ⟨u.s, min (u.r + if l then 8 else 1) 255, u.k⟩) := by show _ = _; unfold Un.err; rw [if_neg h1]
    cases l
    · have H1 : Hid (∀ z : Int, z = ((min (u.r + 1) 255 : Nat) : Int) → Da g (u.err false) (w.setCell ⟨g, 1, none⟩ (.int .i64 z))) := by
        intro z hz
        rw [hz, HU.out]
        exact (h.dc.set1 _).da rfl
      have H2 : Hid (∀ z z' : Int, z = ((u.r + 1 : Nat) : Int) → z' = ((min (u.r + 1) 255 : Nat) : Int) → Da g (u.err false) ((w.setCell ⟨g, 1, none⟩ (.int .i64 z)).setCell ⟨g, 1, none⟩ (.int .i64 z'))) := by
        intro z z' hz hz'
        rw [hz, hz', HU.out]
        exact ((h.dc.set1 _).set1 _).da rfl
      generalize u.err false = U at *
      clear h1 h HU
      by_cases h3 : 254 < u.r
      · have hd : decide ((255 : Int) < (u.r : Int) + 1) = true := by simp; omega
        go_enter Try.func25, Try.ntmps25
        go_wp2
        go_end0
        exact ⟨rfl, H2.out _ _ (by omega) (by omega), ((Two.refl _ _ _).at0 _ _).at0 _ _⟩
      · have hd : decide ((255 : Int) < (u.r : Int) + 1) = false := by simp; omega
        go_enter Try.func25, Try.ntmps25
        go_wp2
        go_end0
        exact ⟨rfl, H1.out _ (by omega), (Two.refl _ _ _).at0 _ _⟩
    · have H1 : Hid (∀ z z' : Int, z = ((u.r + 1 : Nat) : Int) → z' = ((min (u.r + 8) 255 : Nat) : Int) → Da g (u.err true) ((w.setCell ⟨g, 1, none⟩ (.int .i64 z)).setCell ⟨g, 1, none⟩ (.int .i64 z'))) := by
        intro z z' hz hz'
        rw [hz, hz', HU.out]
        exact ((h.dc.set1 _).set1 _).da rfl
      have H2 : Hid (∀ z z' z'' : Int, z = ((u.r + 1 : Nat) : Int) → z' = ((u.r + 8 : Nat) : Int) → z'' = ((min (u.r + 8) 255 : Nat) : Int) → Da g (u.err true) (((w.setCell ⟨g, 1, none⟩ (.int .i64 z)).setCell ⟨g, 1, none⟩ (.int .i64 z')).setCell ⟨g, 1, none⟩ (.int .i64 z''))) := by
        intro z z' z'' hz hz' hz''
        rw [hz, hz', hz'', HU.out]
        exact (((h.dc.set1 _).set1 _).set1 _).da rfl
      generalize u.err true = U at *
      clear h1 h HU
      by_cases h3 : 247 < u.r
      · have hd : decide ((255 : Int) < (u.r : Int) + 1 + 7) = true := by simp; omega
        go_enter Try.func25, Try.ntmps25
        go_wp2
        go_end0
        exact ⟨rfl, H2.out _ _ _ (by omega) (by omega) (by omega), (((Two.refl _ _ _).at0 _ _).at0 _ _).at0 _ _⟩
      · have hd : decide ((255 : Int) < (u.r : Int) + 1 + 7) = false := by simp; omega
        go_enter Try.func25, Try.ntmps25
        go_wp2
        go_end0
        exact ⟨rfl, H1.out _ _ (by omega) (by omega), ((Two.refl _ _ _).at0 _ _).at0 _ _⟩
end
end Go.Proofs.Ytajoganfpppimaa
