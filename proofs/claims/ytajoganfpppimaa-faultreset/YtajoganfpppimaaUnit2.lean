/- Contracts of a unit's calls: New, Reset, Sent, Received, Failed, Erred, Idle. -/
import Derived.Test.YtajoganfpppimaaUnit
namespace Go.Proofs.Ytajoganfpppimaa
open Go.RowKit
set_option linter.unusedVariables false
set_option maxRecDepth 1000000

theorem infoU : (Try.prog.info? 44).map (·.size) = some 3 := by kernel_rfl
def Un.arr (u : Un) : Array Value := #[.int .i64 u.s, .int .i64 u.r, .int .i64 u.k]
section
variable {g : Nat} {u : Un} {w : World}
theorem Ua.set0 (h : Ua g u w) (v : Nat) : Ua g ⟨v, u.r, u.k⟩ (w.setCell ⟨g, 0, none⟩ (.int .i64 v)) := by
  unfold Ua at *; simp [World.setCell, Array.getElem?_modify, h]
theorem Ua.set1 (h : Ua g u w) (v : Nat) : Ua g ⟨u.s, v, u.k⟩ (w.setCell ⟨g, 1, none⟩ (.int .i64 v)) := by
  unfold Ua at *; simp [World.setCell, Array.getElem?_modify, h]
theorem Ua.set2 (h : Ua g u w) (v : Nat) : Ua g ⟨u.s, u.r, v⟩ (w.setCell ⟨g, 2, none⟩ (.int .i64 v)) := by
  unfold Ua at *; simp [World.setCell, Array.getElem?_modify, h]
theorem Ua.row (h : Ua g u w) (v : Un) : Ua g v (w.setRow g v.arr) := setRow_heap w g _ _ 44 _ h
theorem Ua.sd {ops : Array Oper} {rest : List Oper} {o : Oper} {a : Act} {Q : Exit → Act → World → Prop} (h : Ua g u w) (v : Un) (hgd : o.guard = none) (x y : Operand) (ho : o.op = .store 44 x y) (hx : a.eval x = .pointer (some ⟨g, 0, none⟩)) (hy : a.eval y = .agg v.arr)
    (hh : wpList Try.prog ops Q rest (a.put o.dst undef) (w.setRow g v.arr)) : wpList Try.prog ops Q (o :: rest) a w :=
  wpList_store_row hgd 44 x y ho g v.arr hx hy 44 _ h infoU rfl (by simp [Un.arr, Value.oneCell']) hh

theorem new_any (w : World) : Calls Try.prog 8 #[] w fun e w' => e = .returned (.pointer (some ⟨w.heap.size, 0, none⟩)) ∧ w' = w.alloc (.cells #[.int .i64 0, .int .i64 0, .int .i64 0] 44) := by
  go_enter Try.func8, Try.ntmps8
  go_wp2
  go_ret
  exact ⟨rfl, rfl⟩
theorem Ua.new (w : World) : Ua w.heap.size Un.nul (w.alloc (.cells #[.int .i64 0, .int .i64 0, .int .i64 0] 44)) := heap_alloc_new w _
theorem reset_any (h : Ua g u w) : Calls Try.prog 19 #[.pointer (some ⟨g, 0, none⟩)] w fun e w' => e = .returned (.tuple #[]) ∧ Ua g Un.nul w' ∧ Two g g w w' := by
  go_enter Try.func19, Try.ntmps19
  go_wp2_with (refine h.sd Un.nul rfl _ _ rfl rfl rfl ?_)
  go_end0
  exact ⟨rfl, h.row _, (Two.refl _ _ _).row _ (.inl rfl) _⟩
theorem sent_any (hk : u.ok) (h : Ua g u w) : Calls Try.prog 18 #[.pointer (some ⟨g, 0, none⟩)] w fun e w' => e = .returned (.tuple #[]) ∧ Ua g u.sent w' ∧ Two g g w w' := by
  have HO := off_any h
  obtain ⟨c0, c1, c2, hf⟩ := h.cells
  have f0 := hf 0
  unfold Un.off at HO
  obtain ⟨k1, k2, k3⟩ := hk
  by_cases h1 : 255 < u.s
  · rw [show decide (255 < u.s) = true by simpa using h1] at HO
    have HU : Hid (u.sent = u) := by show _ = _; unfold Un.sent; rw [if_pos h1]
    generalize u.sent = U at *
    clear h1
    go_enter Try.func18, Try.ntmps18
    go_wp2_with (go_at_call 28; refine HO.mono ?_; rintro e w' ⟨rfl, rfl⟩)
    go_end0
    exact ⟨rfl, by rw [HU.out]; exact h, Two.refl _ _ _⟩
  · rw [show decide (255 < u.s) = false by simpa using h1] at HO
    by_cases h2 : 0 < u.s
    · have HU : Hid (u.sent = ⟨u.s - 1, u.r, u.k⟩) := by show _ = _; unfold Un.sent; rw [if_neg h1]
      have H := h.set0 (u.s - 1)
      have hc : ((u.s - 1 : Nat) : Int) = (u.s : Int) - 1 := by omega
      rw [hc] at H
      have HH : Hid (Ua g ⟨u.s - 1, u.r, u.k⟩ (w.setCell ⟨g, 0, none⟩ (.int .i64 ((u.s : Int) - 1)))) := H
      generalize u.sent = U at *
      have hd : decide ((0 : Int) < (u.s : Int)) = true := by simp; omega
      clear h1 H hc h
      go_enter Try.func18, Try.ntmps18
      go_wp2_with (go_at_call 28; refine HO.mono ?_; rintro e w' ⟨rfl, rfl⟩)
      go_end0
      exact ⟨rfl, by rw [HU.out]; exact HH.out, (Two.refl _ _ _).at0 _ _⟩
    · have HU : Hid (u.sent = u) := by
        show _ = _
        unfold Un.sent
        rw [if_neg h1]
        have : u.s - 1 = u.s := by omega
        rw [this]
      generalize u.sent = U at *
      have hd : decide ((0 : Int) < (u.s : Int)) = false := by simp; omega
      clear h1
      go_enter Try.func18, Try.ntmps18
      go_wp2_with (go_at_call 28; refine HO.mono ?_; rintro e w' ⟨rfl, rfl⟩)
      go_end0
      exact ⟨rfl, by rw [HU.out]; exact h, Two.refl _ _ _⟩
theorem recv_any (hk : u.ok) (h : Ua g u w) : Calls Try.prog 21 #[.pointer (some ⟨g, 0, none⟩)] w fun e w' => e = .returned (.tuple #[]) ∧ Ua g u.recv w' ∧ Two g g w w' := by
  have HO := off_any h
  obtain ⟨c0, c1, c2, hf⟩ := h.cells
  have f1 := hf 1
  unfold Un.off at HO
  obtain ⟨k1, k2, k3⟩ := hk
  by_cases h1 : 255 < u.s
  · rw [show decide (255 < u.s) = true by simpa using h1] at HO
    have HU : Hid (u.recv = u) := by show _ = _; unfold Un.recv; rw [if_pos h1]
    generalize u.recv = U at *
    clear h1
    go_enter Try.func21, Try.ntmps21
    go_wp2_with (go_at_call 28; refine HO.mono ?_; rintro e w' ⟨rfl, rfl⟩)
    go_end0
    exact ⟨rfl, by rw [HU.out]; exact h, Two.refl _ _ _⟩
  · rw [show decide (255 < u.s) = false by simpa using h1] at HO
    by_cases h2 : u.r = 0
    · have HU : Hid (u.recv = u) := by
        show _ = _
        unfold Un.recv
        rw [if_neg h1, if_neg (by omega)]
        have : u.r - 1 = u.r := by omega
        rw [this]
      generalize u.recv = U at *
      have hd : ((u.r : Int) == 0) = true := by simp; omega
      clear h1
      go_enter Try.func21, Try.ntmps21
      go_wp2_with (go_at_call 28; refine HO.mono ?_; rintro e w' ⟨rfl, rfl⟩)
      go_end0
      exact ⟨rfl, by rw [HU.out]; exact h, Two.refl _ _ _⟩
    · have hd : ((u.r : Int) == 0) = false := by simp; omega
      by_cases h3 : 127 < u.r
      · have HU : Hid (u.recv = ⟨u.s, 120, u.k⟩) := by show _ = _; unfold Un.recv; rw [if_neg h1, if_pos h3]
        have HH : Hid (Ua g ⟨u.s, 120, u.k⟩ (w.setCell ⟨g, 1, none⟩ (.int .i64 120))) := h.set1 120
        generalize u.recv = U at *
        have hd3 : decide ((127 : Int) < (u.r : Int)) = true := by simp; omega
        clear h1 h
        go_enter Try.func21, Try.ntmps21
        go_wp2_with (go_at_call 28; refine HO.mono ?_; rintro e w' ⟨rfl, rfl⟩)
        go_end0
        exact ⟨rfl, by rw [HU.out]; exact HH.out, (Two.refl _ _ _).at0 _ _⟩
      · have HU : Hid (u.recv = ⟨u.s, u.r - 1, u.k⟩) := by show _ = _; unfold Un.recv; rw [if_neg h1, if_neg h3]
        have H := h.set1 (u.r - 1)
        have hc : ((u.r - 1 : Nat) : Int) = (u.r : Int) - 1 := by omega
        rw [hc] at H
        have HH : Hid (Ua g ⟨u.s, u.r - 1, u.k⟩ (w.setCell ⟨g, 1, none⟩ (.int .i64 ((u.r : Int) - 1)))) := H
        generalize u.recv = U at *
        have hd3 : decide ((127 : Int) < (u.r : Int)) = false := by simp; omega
        clear h1 H hc h
        go_enter Try.func21, Try.ntmps21
        go_wp2_with (go_at_call 28; refine HO.mono ?_; rintro e w' ⟨rfl, rfl⟩)
        go_end0
        exact ⟨rfl, by rw [HU.out]; exact HH.out, (Two.refl _ _ _).at0 _ _⟩
theorem fail_any (q : Bool) (hk : u.ok) (h : Ua g u w) : Calls Try.prog 16 #[.pointer (some ⟨g, 0, none⟩), .bool q] w fun e w' => e = .returned (.tuple #[]) ∧ Ua g (u.fail q) w' ∧ Two g g w w' := by
  have HO := off_any h
  have HS := state_any h
  obtain ⟨c0, c1, c2, hf⟩ := h.cells
  have f0 := hf 0
  obtain ⟨k1, k2, k3⟩ := hk
  unfold Un.off at HO
  by_cases h1 : 255 < u.s
  · rw [show decide (255 < u.s) = true by simpa using h1] at HO
    have HU : Hid (u.fail q = u) := by show _ = _; unfold Un.fail; rw [if_pos h1]
    generalize u.fail q = U at *
    clear h1
    go_enter Try.func16, Try.ntmps16
    go_wp2_with (go_at_call 28; refine HO.mono ?_; rintro e w' ⟨rfl, rfl⟩)
    refine bodyPost_ret (results_none rfl _ _ _) rfl ?_
    exact ⟨rfl, by rw [HU.out]; exact h, Two.refl _ _ _⟩
  · rw [show decide (255 < u.s) = false by simpa using h1] at HO
    unfold Un.state at HS
    rw [if_neg h1] at HS
    have HB : ∀ (n : Nat), ¬ (q = true ∧ (127 < u.s ∨ 127 < u.r)) → Hid (247 < u.s → Ua g (u.fail q) (((w.drewN n).setCell ⟨g, 0, none⟩ (.int .i64 ((u.s : Int) + 8))).setRow g (Un.arr ⟨256, u.r, 0⟩))) ∧ Hid (¬ 247 < u.s → Ua g (u.fail q) ((w.drewN n).setCell ⟨g, 0, none⟩ (.int .i64 ((u.s : Int) + 8)))) ∧ Ua g ⟨u.s + 8, u.r, u.k⟩ ((w.drewN n).setCell ⟨g, 0, none⟩ (.int .i64 ((u.s : Int) + 8))) := by
      intro n hn
      have H : Ua g ⟨u.s + 8, u.r, u.k⟩ ((w.drewN n).setCell ⟨g, 0, none⟩ (.int .i64 ((u.s : Int) + 8))) := (h.drawn n).set0 (u.s + 8)
      refine ⟨fun h3 => ?_, fun h3 => ?_, H⟩
      · unfold Un.fail; rw [if_neg h1, if_neg hn, if_pos h3]; exact H.row ⟨256, u.r, 0⟩
      · unfold Un.fail; rw [if_neg h1, if_neg hn, if_neg h3]; exact H
    by_cases h2 : q = true ∧ (127 < u.s ∨ 127 < u.r)
    · have HU : Hid (u.fail q = u) := by show _ = _; unfold Un.fail; rw [if_neg h1, if_pos h2]
      rw [if_pos h2.2] at HS
      obtain rfl := h2.1
      generalize u.fail true = U at *
      clear h1 h2 HB
      go_enter Try.func16, Try.ntmps16
      go_wp2_with (first | (go_at_call 28; refine HO.mono ?_; rintro e w' ⟨rfl, rfl⟩) | (go_at_call 11; refine HS.mono ?_; rintro e w' ⟨rfl, n, rfl⟩))
      refine bodyPost_ret (results_none rfl _ _ _) rfl ?_
      exact ⟨rfl, by rw [HU.out]; exact h, (Two.refl _ _ _).drawn _⟩
    · cases q
      · obtain ⟨H1, H2, H3⟩ := HB 0 h2
        change Hid (247 < u.s → Ua g (u.fail false) ((w.setCell ⟨g, 0, none⟩ (.int .i64 ((u.s : Int) + 8))).setRow g (Un.arr ⟨256, u.r, 0⟩))) at H1
        change Hid (¬ 247 < u.s → Ua g (u.fail false) (w.setCell ⟨g, 0, none⟩ (.int .i64 ((u.s : Int) + 8)))) at H2
        change Ua g ⟨u.s + 8, u.r, u.k⟩ (w.setCell ⟨g, 0, none⟩ (.int .i64 ((u.s : Int) + 8))) at H3
        by_cases h3 : 247 < u.s
        · have hd : decide ((255 : Int) < (u.s : Int) + 8) = true := by simp; omega
          go_enter Try.func16, Try.ntmps16
          go_wp2_with (first | (go_at_call 28; refine HO.mono ?_; rintro e w' ⟨rfl, rfl⟩) | (refine H3.sd ⟨256, u.r, 0⟩ rfl _ _ rfl rfl rfl ?_))
          go_end0
          exact ⟨rfl, H1.out h3, ((Two.refl _ _ _).at0 _ _).row _ (.inl rfl) _⟩
        · have hd : decide ((255 : Int) < (u.s : Int) + 8) = false := by simp; omega
          go_enter Try.func16, Try.ntmps16
          go_wp2_with (first | (go_at_call 28; refine HO.mono ?_; rintro e w' ⟨rfl, rfl⟩))
          go_end0
          exact ⟨rfl, H2.out h3, (Two.refl _ _ _).at0 _ _⟩
      · have hn : ¬ (127 < u.s ∨ 127 < u.r) := fun hh => h2 ⟨rfl, hh⟩
        rw [if_neg hn] at HS
        have h3 : ¬ 247 < u.s := by omega
        have hd : decide ((255 : Int) < (u.s : Int) + 8) = false := by simp; omega
        go_enter Try.func16, Try.ntmps16
        go_wp2_with (first | (go_at_call 28; refine HO.mono ?_; rintro e w' ⟨rfl, rfl⟩) | (go_at_call 11; refine HS.mono ?_; rintro e w' ⟨rfl, n, rfl⟩))
        go_end0
        exact ⟨rfl, (HB _ h2).2.1.out h3, ((Two.refl _ _ _).drawn _).at0 _ _⟩
theorem err_any (l : Bool) (hk : u.ok) (h : Ua g u w) : Calls Try.prog 24 #[.pointer (some ⟨g, 0, none⟩), .bool l] w fun e w' => e = .returned (.tuple #[]) ∧ Ua g (u.err l) w' ∧ Two g g w w' := by
  have HO := off_any h
  obtain ⟨c0, c1, c2, hf⟩ := h.cells
  have f1 := hf 1
  obtain ⟨k1, k2, k3⟩ := hk
  unfold Un.off at HO
  by_cases h1 : 255 < u.s
  · rw [show decide (255 < u.s) = true by simpa using h1] at HO
    have HU : Hid (u.err l = u) := by show _ = _; unfold Un.err; rw [if_pos h1]
    generalize u.err l = U at *
    clear h1
    go_enter Try.func24, Try.ntmps24
    go_wp2_with (go_at_call 28; refine HO.mono ?_; rintro e w' ⟨rfl, rfl⟩)
    refine bodyPost_ret (results_none rfl _ _ _) rfl ?_
    exact ⟨rfl, by rw [HU.out]; exact h, Two.refl _ _ _⟩
  · rw [show decide (255 < u.s) = false by simpa using h1] at HO
    have HU : Hid (u.err l = ⟨u.s, min (u.r + if l then 8 else 1) 255, u.k⟩) := by show _ = _; unfold Un.err; rw [if_neg h1]
    have HH : Hid (∀ z : Int, z = ((min (u.r + if l then 8 else 1) 255 : Nat) : Int) → Ua g (u.err l) (w.setCell ⟨g, 1, none⟩ (.int .i64 z))) := by
      intro z hz
      rw [hz, HU.out]
      exact h.set1 _
    generalize u.err l = U at *
    clear h1 h HU
    cases l
    all_goals
      go_enter Try.func24, Try.ntmps24
      go_wp2_with (go_at_call 28; refine HO.mono ?_; rintro e w' ⟨rfl, rfl⟩)
      all_goals
        go_end0
        exact ⟨rfl, HH.out _ (by simp only [if_true, if_false, Bool.false_eq_true]; omega), (Two.refl _ _ _).at0 _ _⟩
theorem idle_any (n : Int) (hn : -9223372036854775808 ≤ n ∧ n < 9223372036854775808) (hk : u.ok) (h : Ua g u w) : Calls Try.prog 17 #[.pointer (some ⟨g, 0, none⟩), .int .i64 n] w fun e w' => e = .returned (.bool (u.back n)) ∧ Ua g (u.idle n) w' ∧ Two g g w w' := by
  have HO := off_any h
  have HR := reset_any h
  obtain ⟨c0, c1, c2, hf⟩ := h.cells
  have f2 := hf 2
  obtain ⟨k1, k2, k3⟩ := hk
  obtain ⟨n1, n2⟩ := hn
  unfold Un.off at HO
  unfold Un.back
  by_cases h1 : 255 < u.s
  · rw [show decide (255 < u.s) = true by simpa using h1] at HO ⊢
    by_cases h2 : 128 - (u.k : Int) ≤ n
    · have HU : Hid (u.idle n = Un.nul) := by show _ = _; unfold Un.idle; rw [if_pos h1, if_pos h2]
      rw [show decide (128 - (u.k : Int) ≤ n) = true by simpa using h2]
      generalize u.idle n = U at *
      clear h1
      have hm : ¬ n < 0 := by omega
      have hd : decide (n < 128 - (u.k : Int)) = false := by simp; omega
      go_enter Try.func17, Try.ntmps17
      go_wp2_with (first | (go_at_call 28; refine HO.mono ?_; rintro e w' ⟨rfl, rfl⟩) | (go_at_call 19; refine HR.mono ?_; rintro e w' ⟨rfl, R1, R2⟩))
      go_ret
      exact ⟨rfl, by rw [HU.out]; exact R1, R2⟩
    · have HU : Hid (u.idle n = ⟨u.s, u.r, u.k + n.toNat⟩) := by show _ = _; unfold Un.idle; rw [if_pos h1, if_neg h2]
      rw [show decide (128 - (u.k : Int) ≤ n) = false by simpa using h2]
      have HH : Hid (∀ z : Int, z = ((u.k + n.toNat : Nat) : Int) → Ua g (u.idle n) (w.setCell ⟨g, 2, none⟩ (.int .i64 z))) := by
        intro z hz
        rw [hz, HU.out]
        exact h.set2 _
      generalize u.idle n = U at *
      clear h1 HR h
      by_cases hm : n < 0
      · have hd : decide ((0 : Int) < 128 - (u.k : Int)) = true := by simp; omega
        go_enter Try.func17, Try.ntmps17
        go_wp2_with (first | (go_at_call 28; refine HO.mono ?_; rintro e w' ⟨rfl, rfl⟩))
        go_ret
        exact ⟨rfl, HH.out _ (by omega), (Two.refl _ _ _).at0 _ _⟩
      · have hd : decide (n < 128 - (u.k : Int)) = true := by simp; omega
        go_enter Try.func17, Try.ntmps17
        go_wp2_with (first | (go_at_call 28; refine HO.mono ?_; rintro e w' ⟨rfl, rfl⟩))
        go_ret
        exact ⟨rfl, HH.out _ (by omega), (Two.refl _ _ _).at0 _ _⟩
  · rw [show decide (255 < u.s) = false by simpa using h1] at HO ⊢
    have HU : Hid (u.idle n = u) := by show _ = _; unfold Un.idle; rw [if_neg h1]
    generalize u.idle n = U at *
    clear h1 HR
    go_enter Try.func17, Try.ntmps17
    go_wp2_with (go_at_call 28; refine HO.mono ?_; rintro e w' ⟨rfl, rfl⟩)
    go_ret
    exact ⟨rfl, by rw [HU.out]; exact h, Two.refl _ _ _⟩
end
end Go.Proofs.Ytajoganfpppimaa
