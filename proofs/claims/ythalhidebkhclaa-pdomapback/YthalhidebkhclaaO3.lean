/- Contracts: between, can. -/
import Derived.Test.YthalhidebkhclaaO2
namespace Go.Proofs.Ythalhidebkhclaa
open Go.RowKit Go.Proofs.Ty
set_option linter.unusedVariables false
set_option maxRecDepth 1000000
set_option linter.unusedSimpArgs false
/-- Whether what an entry has at first lies between its limits. -/
def En.btw (e : En) : Bool := decide (ordE e.df e.mn = 0) && (decide (ordE e.df e.mx = 0) && (decide (0 ≤ ordN e.df e.mn) && decide (ordN e.df e.mx ≤ 0)))
/-- What is wrong with an entry. -/
def En.can (e : En) : Nat := if e.df.chk ≠ 0 then e.df.chk else if e.ac < 0 ∨ 3 < e.ac then 1 else if e.li = true ∧ ¬ (0 < siz e.df.t ∧ e.btw = true) then 1 else if e.mp = true ∧ ¬ 0 < siz e.df.t then 1 else 0
set_option maxHeartbeats 2000000 in
theorem between_any (e : En) (w : World) : Calls Try.prog 53 #[.agg e.arr] w fun x w' => x = .returned (.bool e.btw) ∧ Below w.heap.size w w' := by
  have hO1 := Order_v e.df e.mn
  have hO2 := Order_v e.df e.mx
  have HB : Hid (e.btw = (decide (ordE e.df e.mn = 0) && (decide (ordE e.df e.mx = 0) && (decide (0 ≤ ordN e.df e.mn) && decide (ordN e.df e.mx ≤ 0))))) := rfl
  have h0 := Eb.new w e
  have B0 : Below w.heap.size w (w.alloc (.cells e.arr 59)) := (Below.refl _ _).alloc (Nat.le_refl _) _
  generalize ordE e.df e.mn = E1 at *
  generalize ordE e.df e.mx = E2 at *
  generalize ordN e.df e.mn = N1 at *
  generalize ordN e.df e.mx = N2 at *
  generalize e.btw = R at *
  go_enter Try.func53, Try.ntmps53
  go_upto_region 1 with fail
  generalize (w.alloc (.cells e.arr 59)) = W at *
  obtain ⟨q, hq⟩ : ∃ q, w.heap.size = q := ⟨_, rfl⟩
  have l0 := h0.lt
  simp only [hq] at h0 l0 ⊢
  have r1 := h0.r11
  have r2 := h0.r5
  go_wp2_with (first | (refine ldV r1 rfl _ rfl rfl ?_) | (refine ldV r2 rfl _ rfl rfl ?_))
  refine (hO1 _).mono ?_
  rintro x w1 ⟨rfl, b1⟩
  have h1 := h0.below b1
  have B1 := B0.trans (b1.mono (by omega))
  have s1 := b1.size
  clear h0 B0 b1 hO1 r1 r2
  have r1 := h1.r11
  have r2 := h1.r8
  go_wp2_with (first | (refine ldV r1 rfl _ rfl rfl ?_) | (refine ldV r2 rfl _ rfl rfl ?_))
  refine (hO2 _).mono ?_
  rintro x w2 ⟨rfl, b2⟩
  have B2 := B1.trans (b2.mono (by omega))
  clear h1 B1 b2 hO2 r1 r2
  by_cases h1 : E1 = 0
  · by_cases h2 : E2 = 0
    · subst h1 h2
      by_cases h3 : 0 ≤ N1
      · have d3 : decide (0 ≤ N1) = true := decide_eq_true h3
        by_cases h4 : N2 ≤ 0
        · have d4 : decide (N2 ≤ 0) = true := decide_eq_true h4
          have e1 := hidOf2 (show R = true by rw [HB.out]; simp [h3, h4])
          clear HB
          go_wp2
          go_ret
          exact ⟨ret_bool e1.out.symm, B2⟩
        · have d4 : decide (N2 ≤ 0) = false := decide_eq_false h4
          have e1 := hidOf2 (show R = false by rw [HB.out]; simp [h3, h4])
          clear HB
          go_wp2
          go_ret
          exact ⟨ret_bool e1.out.symm, B2⟩
      · have d3 : decide (0 ≤ N1) = false := decide_eq_false h3
        have e1 := hidOf2 (show R = false by rw [HB.out]; simp [h3])
        clear HB
        go_wp2
        go_ret
        exact ⟨ret_bool e1.out.symm, B2⟩
    · have d2 : ((E2 : Int) == 0) = false := by simpa using h2
      have e1 := hidOf2 (show R = false by rw [HB.out]; simp [h2])
      subst h1
      clear HB
      go_wp2
      go_ret
      exact ⟨ret_bool e1.out.symm, B2⟩
  · have d1 : ((E1 : Int) == 0) = false := by simpa using h1
    have e1 := hidOf2 (show R = false by rw [HB.out]; simp [h1])
    clear HB
    go_wp2
    go_ret
    exact ⟨ret_bool e1.out.symm, B2⟩
set_option maxHeartbeats 4000000 in
theorem can_any (e : En) (w : World) : Calls Try.prog 33 #[.agg e.arr] w fun x w' => x = .returned (.int .i64 e.can) ∧ Below w.heap.size w w' := by
  have hC := Check_v e.df
  have hS := Size_any e.df.t
  have hB := between_any e
  have HB : Hid (e.can = if e.df.chk ≠ 0 then e.df.chk else if e.ac < 0 ∨ 3 < e.ac then 1 else if e.li = true ∧ ¬ (0 < siz e.df.t ∧ e.btw = true) then 1 else if e.mp = true ∧ ¬ 0 < siz e.df.t then 1 else 0) := rfl
  have h0 := Eb.new w e
  have B0 : Below w.heap.size w (w.alloc (.cells e.arr 59)) := (Below.refl _ _).alloc (Nat.le_refl _) _
  generalize e.df.chk = C at *
  generalize e.btw = T at *
  generalize e.can = R at *
  go_enter Try.func33, Try.ntmps33
  go_upto_region 1 with fail
  generalize (w.alloc (.cells e.arr 59)) = W at *
  obtain ⟨q, hq⟩ : ∃ q, w.heap.size = q := ⟨_, rfl⟩
  have l0 := h0.lt
  simp only [hq] at h0 l0 ⊢
  have r1 := h0.r11
  go_wp2_with (first | (refine ldV r1 rfl _ rfl rfl ?_))
  refine (hC _).mono ?_
  rintro x w1 ⟨rfl, b1⟩
  have h1 := h0.below b1
  have B1 := B0.trans (b1.mono (by omega))
  have s1 := b1.size
  clear h0 B0 b1 hC r1
  by_cases hc : C = 0
  · subst hc
    rw [if_neg (by simp)] at HB
    obtain ⟨c0, c1, c2, c3, c4, c11⟩ := h1.c
    have r0 := h1.r0
    generalize hnum : decide (0 < siz e.df.t) = N at *
    have HN : Hid (decide (0 < siz e.df.t) = N) := hnum
    clear hnum
    generalize siz e.df.t = Z at *
    generalize e.ac = A at *
    by_cases ha : A < 0
    · have d1 : decide (A < 0) = true := decide_eq_true ha
      have e1 := hidOf2 (show R = 1 by rw [HB.out, if_pos (.inl ha)])
      clear HB HN
      go_wp2_with (first | (go_at_call 52; refine (hS _).mono ?_; rintro e w3 ⟨rfl, rfl⟩))
      go_ret
      exact ⟨ret_int (by rw [e1.out]; rfl), B1⟩
    · have d1 : decide (A < 0) = false := decide_eq_false ha
      by_cases ha3 : 3 < A
      · have d2 : decide (3 < A) = true := decide_eq_true ha3
        have e1 := hidOf2 (show R = 1 by rw [HB.out, if_pos (.inr ha3)])
        clear HB HN
        go_wp2_with (first | (go_at_call 52; refine (hS _).mono ?_; rintro e w3 ⟨rfl, rfl⟩))
        go_ret
        exact ⟨ret_int (by rw [e1.out]; rfl), B1⟩
      · have d2 : decide (3 < A) = false := decide_eq_false ha3
        rw [if_neg (fun h => h.elim ha ha3)] at HB
        have HB2 := hidOf2 (show R = if e.li = true ∧ ¬ (N = true ∧ T = true) then 1 else if e.mp = true ∧ ¬ N = true then 1 else 0 by
          have h1 := HB.out
          have h2 := HN.out
          subst h2
          simpa using h1)
        clear HB HN
        generalize e.li = L at *
        generalize e.mp = M at *
        cases L <;> cases N <;> cases M <;> cases T
        all_goals
          have e1 := hidOf2 HB2.out
          clear HB2
          go_wp2_with (first | (go_at_call 52; refine (hS _).mono ?_; rintro e w3 ⟨rfl, rfl⟩) | (refine ldE r0 rfl _ rfl rfl ?_))
        all_goals first
          | (refine (hB _).mono ?_
             rintro x w2 ⟨rfl, b2⟩
             have B2 := B1.trans (b2.mono (by omega))
             have k3 := (b2.cell (p := ⟨q, 3, none⟩) h1.lt).trans c3
             clear B1 b2 h1 c0 c1 c2 c3 c4 c11 r0
             go_wp2
             go_ret
             exact ⟨ret_int (by rw [e1.out]; rfl), B2⟩)
          | (go_ret
             exact ⟨ret_int (by rw [e1.out]; rfl), B1⟩)
  · have d1 : ((C : Int) != 0) = true := by simpa using hc
    have e1 := hidOf2 (show R = C by rw [HB.out, if_pos hc])
    clear HB
    go_wp2
    go_ret
    exact ⟨ret_int (by rw [e1.out]), B1⟩
end Go.Proofs.Ythalhidebkhclaa
