/- Contracts: the document's Within, entry, Check. -/
import Derived.Test.YthalhidebkhclaaO15
import Derived.Test.YthalhidebkhclaaTy14
import Derived.Test.YthalhidebkhclaaTy12
namespace Go.Proofs.Ythalhidebkhclaa
open Go.RowKit Go.Proofs.Ty Go.Sort Go.Lib
set_option linter.unusedVariables false
set_option maxRecDepth 1000000
set_option linter.unusedSimpArgs false
def wiB (e : En) (v : Vl) : Bool := decide (ordE v e.mn = 0) && decide (ordE v e.mx = 0)
def wiC (e : En) (v : Vl) : Nat := if wiB e v = false then 0 else if 0 < ordN v e.mx then 101253169 else if ordN v e.mn < 0 then 101253170 else 0
theorem btw_wi (e : En) : e.btw = true ↔ wiB e e.df = true ∧ wiC e e.df = 0 := by
  unfold En.btw wiC wiB
  generalize ordE e.df e.mn = E1
  generalize ordE e.df e.mx = E2
  generalize ordN e.df e.mn = N1
  generalize ordN e.df e.mx = N2
  by_cases h1 : E1 = 0 <;> by_cases h2 : E2 = 0 <;> simp [h1, h2]
  by_cases h3 : 0 < N2
  · simp [h3] <;> omega
  · by_cases h4 : N1 < 0
    · simp [h3, h4] <;> omega
    · simp [h3, h4] <;> omega
set_option maxHeartbeats 4000000 in
theorem r8Within_any (e : En) (v : Vl) (w : World) : Calls Try.prog 64 #[.agg e.arr, .agg v.arr] w fun x w' => x = .returned (.tuple #[.int .u32 (wiC e v), .bool (wiB e v)]) ∧ Below w.heap.size w w' := by
  have hO1 := r7Order_v v e.mn
  have hO2 := r7Order_v v e.mx
  have HB : Hid (wiB e v = (decide (ordE v e.mn = 0) && decide (ordE v e.mx = 0))) := rfl
  have HC : Hid (wiC e v = if wiB e v = false then 0 else if 0 < ordN v e.mx then 101253169 else if ordN v e.mn < 0 then 101253170 else 0) := rfl
  have h0 : Eb w.heap.size e ((w.alloc (.cells e.arr 59)).alloc (.cells v.arr 42)) := (Eb.new w e).alloc _
  have f0 : Va (w.heap.size + 1) v ((w.alloc (.cells e.arr 59)).alloc (.cells v.arr 42)) := by
    have := Va.new (w.alloc (.cells e.arr 59)) v
    rw [size_alloc] at this
    exact this
  have B0 : Below w.heap.size w ((w.alloc (.cells e.arr 59)).alloc (.cells v.arr 42)) := ((Below.refl _ _).alloc (Nat.le_refl _) _).alloc (by rw [size_alloc]; omega) _
  generalize wiC e v = C at *
  generalize wiB e v = B at *
  generalize ordE v e.mn = E1 at *
  generalize ordE v e.mx = E2 at *
  generalize ordN v e.mn = N1 at *
  generalize ordN v e.mx = N2 at *
  obtain ⟨q, hq⟩ : ∃ q, w.heap.size = q := ⟨_, rfl⟩
  go_enter Try.func64, Try.ntmps64
  go_upto_region 1 with fail
  generalize (w.alloc (.cells e.arr 59)).alloc (.cells v.arr 42) = W at *
  simp only [hq] at h0 f0 ⊢
  have r1 := h0.r5
  have s0 := B0.size
  go_wp2_with (first | (refine f0.ld rfl _ rfl rfl ?_) | (refine ldV r1 rfl _ rfl rfl ?_))
  refine (hO1 _).mono ?_
  rintro x w1 ⟨rfl, b1⟩
  have h1 := h0.below b1
  have f1 := f0.below b1
  have B1 := B0.trans (b1.mono s0)
  have s1 := B1.size
  clear h0 f0 B0 b1 hO1 r1 s0
  have r2 := h1.r8
  go_wp2_with (first | (refine f1.ld rfl _ rfl rfl ?_) | (refine ldV r2 rfl _ rfl rfl ?_))
  refine (hO2 _).mono ?_
  rintro x w2 ⟨rfl, b2⟩
  have B2 := B1.trans (b2.mono s1)
  clear h1 f1 B1 b2 hO2 r2 s1
  have fin : Below w.heap.size w w2 := B2
  by_cases hE : E1 = 0 ∧ E2 = 0
  · obtain ⟨rfl, rfl⟩ := hE
    have eB := hidOf2 (show B = true from HB.out)
    rw [eB.out, if_neg (by simp)] at HC
    by_cases h3 : 0 < N2
    · have d3 : decide (0 < N2) = true := decide_eq_true h3
      have e1 := hidOf2 (show C = 101253169 by rw [HC.out, if_pos h3])
      clear HC HB
      go_wp2
      go_ret2
      exact ⟨by rw [e1.out, eB.out]; rfl, by first | exact B2 | (rw [← hq]; exact B2)⟩
    · have d3 : decide (0 < N2) = false := decide_eq_false h3
      rw [if_neg h3] at HC
      by_cases h4 : N1 < 0
      · have d4 : decide (N1 < 0) = true := decide_eq_true h4
        have e1 := hidOf2 (show C = 101253170 by rw [HC.out, if_pos h4])
        clear HC HB
        go_wp2
        go_ret2
        exact ⟨by rw [e1.out, eB.out]; rfl, by first | exact B2 | (rw [← hq]; exact B2)⟩
      · have d4 : decide (N1 < 0) = false := decide_eq_false h4
        have e1 := hidOf2 (show C = 0 by rw [HC.out, if_neg h4])
        clear HC HB
        go_wp2
        go_ret2
        exact ⟨by rw [e1.out, eB.out]; rfl, by first | exact B2 | (rw [← hq]; exact B2)⟩
  · have eB := hidOf2 (show B = false by
      rw [HB.out, Bool.and_eq_false_iff]
      rcases Decidable.not_and_iff_or_not.1 hE with h | h
      · exact .inl (decide_eq_false h)
      · exact .inr (decide_eq_false h))
    rw [eB.out, if_pos rfl] at HC
    have e1 := hidOf2 HC.out
    clear HC HB
    by_cases h1 : E1 = 0
    · have h2 : ¬ E2 = 0 := fun h => hE ⟨h1, h⟩
      have d2 : ((E2 : Int) != 0) = true := by simpa using h2
      subst h1
      clear hE
      go_wp2
      go_ret2
      exact ⟨by rw [e1.out, eB.out]; rfl, by first | exact B2 | (rw [← hq]; exact B2)⟩
    · have d1 : ((E1 : Int) != 0) = true := by simpa using h1
      clear hE
      go_wp2
      go_ret2
      exact ⟨by rw [e1.out, eB.out]; rfl, by first | exact B2 | (rw [← hq]; exact B2)⟩
set_option maxHeartbeats 4000000 in
theorem r8entry_any (e : En) (w : World) : Calls Try.prog 49 #[.agg e.arr] w fun x w' => x = .returned (.int .i64 e.can) ∧ Below w.heap.size w w' := by
  have hC := r7Check_v e.df
  have hS := r7Size_any e.df.t
  have hB := r8Within_any e e.df
  have HB : Hid (e.can = if e.df.chk ≠ 0 then e.df.chk else if e.ac < 0 ∨ 3 < e.ac then 1 else if e.li = true ∧ ¬ (0 < siz e.df.t ∧ e.btw = true) then 1 else if e.mp = true ∧ ¬ 0 < siz e.df.t then 1 else 0) := rfl
  have HW := hidOf2 (btw_wi e)
  have h0 := Eb.new w e
  have B0 : Below w.heap.size w (w.alloc (.cells e.arr 59)) := (Below.refl _ _).alloc (Nat.le_refl _) _
  generalize e.df.chk = C at *
  generalize e.can = R at *
  generalize wiC e e.df = WC at *
  generalize wiB e e.df = WB at *
  obtain ⟨q, hq⟩ : ∃ q, w.heap.size = q := ⟨_, rfl⟩
  go_enter Try.func49, Try.ntmps49
  go_upto_region 1 with fail
  generalize (w.alloc (.cells e.arr 59)) = W at *
  have l0 := h0.lt
  simp only [hq] at h0 l0 ⊢
  have r1 := h0.r11
  go_wp2_with (first | (refine ldV r1 rfl _ rfl rfl ?_))
  refine (hC _).mono ?_
  rintro x w1 ⟨rfl, b1⟩
  have h1 := h0.below b1
  have B1 := B0.trans (b1.mono (by omega))
  have s1 := b1.size
  clear h0 B0 b1 hC r1
  by_cases hc : C = 0
  · subst hc
    rw [if_neg (by simp)] at HB
    obtain ⟨c0, c1, c2, c3, c4, c11⟩ := h1.c
    have r0 := h1.r0
    have r1 := h1.r11
    generalize hnum : decide (0 < siz e.df.t) = N at *
    have HN : Hid (decide (0 < siz e.df.t) = N) := hnum
    have hnum2 : decide ((0 : Int) < (siz e.df.t : Int)) = N := by rw [← hnum]; simp
    clear hnum
    generalize siz e.df.t = Z at *
    generalize e.ac = A at *
    by_cases ha : A < 0
    · have d1 : decide (A < 0) = true := decide_eq_true ha
      have e1 := hidOf2 (show R = 1 by rw [HB.out, if_pos (.inl ha)])
      clear HB HN
      go_wp2_with (first | (go_at_call 24; refine (hS _).mono ?_; rintro e w3 ⟨rfl, rfl⟩))
      go_ret
      exact ⟨ret_int (by rw [e1.out]; rfl), B1⟩
    · have d1 : decide (A < 0) = false := decide_eq_false ha
      by_cases ha3 : 3 < A
      · have d2 : decide (3 < A) = true := decide_eq_true ha3
        have e1 := hidOf2 (show R = 1 by rw [HB.out, if_pos (.inr ha3)])
        clear HB HN
        go_wp2_with (first | (go_at_call 24; refine (hS _).mono ?_; rintro e w3 ⟨rfl, rfl⟩))
        go_ret
        exact ⟨ret_int (by rw [e1.out]; rfl), B1⟩
      · have d2 : decide (3 < A) = false := decide_eq_false ha3
        rw [if_neg (fun h => h.elim ha ha3)] at HB
        have HB2 := hidOf2 (show R = if e.li = true ∧ ¬ (N = true ∧ (WB = true ∧ WC = 0)) then 1 else if e.mp = true ∧ ¬ N = true then 1 else 0 by
          have h1 := HB.out
          simp only [HW.out] at h1
          have h2 := HN.out
          subst h2
          simpa using h1)
        clear HB HN HW
        generalize e.li = L at *
        generalize e.mp = M at *
        have HWC : Hid (WC = 0 ∨ WC ≠ 0) := by
          by_cases h : WC = 0
          · exact .inl h
          · exact .inr h
        rcases Nat.eq_zero_or_pos Z with hz | hz
        · subst hz
          obtain rfl : false = N := by rw [← hnum2]; rfl
          clear hnum2
          cases L
          · cases M
            all_goals
              have e1 := hidOf2 HB2.out
              clear HB2
              go_wp2_with (first | (go_at_call 24; refine (hS _).mono ?_; rintro e w3 ⟨rfl, rfl⟩))
              go_ret
              exact ⟨ret_int (by rw [e1.out]; rfl), B1⟩
          · go_wp2_with (first | (go_at_call 24; refine (hS _).mono ?_; rintro e w3 ⟨rfl, rfl⟩) | (refine ldE r0 rfl _ rfl rfl ?_) | (refine ldV r1 rfl _ rfl rfl ?_))
            refine (hB _).mono ?_
            rintro x w2 ⟨rfl, b2⟩
            have B2 := B1.trans (b2.mono (by omega))
            have k3 := (b2.cell (p := ⟨q, 3, none⟩) h1.lt).trans c3
            clear B1 b2 h1 c0 c1 c2 c3 c4 c11 r0 r1 hB
            rcases HWC.out with h | h
            · subst h
              cases M <;> cases WB
              all_goals
                have e1 := hidOf2 HB2.out
                clear HB2
                go_wp2
                go_ret
                exact ⟨ret_int (by rw [e1.out]; rfl), B2⟩
            · have d3 : ((WC : Int) != 0) = true := by simpa using h
              have d4 : decide (WC = 0) = false := decide_eq_false h
              have HB3 := hidOf2 (show R = 1 by rw [HB2.out, if_pos ⟨by trivial, fun h2 => h h2.2.2⟩])
              clear HB2
              cases WB
              all_goals
                go_wp2
                go_ret
                exact ⟨ret_int (by rw [HB3.out]; rfl), B2⟩
        · obtain rfl : true = N := by rw [← hnum2]; exact (decide_eq_true (show (0 : Int) < (Z : Int) by omega)).symm
          cases L
          · cases M
            all_goals
              have e1 := hidOf2 HB2.out
              clear HB2
              go_wp2_with (first | (go_at_call 24; refine (hS _).mono ?_; rintro e w3 ⟨rfl, rfl⟩))
              go_ret
              exact ⟨ret_int (by rw [e1.out]; rfl), B1⟩
          · go_wp2_with (first | (go_at_call 24; refine (hS _).mono ?_; rintro e w3 ⟨rfl, rfl⟩) | (refine ldE r0 rfl _ rfl rfl ?_) | (refine ldV r1 rfl _ rfl rfl ?_))
            refine (hB _).mono ?_
            rintro x w2 ⟨rfl, b2⟩
            have B2 := B1.trans (b2.mono (by omega))
            have k3 := (b2.cell (p := ⟨q, 3, none⟩) h1.lt).trans c3
            clear B1 b2 h1 c0 c1 c2 c3 c4 c11 r0 r1 hB
            rcases HWC.out with h | h
            · subst h
              cases M <;> cases WB
              all_goals
                have e1 := hidOf2 HB2.out
                clear HB2
                go_wp2
                go_ret
                exact ⟨ret_int (by rw [e1.out]; rfl), B2⟩
            · have d3 : ((WC : Int) != 0) = true := by simpa using h
              have d4 : decide (WC = 0) = false := decide_eq_false h
              have HB3 := hidOf2 (show R = 1 by rw [HB2.out, if_pos ⟨by trivial, fun h2 => h h2.2.2⟩])
              clear HB2
              cases WB
              all_goals
                go_wp2
                go_ret
                exact ⟨ret_int (by rw [HB3.out]; rfl), B2⟩
  · have d1 : ((C : Int) != 0) = true := by simpa using hc
    have e1 := hidOf2 (show R = C by rw [HB.out, if_pos hc])
    clear HB
    go_wp2
    go_ret
    exact ⟨ret_int (by rw [e1.out]), B1⟩
end Go.Proofs.Ythalhidebkhclaa
