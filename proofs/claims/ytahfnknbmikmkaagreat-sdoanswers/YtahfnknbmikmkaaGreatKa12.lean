/- Contracts of the document's own: Plain, Encode. Contracts: the document's Within, entry, Check. Contracts: the document's Check. Contracts of the document's own: Decode. -/
import Derived.Test.YtahfnknbmikmkaaGreatKa11
import Derived.Test.YtahfnknbmikmkaaGreatKa10
import Derived.Test.YtahfnknbmikmkaaGreatKa3
namespace Go.Proofs.YtahfnknbmikmkaaGreat
open Go.RowKit Go.Proofs.Ty
set_option linter.unusedVariables false
set_option maxRecDepth 1000000
set_option maxHeartbeats 1000000 in
theorem r7Plain_v (v : Vl) (w : World) :
    Calls Tryz.prog 47 #[.agg v.arr] w fun e w' => e = .returned (.agg v.plain.arr) ∧ Below w.heap.size w w' := by
  have fA : Va w.heap.size v ((w.alloc (.cells v.arr 52)).alloc (.cells Vl.nul.arr 52)) := (Va.new w v).alloc _
  have fB : Va (w.heap.size + 1) Vl.nul ((w.alloc (.cells v.arr 52)).alloc (.cells Vl.nul.arr 52)) := by
    have := Va.new (w.alloc (.cells v.arr 52)) Vl.nul
    rw [size_alloc] at this
    exact this
  have bA : Below w.heap.size w ((w.alloc (.cells v.arr 52)).alloc (.cells Vl.nul.arr 52)) := ((Below.refl _ _).alloc (Nat.le_refl _) _).alloc (by rw [size_alloc]; omega) _
  have hI := r7Is_any v.t
  have hS := r7Size_any v.t
  have hz := siz_zero v.t
  have hk := kind_le v.t
  have H1 := hidOf (@Vl.plain_num v)
  have H3 := hidOf (@Vl.plain_txt v)
  have H0 := hidOf (@Vl.plain_none v)
  obtain ⟨A, hA⟩ : ∃ A, (w.alloc (.cells v.arr 52)).alloc (.cells #[.int .i64 0, .int .u64 0, .string ⟨#[]⟩] 52) = A := ⟨_, rfl⟩
  change Va _ _ ((w.alloc (.cells v.arr 52)).alloc (.cells #[.int .i64 0, .int .u64 0, .string ⟨#[]⟩] 52)) at fA fB
  change Below _ _ ((w.alloc (.cells v.arr 52)).alloc (.cells #[.int .i64 0, .int .u64 0, .string ⟨#[]⟩] 52)) at bA
  rw [hA] at fA fB bA
  have c0 := fA.c0
  have c1 := fA.c1
  have c2 := fA.c2
  have fr := fA.frozen
  have lA := fB.lt
  have fin : ∀ (u : Vl) (x : World), Va w.heap.size u x → Va (w.heap.size + 1) Vl.nul x → Below w.heap.size w x → Va (w.heap.size + 1) u (x.setRow (w.heap.size + 1) u.arr) ∧ Below w.heap.size w (x.setRow (w.heap.size + 1) u.arr) := fun u x h1 h2 h3 => ⟨h2.row u, below_row h3 (by omega) (by have := h1.lt; omega) _⟩
  go_enter Tryz.func47, Tryz.ntmps47
  generalize hq : w.heap.size = q at *
  by_cases hn : 0 < siz v.t
  · have dn : decide ((0 : Int) < (siz v.t : Int)) = true := decide_eq_true (by omega)
    have f2 := fA.setB ⟨#[]⟩ (by decide)
    have g2 := fB.other (p := ⟨q, 2, none⟩) (by simp) (.string ⟨#[]⟩)
    have B2 := bA.setCell (p := ⟨q, 2, none⟩) (Nat.le_refl _) (.string ⟨#[]⟩)
    have e1 := hidOf (H1.out (by omega))
    obtain ⟨D3, B3⟩ := fin _ _ f2 g2 B2
    go_wp2_with (first | (go_at_call 85; refine (hS _).mono ?_; rintro e w2 ⟨rfl, rfl⟩) | refine f2.ld rfl _ rfl rfl ?_ | refine g2.sd (v.setB ⟨#[]⟩ (by decide)) rfl _ _ rfl rfl rfl ?_)
    refine bodyPost_ret (v := .agg (v.setB ⟨#[]⟩ (by decide)).arr) (results_cell_row rfl _ _ (q + 1) 52 _ (0, 0) _ rfl D3 Tryz.underlying52 rfl infoV) rfl ⟨by rw [e1.out], by first | exact B3 | (rw [hq]; exact B3)⟩
  · have dn : decide ((0 : Int) < (siz v.t : Int)) = false := decide_eq_false (by omega)
    by_cases h0 : kind v.t = 0
    · have dk : (kind v.t != 0) = false := by simp [h0]
      rw [dk] at hI
      have e1 := hidOf (H0.out h0)
      obtain ⟨D3, B3⟩ := fin _ _ fA fB bA
      go_wp2_with (first | (go_at_call 85; refine (hS _).mono ?_; rintro e w2 ⟨rfl, rfl⟩) | (go_at_call 84; refine (hI _).mono ?_; rintro e w2 ⟨rfl, rfl⟩) | refine fA.ld rfl _ rfl rfl ?_ | refine fB.sd v rfl _ _ rfl rfl rfl ?_)
      refine bodyPost_ret (v := .agg v.arr) (results_cell_row rfl _ _ (q + 1) 52 _ (0, 0) _ rfl D3 Tryz.underlying52 rfl infoV) rfl ⟨by rw [e1.out], by first | exact B3 | (rw [hq]; exact B3)⟩
    · have dk : (kind v.t != 0) = true := by simp [h0]
      rw [dk] at hI
      have f2 := fA.setN 0 (by decide)
      have g2 := fB.other (p := ⟨q, 1, none⟩) (by simp) (.int .u64 ((0 : Nat) : Int))
      have B2 := bA.setCell (p := ⟨q, 1, none⟩) (Nat.le_refl _) (.int .u64 ((0 : Nat) : Int))
      have e1 := hidOf (H3.out (by omega))
      obtain ⟨D3, B3⟩ := fin _ _ f2 g2 B2
      go_wp2_with (first | (go_at_call 85; refine (hS _).mono ?_; rintro e w2 ⟨rfl, rfl⟩) | (go_at_call 84; refine (hI _).mono ?_; rintro e w2 ⟨rfl, rfl⟩) | refine f2.ld rfl _ rfl rfl ?_ | refine g2.sd (v.setN 0 (by decide)) rfl _ _ rfl rfl rfl ?_)
      refine bodyPost_ret (v := .agg (v.setN 0 (by decide)).arr) (results_cell_row rfl _ _ (q + 1) 52 _ (0, 0) _ rfl D3 Tryz.underlying52 rfl infoV) rfl ⟨by rw [e1.out], by first | exact B3 | (rw [hq]; exact B3)⟩
end Go.Proofs.YtahfnknbmikmkaaGreat
namespace Go.Proofs.YtahfnknbmikmkaaGreat
open Go.RowKit Go.Proofs.Ty Go.Sort Go.Lib
set_option linter.unusedVariables false
set_option maxRecDepth 1000000
set_option linter.unusedSimpArgs false
def wiB (e : En) (v : Vl) : Bool := decide (ordE v e.mn = 0) && decide (ordE v e.mx = 0)
def wiC (e : En) (v : Vl) : Nat := if wiB e v = false then 0 else if 0 < ordN v e.mx then 101253169 else if ordN v e.mn < 0 then 101253170 else 0
theorem btw_wi (e : En) : e.btw = true ↔ wiB e e.df = true ∧ wiC e e.df = 0 := by
  unfold En.btw wiC wiB
  generalize ordE e.df e.mn = E1
  generalize ordE e.df e.mx = E2
  generalize ordN e.df e.mn = N1
  generalize ordN e.df e.mx = N2
  by_cases h1 : E1 = 0 <;> by_cases h2 : E2 = 0 <;> simp [h1, h2]
  by_cases h3 : 0 < N2
  · simp [h3] <;> omega
  · by_cases h4 : N1 < 0
    · simp [h3, h4] <;> omega
    · simp [h3, h4] <;> omega
set_option maxHeartbeats 4000000 in
theorem r8Within_any (e : En) (v : Vl) (w : World) : Calls Tryz.prog 51 #[.agg e.arr, .agg v.arr] w fun x w' => x = .returned (.tuple #[.int .u32 (wiC e v), .bool (wiB e v)]) ∧ Below w.heap.size w w' := by
  have hO1 := r7Order_v v e.mn
  have hO2 := r7Order_v v e.mx
  have HB : Hid (wiB e v = (decide (ordE v e.mn = 0) && decide (ordE v e.mx = 0))) := rfl
  have HC : Hid (wiC e v = if wiB e v = false then 0 else if 0 < ordN v e.mx then 101253169 else if ordN v e.mn < 0 then 101253170 else 0) := rfl
  have h0 : Eb w.heap.size e ((w.alloc (.cells e.arr 93)).alloc (.cells v.arr 52)) := (Eb.new w e).alloc _
  have f0 : Va (w.heap.size + 1) v ((w.alloc (.cells e.arr 93)).alloc (.cells v.arr 52)) := by
    have := Va.new (w.alloc (.cells e.arr 93)) v
    rw [size_alloc] at this
    exact this
  have B0 : Below w.heap.size w ((w.alloc (.cells e.arr 93)).alloc (.cells v.arr 52)) := ((Below.refl _ _).alloc (Nat.le_refl _) _).alloc (by rw [size_alloc]; omega) _
  generalize wiC e v = C at *
  generalize wiB e v = B at *
  generalize ordE v e.mn = E1 at *
  generalize ordE v e.mx = E2 at *
  generalize ordN v e.mn = N1 at *
  generalize ordN v e.mx = N2 at *
  obtain ⟨q, hq⟩ : ∃ q, w.heap.size = q := ⟨_, rfl⟩
  go_enter Tryz.func51, Tryz.ntmps51
  go_upto_region 1 with fail
  generalize (w.alloc (.cells e.arr 93)).alloc (.cells v.arr 52) = W at *
  simp only [hq] at h0 f0 ⊢
  have r1 := h0.r5
  have s0 := B0.size
  go_wp2_with (first | (refine f0.ld rfl _ rfl rfl ?_) | (refine ldV r1 rfl _ rfl rfl ?_))
  refine (hO1 _).mono ?_
  rintro x w1 ⟨rfl, b1⟩
  have h1 := h0.below b1
  have f1 := f0.below b1
  have B1 := B0.trans (b1.mono s0)
  have s1 := B1.size
  clear h0 f0 B0 b1 hO1 r1 s0
  have r2 := h1.r8
  go_wp2_with (first | (refine f1.ld rfl _ rfl rfl ?_) | (refine ldV r2 rfl _ rfl rfl ?_))
  refine (hO2 _).mono ?_
  rintro x w2 ⟨rfl, b2⟩
  have B2 := B1.trans (b2.mono s1)
  clear h1 f1 B1 b2 hO2 r2 s1
  have fin : Below w.heap.size w w2 := B2
  by_cases hE : E1 = 0 ∧ E2 = 0
  · obtain ⟨rfl, rfl⟩ := hE
    have eB := hidOf2 (show B = true from HB.out)
    rw [eB.out, if_neg (by simp)] at HC
    by_cases h3 : 0 < N2
    · have d3 : decide (0 < N2) = true := decide_eq_true h3
      have e1 := hidOf2 (show C = 101253169 by rw [HC.out, if_pos h3])
      clear HC HB
      go_wp2
      go_ret2
      exact ⟨by rw [e1.out, eB.out]; rfl, by first | exact B2 | (rw [← hq]; exact B2)⟩
    · have d3 : decide (0 < N2) = false := decide_eq_false h3
      rw [if_neg h3] at HC
      by_cases h4 : N1 < 0
      · have d4 : decide (N1 < 0) = true := decide_eq_true h4
        have e1 := hidOf2 (show C = 101253170 by rw [HC.out, if_pos h4])
        clear HC HB
        go_wp2
        go_ret2
        exact ⟨by rw [e1.out, eB.out]; rfl, by first | exact B2 | (rw [← hq]; exact B2)⟩
      · have d4 : decide (N1 < 0) = false := decide_eq_false h4
        have e1 := hidOf2 (show C = 0 by rw [HC.out, if_neg h4])
        clear HC HB
        go_wp2
        go_ret2
        exact ⟨by rw [e1.out, eB.out]; rfl, by first | exact B2 | (rw [← hq]; exact B2)⟩
  · have eB := hidOf2 (show B = false by
      rw [HB.out, Bool.and_eq_false_iff]
      rcases Decidable.not_and_iff_or_not.1 hE with h | h
      · exact .inl (decide_eq_false h)
      · exact .inr (decide_eq_false h))
    rw [eB.out, if_pos rfl] at HC
    have e1 := hidOf2 HC.out
    clear HC HB
    by_cases h1 : E1 = 0
    · have h2 : ¬ E2 = 0 := fun h => hE ⟨h1, h⟩
      have d2 : ((E2 : Int) != 0) = true := by simpa using h2
      subst h1
      clear hE
      go_wp2
      go_ret2
      exact ⟨by rw [e1.out, eB.out]; rfl, by first | exact B2 | (rw [← hq]; exact B2)⟩
    · have d1 : ((E1 : Int) != 0) = true := by simpa using h1
      clear hE
      go_wp2
      go_ret2
      exact ⟨by rw [e1.out, eB.out]; rfl, by first | exact B2 | (rw [← hq]; exact B2)⟩
set_option maxHeartbeats 4000000 in
theorem r8entry_any (e : En) (w : World) : Calls Tryz.prog 126 #[.agg e.arr] w fun x w' => x = .returned (.int .i64 e.can) ∧ Below w.heap.size w w' := by
  have hC := r7Check_v e.df
  have hS := r7Size_any e.df.t
  have hB := r8Within_any e e.df
  have HB : Hid (e.can = if e.df.chk ≠ 0 then e.df.chk else if e.ac < 0 ∨ 3 < e.ac then 1 else if e.li = true ∧ ¬ (0 < siz e.df.t ∧ e.btw = true) then 1 else if e.mp = true ∧ ¬ 0 < siz e.df.t then 1 else 0) := rfl
  have HW := hidOf2 (btw_wi e)
  have h0 := Eb.new w e
  have B0 : Below w.heap.size w (w.alloc (.cells e.arr 93)) := (Below.refl _ _).alloc (Nat.le_refl _) _
  generalize e.df.chk = C at *
  generalize e.can = R at *
  generalize wiC e e.df = WC at *
  generalize wiB e e.df = WB at *
  obtain ⟨q, hq⟩ : ∃ q, w.heap.size = q := ⟨_, rfl⟩
  go_enter Tryz.func126, Tryz.ntmps126
  go_upto_region 1 with fail
  generalize (w.alloc (.cells e.arr 93)) = W at *
  have l0 := h0.lt
  simp only [hq] at h0 l0 ⊢
  have r1 := h0.r11
  go_wp2_with (first | (refine ldV r1 rfl _ rfl rfl ?_))
  refine (hC _).mono ?_
  rintro x w1 ⟨rfl, b1⟩
  have h1 := h0.below b1
  have B1 := B0.trans (b1.mono (by omega))
  have s1 := b1.size
  clear h0 B0 b1 hC r1
  by_cases hc : C = 0
  · subst hc
    rw [if_neg (by simp)] at HB
    obtain ⟨c0, c1, c2, c3, c4, c11⟩ := h1.c
    have r0 := h1.r0
    have r1 := h1.r11
    generalize hnum : decide (0 < siz e.df.t) = N at *
    have HN : Hid (decide (0 < siz e.df.t) = N) := hnum
    have hnum2 : decide ((0 : Int) < (siz e.df.t : Int)) = N := by rw [← hnum]; simp
    clear hnum
    generalize siz e.df.t = Z at *
    generalize e.ac = A at *
    by_cases ha : A < 0
    · have d1 : decide (A < 0) = true := decide_eq_true ha
      have e1 := hidOf2 (show R = 1 by rw [HB.out, if_pos (.inl ha)])
      clear HB HN
      go_wp2_with (first | (go_at_call 85; refine (hS _).mono ?_; rintro e w3 ⟨rfl, rfl⟩))
      go_ret
      exact ⟨ret_int (by rw [e1.out]; rfl), B1⟩
    · have d1 : decide (A < 0) = false := decide_eq_false ha
      by_cases ha3 : 3 < A
      · have d2 : decide (3 < A) = true := decide_eq_true ha3
        have e1 := hidOf2 (show R = 1 by rw [HB.out, if_pos (.inr ha3)])
        clear HB HN
        go_wp2_with (first | (go_at_call 85; refine (hS _).mono ?_; rintro e w3 ⟨rfl, rfl⟩))
        go_ret
        exact ⟨ret_int (by rw [e1.out]; rfl), B1⟩
      · have d2 : decide (3 < A) = false := decide_eq_false ha3
        rw [if_neg (fun h => h.elim ha ha3)] at HB
        have HB2 := hidOf2 (show R = if e.li = true ∧ ¬ (N = true ∧ (WB = true ∧ WC = 0)) then 1 else if e.mp = true ∧ ¬ N = true then 1 else 0 by
          have h1 := HB.out
          simp only [HW.out] at h1
          have h2 := HN.out
          subst h2
          simpa using h1)
        clear HB HN HW
        generalize e.li = L at *
        generalize e.mp = M at *
        have HWC : Hid (WC = 0 ∨ WC ≠ 0) := by
          by_cases h : WC = 0
          · exact .inl h
          · exact .inr h
        rcases Nat.eq_zero_or_pos Z with hz | hz
        · subst hz
          obtain rfl : false = N := by rw [← hnum2]; rfl
          clear hnum2
          cases L
          · cases M
            all_goals
              have e1 := hidOf2 HB2.out
              clear HB2
              go_wp2_with (first | (go_at_call 85; refine (hS _).mono ?_; rintro e w3 ⟨rfl, rfl⟩))
              go_ret
              exact ⟨ret_int (by rw [e1.out]; rfl), B1⟩
          · go_wp2_with (first | (go_at_call 85; refine (hS _).mono ?_; rintro e w3 ⟨rfl, rfl⟩) | (refine ldE r0 rfl _ rfl rfl ?_) | (refine ldV r1 rfl _ rfl rfl ?_))
            refine (hB _).mono ?_
            rintro x w2 ⟨rfl, b2⟩
            have B2 := B1.trans (b2.mono (by omega))
            have k3 := (b2.cell (p := ⟨q, 3, none⟩) h1.lt).trans c3
            clear B1 b2 h1 c0 c1 c2 c3 c4 c11 r0 r1 hB
            rcases HWC.out with h | h
            · subst h
              cases M <;> cases WB
              all_goals
                have e1 := hidOf2 HB2.out
                clear HB2
                go_wp2
                go_ret
                exact ⟨ret_int (by rw [e1.out]; rfl), B2⟩
            · have d3 : ((WC : Int) != 0) = true := by simpa using h
              have d4 : decide (WC = 0) = false := decide_eq_false h
              have HB3 := hidOf2 (show R = 1 by rw [HB2.out, if_pos ⟨by trivial, fun h2 => h h2.2.2⟩])
              clear HB2
              cases WB
              all_goals
                go_wp2
                go_ret
                exact ⟨ret_int (by rw [HB3.out]; rfl), B2⟩
        · obtain rfl : true = N := by rw [← hnum2]; exact (decide_eq_true (show (0 : Int) < (Z : Int) by omega)).symm
          cases L
          · cases M
            all_goals
              have e1 := hidOf2 HB2.out
              clear HB2
              go_wp2_with (first | (go_at_call 85; refine (hS _).mono ?_; rintro e w3 ⟨rfl, rfl⟩))
              go_ret
              exact ⟨ret_int (by rw [e1.out]; rfl), B1⟩
          · go_wp2_with (first | (go_at_call 85; refine (hS _).mono ?_; rintro e w3 ⟨rfl, rfl⟩) | (refine ldE r0 rfl _ rfl rfl ?_) | (refine ldV r1 rfl _ rfl rfl ?_))
            refine (hB _).mono ?_
            rintro x w2 ⟨rfl, b2⟩
            have B2 := B1.trans (b2.mono (by omega))
            have k3 := (b2.cell (p := ⟨q, 3, none⟩) h1.lt).trans c3
            clear B1 b2 h1 c0 c1 c2 c3 c4 c11 r0 r1 hB
            rcases HWC.out with h | h
            · subst h
              cases M <;> cases WB
              all_goals
                have e1 := hidOf2 HB2.out
                clear HB2
                go_wp2
                go_ret
                exact ⟨ret_int (by rw [e1.out]; rfl), B2⟩
            · have d3 : ((WC : Int) != 0) = true := by simpa using h
              have d4 : decide (WC = 0) = false := decide_eq_false h
              have HB3 := hidOf2 (show R = 1 by rw [HB2.out, if_pos ⟨by trivial, fun h2 => h h2.2.2⟩])
              clear HB2
              cases WB
              all_goals
                go_wp2
                go_ret
                exact ⟨ret_int (by rw [HB3.out]; rfl), B2⟩
  · have d1 : ((C : Int) != 0) = true := by simpa using hc
    have e1 := hidOf2 (show R = C by rw [HB.out, if_pos hc])
    clear HB
    go_wp2
    go_ret
    exact ⟨ret_int (by rw [e1.out]), B1⟩
end Go.Proofs.YtahfnknbmikmkaaGreat
namespace Go.Proofs.YtahfnknbmikmkaaGreat
open Go.RowKit Go.Proofs.Ty Go.Sort Go.Lib
set_option linter.unusedVariables false
set_option maxRecDepth 1000000
set_option linter.unusedSimpArgs false
theorem any_pl (l : List En) (e : En) (k : Nat) : (l.take k).any (fun x => x.pl == e.pl) = true ↔ ∃ j, ∃ h : j < l.length, j < k ∧ l[j].ix = e.ix ∧ l[j].sb = e.sb := by
  rw [List.any_eq_true]
  constructor
  · rintro ⟨x, hx, he⟩
    obtain ⟨j, hj, rfl⟩ := List.getElem_of_mem hx
    rw [List.length_take] at hj
    rw [List.getElem_take] at he
    have := (En.pl_iff _ _).1 (beq_iff_eq.1 he)
    exact ⟨j, by omega, by omega, this.1, this.2⟩
  · rintro ⟨j, hj, hk, h1, h2⟩
    refine ⟨l[j], ?_, beq_iff_eq.2 ((En.pl_iff _ _).2 ⟨h1, h2⟩)⟩
    rw [List.mem_take_iff_getElem]
    exact ⟨j, by omega, rfl⟩
set_option maxHeartbeats 8000000 in
theorem r8Check_any (v : Value) (l : List En) (w : World) (hW : Wide 14 enC w v l) (hn : l.length ≤ 4000000000000) :
    Calls Tryz.prog 100 #[v] w fun x w' => x = .returned (.int .i64 (chkL l)) ∧ Below w.heap.size w w' := by
  have HR : Hid (chkL l = if 1024 < l.length then 2 else chkG (l.take 0) (l.drop 0)) := rfl
  generalize chkL l = R at *
  obtain ⟨ao, cp, rfl, _, hc⟩ := hW
  have HC : Hid (∀ (wr : World), Below w.heap.size w wr → ∀ k (hk : k < l.length), ∃ b off, ao = some ⟨b, off, none⟩ ∧ b < w.heap.size ∧ wr.rangeAt b (off + k * 14) (enC l[k])) := fun wr hb k hk => Wide.at hc hb k hk
  clear hc
  go_enter Tryz.func100, Tryz.ntmps100
  by_cases h1 : 1024 < l.length
  · have d1 : decide ((1024 : Int) < (l.length : Int)) = true := by simp; omega
    have e1 := hidOf2 (show R = 2 by rw [HR.out, if_pos h1])
    clear HR
    go_wp2
    go_ret
    exact ⟨ret_int (by rw [e1.out]; rfl), Below.refl _ _⟩
  · have d1 : decide ((1024 : Int) < (l.length : Int)) = false := by simp; omega
    rw [if_neg h1] at HR
    have hL : l.length ≤ 1024 := by omega
    clear h1
    go_wp2
    go_loopw [3] (fun i x => ∃ k : Nat, k ≤ l.length ∧ i = .int .i64 k ∧ Hid (R = chkG (l.take k) (l.drop k)) ∧ Below w.heap.size w x) (fun i _ => l.length - (intOf i).toNat)
    case atStart => exact ⟨0, Nat.zero_le _, rfl, HR, Below.refl _ _⟩
    case round =>
      clear HR
      obtain ⟨k, hk, rfl, HR, B1⟩ := hrel
      by_cases hkl : k < l.length
      · obtain ⟨b, off, rfl, hb, hR⟩ := HC.out wr B1 k hkl
        have HS := hidOf2 (HR.out.trans (chkG_step l k hkl))
        have HA : Hid ((l.take k).any (fun x => x.pl == l[k].pl) = true ↔ ∃ j, ∃ h : j < l.length, j < k ∧ l[j].ix = l[k].ix ∧ l[j].sb = l[k].sb) := any_pl l l[k] k
        have hE := r8entry_any l[k] wr
        have HK := hidOf2 (fun x hb => HC.out x hb k hkl)
        generalize l[k] = e at *
        clear HR
        go_wp2_with (first | (refine ldE hR rfl _ rfl rfl ?_))
        refine hE.mono ?_
        rintro x w2 ⟨rfl, b2⟩
        have B2 := B1.trans (b2.mono B1.size)
        clear hE B1 b2 hR
        by_cases hcz : e.can = 0
        · rw [if_neg (by rw [hcz]; simp)] at HS
          rw [hcz]
          go_wp2
          go_loopw [5] (fun i x => ∃ j : Nat, j ≤ k ∧ i = .int .i64 j ∧ Hid (∀ m (hm : m < l.length), m < j → ¬ (l[m].ix = e.ix ∧ l[m].sb = e.sb)) ∧ Below w.heap.size w x) (fun i _ => k - (intOf i).toNat)
          case atStart => exact ⟨0, Nat.zero_le _, rfl, fun m hm h => by omega, B2⟩
          case round =>
            obtain ⟨j, hj, rfl, HJ, B3⟩ := hrel
            by_cases hjk : j < k
            · obtain ⟨b', off', he1, hb1, hR1⟩ := HC.out _ B3 j (by omega)
              obtain ⟨b2', off2', he2, hb2, hR2⟩ := HK.out _ B3
              have ha1 : b' = b ∧ off' = off := by injection he1 with h; injection h with h1 h2; exact ⟨h1.symm, h2.symm⟩
              obtain ⟨rfl, rfl⟩ := ha1
              have ha2 : b2' = b' ∧ off2' = off' := by injection he2 with h; injection h with h1 h2; exact ⟨h1.symm, h2.symm⟩
              obtain ⟨rfl, rfl⟩ := ha2
              have c0 := hR1 0 _ rfl
              have c1 := hR1 1 _ rfl
              have k0 := hR2 0 _ rfl
              have k1 := hR2 1 _ rfl
              simp only [Nat.add_zero] at c0 k0
              have HN : Hid (¬ (l[j].ix = e.ix ∧ l[j].sb = e.sb) → ∀ m (hm : m < l.length), m < j + 1 → ¬ (l[m].ix = e.ix ∧ l[m].sb = e.sb)) := by
                intro h m hm h1
                rcases Nat.lt_or_ge m j with h3 | h3
                · exact HJ.out m hm h3
                · have : m = j := by omega
                  subst this; exact h
              have HY : Hid (l[j].ix = e.ix ∧ l[j].sb = e.sb → R = 5) := fun h => HS.out.trans (if_pos (HA.out.2 ⟨j, by omega, hjk, h⟩))
              have hkl1 : k < l.length := hkl
              have hjl1 : j < l.length := by omega
              clear hR1 hR2 he1 he2
              generalize l[j].ix = X1 at *
              generalize l[j].sb = X2 at *
              generalize e.ix = Y1 at *
              generalize e.sb = Y2 at *
              by_cases hx : X1 = Y1
              · subst hx
                by_cases hy : X2 = Y2
                · subst hy
                  have e1 := hidOf2 (HY.out ⟨rfl, rfl⟩)
                  clear HY HN HJ HS HA
                  go_upto_region 12 with fail
                  go_quiet (fail)
                  go_wp2
                  go_ret
                  exact ⟨ret_int (by rw [e1.out]; rfl), bdr B3 _⟩
                · have d3 : ((X2 : Int) == (Y2 : Int)) = false := by simp; omega
                  have e1 := hidOf2 (HN.out (fun h => hy h.2))
                  clear HY HN HJ
                  go_upto_region 12 with fail
                  go_quiet (fail)
                  go_wp2
                  go_roundw
                  case rel => exact ⟨j + 1, by omega, by go_num, e1, bdr B3 _⟩
                  case measure => simp [intOf]; omega
              · have d3 : ((X1 : Int) == (Y1 : Int)) = false := by simp; omega
                have e1 := hidOf2 (HN.out (fun h => hx h.1))
                clear HY HN HJ
                go_upto_region 12 with fail
                go_quiet (fail)
                go_wp2
                go_roundw
                case rel => exact ⟨j + 1, by omega, by go_num, e1, bdr B3 _⟩
                case measure => simp [intOf]; omega
            · have hjk2 : j = k := by omega
              subst hjk2
              have e1 := hidOf2 (show R = chkG (l.take (j + 1)) (l.drop (j + 1)) from HS.out.trans (if_neg (fun h => by
                obtain ⟨m, hm, hmj, h3⟩ := HA.out.1 h
                exact HJ.out m hm hmj h3)))
              clear HS HA HJ
              go_wp2
              go_roundw
              case rel => exact ⟨j + 1, by omega, by go_num, e1, B3⟩
              case measure => simp [intOf]; omega
        · have d1 : ((e.can : Int) != 0) = true := by simpa using hcz
          rw [if_pos hcz] at HS
          generalize e.can = CN at *
          go_wp2
          go_ret
          exact ⟨ret_int (by rw [HS.out]), B2⟩
      · have e1 := hidOf2 (show R = 0 by rw [HR.out, List.drop_eq_nil_of_le (by omega)]; rfl)
        clear HR
        go_wp2
        go_ret
        exact ⟨ret_int (by rw [e1.out]; rfl), B1⟩
end Go.Proofs.YtahfnknbmikmkaaGreat
namespace Go.Proofs.YtahfnknbmikmkaaGreat
open Go.RowKit Go.Proofs.Ty
set_option linter.unusedVariables false
set_option maxRecDepth 1000000
theorem wide_dec {t : Int} {l : List UInt8} (h : 0 < siz t) (hl : l.length = siz t) : wideN (kind t == 2) l = decN t l := by
  have hk : kind t = 1 ∨ kind t = 2 := by
    have := siz_zero t
    omega
  rcases hk with hk | hk
  · rw [hk, decN, if_pos hk, wideN, if_neg (by simp)]
  · rw [hk, decN, if_neg (by omega), if_pos hk]
    have e := low_join l
    rw [hl] at e
    rw [← wide_low (joinL l) (siz t) (wid t) (sz2 hk), e]
    rfl
theorem decN_lt {t : Int} {l : List UInt8} (h : 0 < siz t) (hl : l.length = siz t) : decN t l < 18446744073709551616 := by
  have h8 := siz_le t
  unfold decN
  split
  · exact join8 (by omega)
  · split
    · rename_i h1 h2
      exact extN_lt _ _ (kind_wid2 h2)
    · omega
theorem rdec_results {Q : Nat} {v : Vl} {e : Int} {w : World} (h : Va Q v w) (tmps : Array Value) (h4 : tmps[4]?.getD undef = .pointer (some ⟨Q, 0, none⟩)) (h5 : tmps[5]?.getD undef = .int .i64 e) :
    (results Tryz.f50 tmps).run Tryz.prog w = .ok (.tuple #[.agg v.arr, .int .i64 e]) w := by
  have l0 := h.load
  simp [Go.results, Tryz.results50, h4, h5, asAddr, l0]
set_option maxHeartbeats 1000000 in
theorem r7Decode_v (t : Int) (ht : -9223372036854775808 ≤ t ∧ t < 9223372036854775808) (x : Value) (l : List UInt8) (w : World) (hB : Bytes w x l) :
    Calls Tryz.prog 50 #[.int .i64 t, x] w fun e w' => e = .returned (.tuple #[.agg (decW t l).arr, .int .i64 (decE t l)]) ∧ Below w.heap.size w w' := by
  have fA : Va w.heap.size Vl.nul (w.alloc (.cells #[.int .i64 0, .int .u64 0, .string ⟨#[]⟩] 52)) := Va.new w Vl.nul
  have bA : Below w.heap.size w (w.alloc (.cells #[.int .i64 0, .int .u64 0, .string ⟨#[]⟩] 52)) := (Below.refl _ _).alloc (Nat.le_refl _) _
  have sA := size_alloc w (.cells #[.int .i64 0, .int .u64 0, .string ⟨#[]⟩] 52)
  obtain ⟨W, hW⟩ : ∃ W, w.alloc (.cells #[.int .i64 0, .int .u64 0, .string ⟨#[]⟩] 52) = W := ⟨_, rfl⟩
  rw [hW] at fA bA sA
  have BW := hB.below bA
  have hI := r7Is_any t
  have hS := r7Size_any t
  have HF : Hid (fitE t l.length = if kind t = 0 then 1 else if l.length < siz t then 3 else if (0 < siz t ∧ siz t < l.length) ∨ 65536 < l.length then 2 else 0) := rfl
  have HE : Hid (decE t l = if fitE t l.length ≠ 0 then fitE t l.length else if chk t (decN t l) (decS t l) ≠ 0 then 8 else 0) := rfl
  have HW : Hid (decW t l = if decE t l = 0 then mkV t (decN t l) (decS t l) else Vl.nul) := rfl
  have hx : ∃ ao cap, x = .slice ao l.length cap := by obtain ⟨ao, cap, h, _⟩ := hB; exact ⟨ao, cap, h⟩
  obtain ⟨ao, cap, rfl⟩ := hx
  have hWd := hidOf (@wide_dec t l)
  have hDl := hidOf (@decN_lt t l)
  have hDS := hidOf (show 0 < siz t → decS t l = ⟨#[]⟩ by
    intro h
    have := siz_zero t
    unfold decS
    rw [if_pos (by omega)])
  have hDT := hidOf (show ¬ 0 < siz t → decS t l = ⟨l.toArray⟩ ∧ decN t l = 0 by
    intro h
    have := siz_zero t
    unfold decS decN
    rw [if_neg (by omega), if_neg (by omega), if_neg (by omega)]
    exact ⟨rfl, rfl⟩)
  have hwide := fun h w hB => r7Wide_v t (.slice ao l.length cap) l w h hB
  have h8 := siz_le t
  generalize hdE : decE t l = E at *
  generalize decW t l = V at *
  generalize fitE t l.length = F at *
  obtain ⟨q, hq⟩ : ∃ q, w.heap.size = q := ⟨_, rfl⟩
  rw [hq] at fA sA
  have D4 := fA.row Vl.nul
  have B4 := below_row bA (by omega : w.heap.size ≤ q) (by omega) Vl.nul.arr
  go_enter Tryz.func50, Tryz.ntmps50
  by_cases h0 : kind t = 0
  · have dk : (kind t != 0) = false := by simp [h0]
    rw [dk] at hI
    have e0 := hidOf (show F = 1 by rw [HF.out, if_pos h0])
    have e1 := hidOf (show E = 1 by rw [HE.out, e0.out]; simp)
    have e2 := hidOf (show V = Vl.nul by rw [HW.out, if_neg (by rw [e1.out]; decide)])
    clear HE HW HF
    go_wp2_with (first | (go_at_call 84; refine (hI _).mono ?_; rintro e w2 ⟨rfl, rfl⟩) | refine fA.sd Vl.nul rfl _ _ rfl rfl rfl ?_)
    exact bodyPost_ret (rdec_results D4 _ rfl rfl) rfl ⟨by rw [e1.out, e2.out]; rfl, B4⟩
  · have dk : (kind t != 0) = true := by simp [h0]
    rw [dk] at hI
    have f1 := fA.alloc (.cells #[.int .i64 t, .int .u64 0, .string ⟨#[]⟩] 52)
    have g1 : Va W.heap.size (⟨t, 0, ⟨#[]⟩, ht, by decide, by decide⟩ : Vl) (W.alloc (.cells #[.int .i64 t, .int .u64 0, .string ⟨#[]⟩] 52)) := Va.new W _
    have b1 : Below W.heap.size W (W.alloc (.cells #[.int .i64 t, .int .u64 0, .string ⟨#[]⟩] 52)) := (Below.refl _ _).alloc (Nat.le_refl _) _
    have B1 := bA.trans (b1.mono (by omega))
    have BY := BW.below b1
    rw [sA] at g1
    have l1 := f1.lt
    clear D4 B4
    have D5 := f1.row Vl.nul
    have B5 := below_row B1 (by omega : w.heap.size ≤ q) (by omega) Vl.nul.arr
    have HR := hidOf (And.intro f1 (And.intro g1 (And.intro B1 BY)))
    by_cases hs3 : l.length < siz t
    · have e0 := hidOf (show F = 3 by rw [HF.out, if_neg h0, if_pos hs3])
      have e1 := hidOf (show E = 3 by rw [HE.out, e0.out]; simp)
      have e2 := hidOf (show V = Vl.nul by rw [HW.out, if_neg (by rw [e1.out]; decide)])
      have d3 : decide ((l.length : Int) < (siz t : Int)) = true := decide_eq_true (by omega)
      clear HE HW HF
      go_wp2_with (first | (go_at_call 84; refine (hI _).mono ?_; rintro e w2 ⟨rfl, rfl⟩) | (go_at_call 85; refine (hS _).mono ?_; rintro e w2 ⟨rfl, rfl⟩) | refine f1.sd Vl.nul rfl _ _ rfl rfl rfl ?_)
      exact bodyPost_ret (rdec_results D5 _ rfl rfl) rfl ⟨by rw [e1.out, e2.out]; rfl, B5⟩
    · have d3 : decide ((l.length : Int) < (siz t : Int)) = false := decide_eq_false (by omega)
      by_cases hz : 0 < siz t
      · have dz : decide ((0 : Int) < (siz t : Int)) = true := decide_eq_true (by omega)
        by_cases hg : siz t < l.length
        · have dg : decide ((siz t : Int) < (l.length : Int)) = true := decide_eq_true (by omega)
          have e0 := hidOf (show F = 2 by rw [HF.out, if_neg h0, if_neg hs3, if_pos (.inl ⟨hz, hg⟩)])
          have e1 := hidOf (show E = 2 by rw [HE.out, e0.out]; simp)
          have e2 := hidOf (show V = Vl.nul by rw [HW.out, if_neg (by rw [e1.out]; decide)])
          clear HE HW HF
          go_wp2_with (first | (go_at_call 84; refine (hI _).mono ?_; rintro e w2 ⟨rfl, rfl⟩) | (go_at_call 85; refine (hS _).mono ?_; rintro e w2 ⟨rfl, rfl⟩) | refine f1.sd Vl.nul rfl _ _ rfl rfl rfl ?_)
          exact bodyPost_ret (rdec_results D5 _ rfl rfl) rfl ⟨by rw [e1.out, e2.out]; rfl, B5⟩
        · have dg : decide ((siz t : Int) < (l.length : Int)) = false := decide_eq_false (by omega)
          have dm : decide ((65536 : Int) < (l.length : Int)) = false := decide_eq_false (by omega)
          have hls : l.length = siz t := by omega
          have e0 := hidOf (show F = 0 by rw [HF.out, if_neg h0, if_neg hs3, if_neg (by omega)])
          rw [e0.out] at HE
          have hd := hDl.out hz hls
          have hw2 := hwide (by omega)
          rw [hWd.out hz hls] at hw2
          have hSS := hDS.out hz
          clear hls HF e0 hWd hDl hDS hDT hwide D5 B5 f1 g1 b1 B1 BY fA bA
          go_wp2_with (first | (go_at_call 84; refine (hI _).mono ?_; rintro e w2 ⟨rfl, rfl⟩) | (go_at_call 85; refine (hS _).mono ?_; rintro e w2 ⟨rfl, rfl⟩))
          obtain ⟨f1, g1, B1, BY⟩ := HR.out
          clear HR
          generalize w2.alloc (.cells #[.int .i64 t, .int .u64 0, .string ⟨#[]⟩] 52) = w5 at *
          have c1 := g1.c1
          have c2 := g1.c2
          have fr := g1.frozen
          have fX := f1.other (p := ⟨q + 1, 1, none⟩) (by simp) (.int .u64 (decN t l))
          have gX : Va (q + 1) (⟨t, decN t l, ⟨#[]⟩, ht, hd, by decide⟩ : Vl) (w5.setCell ⟨q + 1, 1, none⟩ (.int .u64 (decN t l))) := g1.setN (decN t l) hd
          have BX := B1.setCell (p := ⟨q + 1, 1, none⟩) (by omega : w.heap.size ≤ q + 1) (.int .u64 (decN t l))
          have hC := r7Check_v (⟨t, decN t l, ⟨#[]⟩, ht, hd, by decide⟩ : Vl)
          have hu : (⟨t, decN t l, ⟨#[]⟩, ht, hd, by decide⟩ : Vl).chk = chk t (decN t l) (decS t l) := by rw [hSS]; rfl
          have hV : mkV t (decN t l) (decS t l) = (⟨t, decN t l, ⟨#[]⟩, ht, hd, by decide⟩ : Vl) := by rw [hSS]; exact mkV_eq _ _ _
          rw [hu] at hC
          rw [hV] at HW
          clear hu hV
          generalize hUU : (⟨t, decN t l, ⟨#[]⟩, ht, hd, by decide⟩ : Vl) = U at *
          clear hUU
          refine (hw2 _ BY).mono ?_
          rintro e w5 ⟨rfl, rfl⟩
          go_wp2_with (refine gX.ld rfl _ rfl rfl ?_)
          refine (hC _).mono ?_
          rintro e w3 ⟨rfl, b3⟩
          have f3 := fX.below b3
          have g3 := gX.below b3
          have B3 := BX.trans (b3.mono (by have := fX.lt; omega))
          have s3 := b3.size
          by_cases hc : chk t (decN t l) (decS t l) = 0
          · have e1 := hidOf (show E = 0 by rw [HE.out]; simp [hc])
            have e2 := hidOf (show V = U by rw [HW.out, if_pos e1.out])
            rw [hc]
            have D4 := f3.row U
            have B4 := below_row B3 (by omega : w.heap.size ≤ q) (by have := f3.lt; omega) U.arr
            clear HE HW
            go_wp2_with (first | refine g3.ld rfl _ rfl rfl ?_ | refine f3.sd U rfl _ _ rfl rfl rfl ?_)
            exact bodyPost_ret (rdec_results D4 _ rfl rfl) rfl ⟨by rw [e1.out, e2.out]; rfl, B4⟩
          · have e1 := hidOf (show E = 8 by rw [HE.out]; simp [hc])
            have e2 := hidOf (show V = Vl.nul by rw [HW.out, if_neg (by rw [e1.out]; decide)])
            have d0 : ((chk t (decN t l) (decS t l) : Int) != 0) = true := by simpa using hc
            generalize chk t (decN t l) (decS t l) = C at *
            have D4 := f3.row Vl.nul
            have B4 := below_row B3 (by omega : w.heap.size ≤ q) (by have := f3.lt; omega) Vl.nul.arr
            clear HE HW
            go_wp2_with (first | refine f3.sd Vl.nul rfl _ _ rfl rfl rfl ?_)
            exact bodyPost_ret (rdec_results D4 _ rfl rfl) rfl ⟨by rw [e1.out, e2.out]; rfl, B4⟩
      · have dz : decide ((0 : Int) < (siz t : Int)) = false := decide_eq_false (by omega)
        by_cases hg : 65536 < l.length
        · have dg : decide ((65536 : Int) < (l.length : Int)) = true := decide_eq_true (by omega)
          have e0 := hidOf (show F = 2 by rw [HF.out, if_neg h0, if_neg hs3, if_pos (.inr hg)])
          have e1 := hidOf (show E = 2 by rw [HE.out, e0.out]; simp)
          have e2 := hidOf (show V = Vl.nul by rw [HW.out, if_neg (by rw [e1.out]; decide)])
          clear HE HW HF
          go_wp2_with (first | (go_at_call 84; refine (hI _).mono ?_; rintro e w2 ⟨rfl, rfl⟩) | (go_at_call 85; refine (hS _).mono ?_; rintro e w2 ⟨rfl, rfl⟩) | refine f1.sd Vl.nul rfl _ _ rfl rfl rfl ?_)
          exact bodyPost_ret (rdec_results D5 _ rfl rfl) rfl ⟨by rw [e1.out, e2.out]; rfl, B5⟩
        · have dg : decide ((65536 : Int) < (l.length : Int)) = false := decide_eq_false (by omega)
          have e0 := hidOf (show F = 0 by rw [HF.out, if_neg h0, if_neg hs3, if_neg (by omega)])
          rw [e0.out] at HE
          obtain ⟨hSS, hNN⟩ := hDT.out hz
          have hTx := hidOf BY.text
          have hs : (⟨l.toArray⟩ : ByteArray).size ≤ maxLen := by
            simp only [ByteArray.size, List.size_toArray, maxLen]
            omega
          clear HF e0 hWd hDl hDS hDT hwide D5 B5
          have fr := g1.frozen
          have c2 := g1.c2
          have hTy := hTx.out
          have fX := fA.alloc (.cells #[.int .i64 t, .int .u64 0, .string ⟨l.toArray⟩] 52)
          have gX : Va (q + 1) (⟨t, 0, ⟨l.toArray⟩, ht, by decide, hs⟩ : Vl) (W.alloc (.cells #[.int .i64 t, .int .u64 0, .string ⟨l.toArray⟩] 52)) := by have := Va.new W (⟨t, 0, ⟨l.toArray⟩, ht, by decide, hs⟩ : Vl); rw [sA] at this; exact this
          have BX := bA.trans (((Below.refl _ _).alloc (Nat.le_refl _) (.cells #[.int .i64 t, .int .u64 0, .string ⟨l.toArray⟩] 52)).mono (by omega))
          have hC := r7Check_v (⟨t, 0, ⟨l.toArray⟩, ht, by decide, hs⟩ : Vl)
          have hu : (⟨t, 0, ⟨l.toArray⟩, ht, by decide, hs⟩ : Vl).chk = chk t (decN t l) (decS t l) := by rw [hSS, hNN]; rfl
          have hV : mkV t (decN t l) (decS t l) = (⟨t, 0, ⟨l.toArray⟩, ht, by decide, hs⟩ : Vl) := by rw [hSS, hNN]; exact mkV_eq _ _ _
          rw [hu] at hC
          rw [hV] at HW
          clear hu hV
          generalize hUU : (⟨t, 0, ⟨l.toArray⟩, ht, by decide, hs⟩ : Vl) = U at *
          clear hUU
          go_wp2_with (first | (go_at_call 84; refine (hI _).mono ?_; rintro e w2 ⟨rfl, rfl⟩) | (go_at_call 85; refine (hS _).mono ?_; rintro e w2 ⟨rfl, rfl⟩) | refine gX.ld rfl _ rfl rfl ?_)
          refine (hC _).mono ?_
          rintro e w3 ⟨rfl, b3⟩
          have f3 := fX.below b3
          have g3 := gX.below b3
          have B3 := BX.trans (b3.mono (by have := fX.lt; omega))
          have s3 := b3.size
          by_cases hc : chk t (decN t l) (decS t l) = 0
          · have e1 := hidOf (show E = 0 by rw [HE.out]; simp [hc])
            have e2 := hidOf (show V = U by rw [HW.out, if_pos e1.out])
            rw [hc]
            have D4 := f3.row U
            have B4 := below_row B3 (by omega : w.heap.size ≤ q) (by have := f3.lt; omega) U.arr
            clear HE HW
            go_wp2_with (first | refine g3.ld rfl _ rfl rfl ?_ | refine f3.sd U rfl _ _ rfl rfl rfl ?_)
            exact bodyPost_ret (rdec_results D4 _ rfl rfl) rfl ⟨by rw [e1.out, e2.out]; rfl, B4⟩
          · have e1 := hidOf (show E = 8 by rw [HE.out]; simp [hc])
            have e2 := hidOf (show V = Vl.nul by rw [HW.out, if_neg (by rw [e1.out]; decide)])
            have d0 : ((chk t (decN t l) (decS t l) : Int) != 0) = true := by simpa using hc
            generalize chk t (decN t l) (decS t l) = C at *
            have D4 := f3.row Vl.nul
            have B4 := below_row B3 (by omega : w.heap.size ≤ q) (by have := f3.lt; omega) Vl.nul.arr
            clear HE HW
            go_wp2_with (first | refine f3.sd Vl.nul rfl _ _ rfl rfl rfl ?_)
            exact bodyPost_ret (rdec_results D4 _ rfl rfl) rfl ⟨by rw [e1.out, e2.out]; rfl, B4⟩
end Go.Proofs.YtahfnknbmikmkaaGreat
