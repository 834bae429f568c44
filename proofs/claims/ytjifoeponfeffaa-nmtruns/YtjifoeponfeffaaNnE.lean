/- Command, what may be done in a state (the program's and the document's), the small living call of layer 17. -/
import Derived.Test.YtjifoeponfeffaaNnC
import Derived.Lib.SlBytesConst
namespace Go.Proofs.Ytjifoeponfeffaa
open Go.RowKit
set_option linter.unusedVariables false
set_option maxRecDepth 1000000
set_option linter.unusedSimpArgs false
theorem wrU8 (n : Nat) (h : n < 256) : IntKind.u8.wrap (n : Int) = n := by
  simp only [IntKind.wrap, IntKind.bits, IntKind.signed]
  simp
  omega
theorem cmd_bad (w : World) (c n : Int) (h : (isC c && isN n) = false) : Calls Try.prog 19 #[.int .i64 c, .int .i64 n] w fun e w' => e = .returned (.tuple #[.slice none 0 0, .int .i64 1]) ∧ w' = w := by
  have HN := isN_any w n
  have HC := target_any w c
  cases hc : isC c
  · rw [hc] at HC
    clear h hc
    go_enter Try.func19, Try.ntmps19
    go_wp2_with (first | (go_at_call 26; refine HC.mono ?_; rintro e w' ⟨rfl, rfl⟩) | (go_at_call 24; refine HN.mono ?_; rintro e w' ⟨rfl, rfl⟩))
    go_ret2
    exact ⟨rfl, rfl⟩
  · have hn : isN n = false := by simpa [hc] using h
    rw [hc] at HC
    rw [hn] at HN
    clear h hc hn
    go_enter Try.func19, Try.ntmps19
    go_wp2_with (first | (go_at_call 26; refine HC.mono ?_; rintro e w' ⟨rfl, rfl⟩) | (go_at_call 24; refine HN.mono ?_; rintro e w' ⟨rfl, rfl⟩))
    go_ret2
    exact ⟨rfl, rfl⟩
theorem cmd_ok (w : World) (c n : Nat) (h : isC c = true) (h2 : n ≤ 127) : Calls Try.prog 19 #[.int .i64 c, .int .i64 n] w fun e w' => e = .returned (.tuple #[.slice (some ⟨w.heap.size, 0, none⟩) 2 2, .int .i64 0]) ∧ w' = w.alloc (.cells #[.int .u8 c, .int .u8 n] 5) := by
  have HN := isN_any w n
  have HC := target_any w c
  have hn : isN n = true := by simp [isN]; omega
  have e1 : IntKind.u8.wrap (c : Int) = c := wrU8 c (by rcases isC_cases h with e | e | e | e | e <;> omega)
  have e2 : IntKind.u8.wrap (n : Int) = n := wrU8 n (by omega)
  rw [h] at HC
  rw [hn] at HN
  clear h h2 hn
  go_enter Try.func19, Try.ntmps19
  go_wp2_with (first | (go_at_call 26; refine HC.mono ?_; rintro e w' ⟨rfl, rfl⟩) | (go_at_call 24; refine HN.mono ?_; rintro e w' ⟨rfl, rfl⟩))
  go_ret2
  exact ⟨rfl, rfl⟩
def may (s m : Int) : Bool := decide (0 ≤ m) && decide (m ≤ 5) && (s == 5 || s == 127 && decide (0 < m) || s == 4 && decide (3 < m))
theorem may_run (m : Int) : may 5 m = (decide (0 ≤ m) && decide (m ≤ 5)) := by simp [may]
theorem allows_any (w : World) (s m : Int) : Calls Try.prog 21 #[.int .i64 s, .int .i64 m] w fun e w' => e = .returned (.bool (may s m)) ∧ w' = w := by
  by_cases h : s = 5
  · subst h
    have HO : Hid (may 5 m = (decide (0 ≤ m) && decide (m ≤ 5))) := may_run m
    generalize may 5 m = o at *
    by_cases h1 : 0 ≤ m
    · have d1 : decide (0 ≤ m) = true := by simp [h1]
      rw [d1] at HO
      clear h1
      go_enter Try.func21, Try.ntmps21
      go_wp2
      go_ret
      exact ⟨ret_bool (by rw [HO.out]; rfl), rfl⟩
    · have d1 : decide (0 ≤ m) = false := by simp [h1]
      rw [d1] at HO
      clear h1
      go_enter Try.func21, Try.ntmps21
      go_wp2
      go_ret
      exact ⟨ret_bool (by rw [HO.out]; rfl), rfl⟩
  · have d5 : (s == 5) = false := by simp [h]
    by_cases h2 : s = 127
    · subst h2
      have HO : Hid (may 127 m = (decide (0 < m) && decide (m ≤ 5))) := by
        show _ = _
        rw [Bool.eq_iff_iff]
        simp [may]
        omega
      generalize may 127 m = o at *
      clear h d5
      by_cases h1 : 0 < m
      · have d1 : decide (0 < m) = true := by simp [h1]
        rw [d1] at HO
        clear h1
        go_enter Try.func21, Try.ntmps21
        go_wp2
        go_ret
        exact ⟨ret_bool (by rw [HO.out]; rfl), rfl⟩
      · have d1 : decide (0 < m) = false := by simp [h1]
        rw [d1] at HO
        clear h1
        go_enter Try.func21, Try.ntmps21
        go_wp2
        go_ret
        exact ⟨ret_bool (by rw [HO.out]; rfl), rfl⟩
    · have d7 : (s == 127) = false := by simp [h2]
      by_cases h3 : s = 4
      · subst h3
        have HO : Hid (may 4 m = (m == 4 || m == 5)) := by
          show _ = _
          rw [Bool.eq_iff_iff]
          simp [may]
          omega
        generalize may 4 m = o at *
        clear h d5 h2 d7
        by_cases h1 : m = 4
        · subst h1
          go_enter Try.func21, Try.ntmps21
          go_wp2
          go_ret
          exact ⟨ret_bool (by rw [HO.out]; rfl), rfl⟩
        · have d1 : (m == 4) = false := by simp [h1]
          rw [d1] at HO
          clear h1
          go_enter Try.func21, Try.ntmps21
          go_wp2
          go_ret
          exact ⟨ret_bool (by rw [HO.out]; rfl), rfl⟩
      · have d4 : (s == 4) = false := by simp [h3]
        have HO : Hid (may s m = false) := by show _ = _; simp [may, h, h2, h3]
        generalize may s m = o at *
        clear h h2 h3
        go_enter Try.func21, Try.ntmps21
        go_wp2
        go_ret
        exact ⟨ret_bool (by rw [HO.out]), rfl⟩
theorem dallows_any (w : World) (s m : Int) : Calls Try.prog 22 #[.int .i64 s, .int .i64 m] w fun e w' => e = .returned (.bool (may s m)) ∧ w' = w := by
  have HO : Hid (may s m = (decide (0 ≤ m) && decide (m ≤ 5) && (s == 5 || s == 127 && decide (0 < m) || s == 4 && decide (3 < m)))) := rfl
  generalize may s m = o at *
  by_cases h0 : m < 0
  · have d0 : decide (m < 0) = true := by simp [h0]
    have d1 : decide (0 ≤ m) = false := by simp; omega
    rw [d1] at HO
    clear h0 d1
    go_enter Try.func22, Try.ntmps22
    go_wp2
    go_ret
    exact ⟨ret_bool (by rw [HO.out]; rfl), rfl⟩
  · have d0 : decide (m < 0) = false := by simp; omega
    have d1 : decide (0 ≤ m) = true := by simp; omega
    rw [d1] at HO
    clear h0 d1
    by_cases h1 : 5 < m
    · have d2 : decide (5 < m) = true := by simp [h1]
      have d1 : decide (m ≤ 5) = false := by simp; omega
      rw [d1] at HO
      clear h1 d1
      go_enter Try.func22, Try.ntmps22
      go_wp2
      go_ret
      exact ⟨ret_bool (by rw [HO.out]; rfl), rfl⟩
    · have d2 : decide (5 < m) = false := by simp; omega
      have d1 : decide (m ≤ 5) = true := by simp; omega
      rw [d1] at HO
      clear h1 d1
      by_cases h5 : s = 5
      · subst h5
        go_enter Try.func22, Try.ntmps22
        go_wp2
        go_ret
        exact ⟨ret_bool (by rw [HO.out]; rfl), rfl⟩
      · have d5 : (s == 5) = false := by simp [h5]
        by_cases h7 : s = 127
        · subst h7
          rw [d5] at HO
          clear h5
          by_cases hm : 0 < m
          · have e0 : decide (0 < m) = true := by simp [hm]
            rw [e0] at HO
            clear hm
            go_enter Try.func22, Try.ntmps22
            go_wp2
            go_ret
            exact ⟨ret_bool (by rw [HO.out]; rfl), rfl⟩
          · have e0 : decide (0 < m) = false := by simp [hm]
            rw [e0] at HO
            clear hm
            go_enter Try.func22, Try.ntmps22
            go_wp2
            go_ret
            exact ⟨ret_bool (by rw [HO.out]; rfl), rfl⟩
        · have d7 : (s == 127) = false := by simp [h7]
          rw [d5, d7] at HO
          by_cases h4 : s = 4
          · subst h4
            clear h5 h7
            go_enter Try.func22, Try.ntmps22
            go_wp2
            go_ret
            exact ⟨ret_bool (by rw [HO.out]; rfl), rfl⟩
          · have d4 : (s == 4) = false := by simp [h4]
            rw [d4] at HO
            clear h5 h7 h4
            go_enter Try.func22, Try.ntmps22
            go_wp2
            go_ret
            exact ⟨ret_bool (by rw [HO.out]; rfl), rfl⟩
def sL : Nd := ⟨5, 5, 0, 0, 0⟩
set_option maxHeartbeats 1000000 in
theorem lives17_any (w : World) : Calls Try.prog 9 #[] w fun e w' => e = .returned (.bool true) ∧ Below w.heap.size w w' := by
  have hN := new_ok w 5 rfl
  obtain ⟨g, hg⟩ : ∃ g, w.heap.size = g := ⟨_, rfl⟩
  rw [hg] at hN ⊢
  go_enter Try.func9, Try.ntmps9
  go_wp2_with fail
  refine hN.mono ?_
  rintro e w1 ⟨rfl, N1, b1⟩
  have hS := step_any (s := sL) N1
  go_wp2_with fail
  refine hS.mono ?_
  rintro e w2 ⟨r, rfl, hr, N2, T2⟩
  obtain ⟨q, rfl, hq, hqs, cq⟩ := hr
  have b2 : Below g w w2 := b1.trans (T2.below (by have := b1.size; omega) (Nat.le_refl _) (Nat.le_refl _))
  have hgq : g < q := Nat.lt_of_lt_of_le (Bc.lt N1) hq
  clear hN N1 b1 hS T2 hq
  have hC := cmd_ok w2 1 5 rfl (by decide)
  go_wp2_with fail
  refine hC.mono ?_
  rintro e w3 ⟨rfl, hw3⟩
  have B3 : Below w2.heap.size w2 w3 := by rw [hw3]; exact (Below.refl _ _).alloc (Nat.le_refl _) _
  have hBy : Bytes w3 (.slice (some ⟨w2.heap.size, 0, none⟩) 2 2) [1, 5] := by
    have hh : w3.heap[w2.heap.size]? = some (.cells #[.int .u8 1, .int .u8 5] 5 (0, 0)) := by rw [hw3]; exact heap_alloc_new w2 _
    refine ⟨_, 2, rfl, (fun h => by cases h), fun k hk => ⟨w2.heap.size, 0, rfl, by rw [hw3]; simp, ?_⟩⟩
    rw [Nat.zero_add, Lib.cell_of_heap hh k]
    match k, hk with
    | 0, _ => rfl
    | 1, _ => rfl
  have N3 : Na g sL.step w3 := Bc.below N2 B3
  have b3 : Below g w w3 := b2.trans (B3.mono (by have := b2.size; omega))
  have hB1 : Bytes w3 (.slice (some ⟨q, 0, none⟩) 1 1) [0] := by
    refine ⟨_, 1, rfl, (fun h => by cases h), fun k hk => ⟨q, 0, rfl, Nat.lt_of_lt_of_le hqs B3.size, ?_⟩⟩
    have hk0 : k = 0 := by simp at hk; exact hk
    subst hk0
    exact (B3.cell (p := ⟨q, 0, none⟩) hqs).trans cq
  have hTx := hB1.text
  have hT := take_any (s := sL.step) _ _ N3 hBy (by decide) (by decide)
  have eT : Hid (sL.step.told [1, 5] = 1) := by show _ = _; rfl
  rw [eT.out] at hT
  have HS : Hid (∀ x, Na g (sL.step.take [1, 5]) x → Calls Try.prog 17 #[.pointer (some ⟨g, 0, none⟩)] x fun e w' => e = .returned (.int .i64 5) ∧ w' = x) := fun x hx => state_any hx
  have hsz : g ≤ w3.heap.size := by have := b3.size; omega
  clear hC hw3 hBy hB1 N2 b2 N3 B3 cq hqs hgq eT
  go_wp2_with (first | (go_at_call 10; refine hT.mono ?_; rintro e w4 ⟨rfl, N4, T4⟩; have HS4 := HS.out w4 N4) | (go_at_call 17; refine HS4.mono ?_; rintro e w5 ⟨rfl, rfl⟩))
  go_ret
  exact ⟨rfl, b3.trans (T4.below hsz (Nat.le_refl _) (Nat.le_refl _))⟩
end Go.Proofs.Ytjifoeponfeffaa
