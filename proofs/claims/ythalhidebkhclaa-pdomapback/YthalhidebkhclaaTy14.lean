/- Contracts: the document's own Order. -/
import Derived.Test.YthalhidebkhclaaTy13
import Derived.Test.YthalhidebkhclaaTy10
namespace Go.Proofs.Ythalhidebkhclaa
open Go.RowKit Go.Proofs.Ty
set_option linter.unusedVariables false
set_option maxRecDepth 1000000
theorem xor_top (x : Nat) (h : x < 9223372036854775808) : x ^^^ 9223372036854775808 = x + 9223372036854775808 := by
  have e : x + 9223372036854775808 = 2 ^ 63 * 1 ||| x := by
    rw [← Nat.two_pow_add_eq_or_of_lt (i := 63) (by simpa using h)]
    omega
  rw [e]
  apply Nat.eq_of_testBit_eq
  intro i
  rw [show (9223372036854775808 : Nat) = 2 ^ 63 from rfl, Nat.mul_one, Nat.testBit_xor, Nat.testBit_or, Nat.testBit_two_pow]
  by_cases hi : 63 = i
  · subst hi
    rw [Nat.testBit_lt_two_pow (by simpa using h)]
    simp
  · simp [hi]
theorem xor_low (x : Nat) (h : 9223372036854775808 ≤ x) (h2 : x < 18446744073709551616) : x ^^^ 9223372036854775808 = x - 9223372036854775808 := by
  have e := xor_top (x - 9223372036854775808) (by omega)
  have e2 : x = (x - 9223372036854775808) ^^^ 9223372036854775808 := by rw [e]; omega
  rw [e2, Nat.xor_assoc, Nat.xor_self, Nat.xor_zero]
  omega
theorem bias (n : Nat) (h : n < 18446744073709551616) : bits BinOp.xor IntKind.u64 (n : Int) 9223372036854775808 = sgnN n + 9223372036854775808 := by
  rw [show (9223372036854775808 : Int) = ((9223372036854775808 : Nat) : Int) from rfl, u64_xor_nat _ _ h (by omega)]
  unfold sgnN
  split
  · rw [xor_top _ (by assumption)]; omega
  · rw [xor_low _ (by omega) h]; omega
theorem bdr2 {B : Nat} {a w : World} (h : Below B a w) (n m : Nat) : Below B a ((w.drewN n).drewN m) := bdr (bdr h n) m
theorem cmp_ways (l g : Prop) [Decidable l] [Decidable g] {C : Int} (h : C = if l then -1 else if g then 1 else 0) : (l ∧ C = -1) ∨ (¬ l ∧ g ∧ C = 1) ∨ (¬ l ∧ ¬ g ∧ C = 0) := by
  by_cases h1 : l
  · exact .inl ⟨h1, by rw [h, if_pos h1]⟩
  · by_cases h2 : g
    · exact .inr (.inl ⟨h1, h2, by rw [h, if_neg h1, if_pos h2]⟩)
    · exact .inr (.inr ⟨h1, h2, by rw [h, if_neg h1, if_neg h2]⟩)
set_option maxHeartbeats 4000000 in
theorem r7Order_v (a b : Vl) (w : World) :
    Calls Try.prog 84 #[.agg a.arr, .agg b.arr] w fun e w' => e = .returned (.tuple #[.int .i64 (ordN a b), .int .i64 (ordE a b)]) ∧ Below w.heap.size w w' := by
  have hCa := r7Check_v a
  have hCb := r7Check_v b
  have hG := r7Signed_any a.t
  have hS := r7Size_any a.t
  have HE : Hid (ordE a b = if a.chk ≠ 0 then a.chk else if b.chk ≠ 0 then b.chk else if a.t ≠ b.t then 1 else 0) := rfl
  have HN : Hid (ordN a b = if ordE a b = 0 then ordR a b else 0) := rfl
  have hba := bias a.n a.hn
  have hbb := bias b.n b.hn
  have hsz := siz_zero a.t
  have hR : ordR a b = if kind a.t = 1 then cmpI a.n b.n else if kind a.t = 2 then cmpI (sgnN a.n) (sgnN b.n) else cmpL a.s.data.toList b.s.data.toList := rfl
  have hRL := less_eq a.s b.s
  have hRG := run_gtr a.s b.s
  obtain ⟨fa, fb, B0⟩ := two_vals w a b
  generalize ordE a b = E at *
  generalize ordN a b = N at *
  generalize ordR a b = R at *
  generalize a.chk = Ca at *
  generalize b.chk = Cb at *
  go_enter Try.func84, Try.ntmps84
  go_upto_region 1 with fail
  generalize (w.alloc (.cells a.arr 42)).alloc (.cells b.arr 42) = W at *
  obtain ⟨q, hq⟩ : ∃ q, w.heap.size = q := ⟨_, rfl⟩
  have lb := fb.lt
  simp only [hq] at fa fb lb ⊢
  go_wp2_with (refine fa.ld rfl _ rfl rfl ?_)
  refine (hCa _).mono ?_
  rintro e w1 ⟨rfl, b1⟩
  have fa1 := fa.below b1
  have fb1 := fb.below b1
  have B1 := B0.trans (b1.mono (by omega))
  have s1 := b1.size
  clear fa fb B0 b1 hCa
  by_cases ha : Ca = 0
  · subst ha
    go_wp2_with (refine fb1.ld rfl _ rfl rfl ?_)
    refine (hCb _).mono ?_
    rintro e w2 ⟨rfl, b2⟩
    have fa2 := fa1.below b2
    have fb2 := fb1.below b2
    have B2 := B1.trans (b2.mono (by omega))
    clear fa1 fb1 B1 b2 hCb
    have a0 := fa2.c0
    have a1 := fa2.c1
    have a2 := fa2.c2
    have b0 := fb2.c0
    have b1 := fb2.c1
    have b2 := fb2.c2
    by_cases hb : Cb = 0
    · subst hb
      by_cases ht : a.t = b.t
      · have dt : (a.t != b.t) = false := by simpa using ht
        have e0 := hidOf (show E = 0 by rw [HE.out]; simp [ht])
        rw [e0.out, if_pos rfl] at HN
        clear HE ht
        by_cases hz : 0 < siz a.t
        · have dz : ((siz a.t : Int) == 0) = false := by simp; omega
          by_cases h1 : kind a.t = 1
          · have dk : (kind a.t == 2) = false := by rw [h1]; rfl
            rw [dk] at hG
            rw [if_pos h1] at hR
            have hw := cmp_ways ((a.n : Int) < b.n) ((b.n : Int) < a.n) hR
            clear hR hRL hRG hsz hba hbb
            go_upto_region 9 with fail
            go_quiet (fail)
            rcases hw with ⟨l1, e2⟩ | ⟨l1, g1, e2⟩ | ⟨l1, g1, e2⟩
            · have e3 := hidOf (HN.out.trans e2)
              have dl : decide ((a.n : Int) < (b.n : Int)) = true := decide_eq_true (by omega)
              have dn : decide (a.n < b.n) = true := decide_eq_true (by omega)
              clear e2 HN
              go_wp2_with (first | (go_at_call 93; refine (hG _).mono ?_; rintro e w3 ⟨rfl, rfl⟩) | (go_at_call 24; refine (hS _).mono ?_; rintro e w3 ⟨rfl, rfl⟩))
              go_ret2
              exact ⟨by rw [e0.out, e3.out]; rfl, bdr B2 _⟩
            · have e3 := hidOf (HN.out.trans e2)
              have dl : decide ((a.n : Int) < (b.n : Int)) = false := decide_eq_false (by omega)
              have dn : decide (a.n < b.n) = false := decide_eq_false (by omega)
              have dg : decide ((b.n : Int) < (a.n : Int)) = true := decide_eq_true (by omega)
              have dm : decide (b.n < a.n) = true := decide_eq_true (by omega)
              clear e2 HN
              go_wp2_with (first | (go_at_call 93; refine (hG _).mono ?_; rintro e w3 ⟨rfl, rfl⟩) | (go_at_call 24; refine (hS _).mono ?_; rintro e w3 ⟨rfl, rfl⟩))
              go_ret2
              exact ⟨by rw [e0.out, e3.out]; rfl, bdr B2 _⟩
            · have e3 := hidOf (HN.out.trans e2)
              have dl : decide ((a.n : Int) < (b.n : Int)) = false := decide_eq_false (by omega)
              have dn : decide (a.n < b.n) = false := decide_eq_false (by omega)
              have dg : decide ((b.n : Int) < (a.n : Int)) = false := decide_eq_false (by omega)
              have dm : decide (b.n < a.n) = false := decide_eq_false (by omega)
              clear e2 HN
              go_wp2_with (first | (go_at_call 93; refine (hG _).mono ?_; rintro e w3 ⟨rfl, rfl⟩) | (go_at_call 24; refine (hS _).mono ?_; rintro e w3 ⟨rfl, rfl⟩))
              go_ret2
              exact ⟨by rw [e0.out, e3.out]; rfl, bdr B2 _⟩
          · have h2 : kind a.t = 2 := by omega
            have dk : (kind a.t == 2) = true := by rw [h2]; rfl
            rw [dk] at hG
            rw [if_neg h1, if_pos h2] at hR
            have hw := cmp_ways (sgnN a.n < sgnN b.n) (sgnN b.n < sgnN a.n) hR
            clear hR hRL hRG hsz
            go_upto_region 9 with fail
            go_quiet (fail)
            rcases hw with ⟨l1, e2⟩ | ⟨l1, g1, e2⟩ | ⟨l1, g1, e2⟩
            · have e3 := hidOf (HN.out.trans e2)
              have dl : decide (sgnN a.n < sgnN b.n) = true := decide_eq_true (by omega)
              have dl' : decide (sgnN a.n + 9223372036854775808 < sgnN b.n + 9223372036854775808) = true := decide_eq_true (by omega)
              clear e2 HN
              go_wp2_with (first | (go_at_call 93; refine (hG _).mono ?_; rintro e w3 ⟨rfl, rfl⟩) | (go_at_call 24; refine (hS _).mono ?_; rintro e w3 ⟨rfl, rfl⟩))
              go_ret2
              exact ⟨by rw [e0.out, e3.out]; rfl, bdr B2 _⟩
            · have e3 := hidOf (HN.out.trans e2)
              have dl : decide (sgnN a.n < sgnN b.n) = false := decide_eq_false (by omega)
              have dl' : decide (sgnN a.n + 9223372036854775808 < sgnN b.n + 9223372036854775808) = false := decide_eq_false (by omega)
              have dg : decide (sgnN b.n < sgnN a.n) = true := decide_eq_true (by omega)
              have dg' : decide (sgnN b.n + 9223372036854775808 < sgnN a.n + 9223372036854775808) = true := decide_eq_true (by omega)
              clear e2 HN
              go_wp2_with (first | (go_at_call 93; refine (hG _).mono ?_; rintro e w3 ⟨rfl, rfl⟩) | (go_at_call 24; refine (hS _).mono ?_; rintro e w3 ⟨rfl, rfl⟩))
              go_ret2
              exact ⟨by rw [e0.out, e3.out]; rfl, bdr B2 _⟩
            · have e3 := hidOf (HN.out.trans e2)
              have dl : decide (sgnN a.n < sgnN b.n) = false := decide_eq_false (by omega)
              have dl' : decide (sgnN a.n + 9223372036854775808 < sgnN b.n + 9223372036854775808) = false := decide_eq_false (by omega)
              have dg : decide (sgnN b.n < sgnN a.n) = false := decide_eq_false (by omega)
              have dg' : decide (sgnN b.n + 9223372036854775808 < sgnN a.n + 9223372036854775808) = false := decide_eq_false (by omega)
              clear e2 HN
              go_wp2_with (first | (go_at_call 93; refine (hG _).mono ?_; rintro e w3 ⟨rfl, rfl⟩) | (go_at_call 24; refine (hS _).mono ?_; rintro e w3 ⟨rfl, rfl⟩))
              go_ret2
              exact ⟨by rw [e0.out, e3.out]; rfl, bdr B2 _⟩
        · have dz : ((siz a.t : Int) == 0) = true := by simp; omega
          have h1 : kind a.t ≠ 1 := by omega
          have h2 : kind a.t ≠ 2 := by omega
          have dk : (kind a.t == 2) = false := by simpa using h2
          rw [dk] at hG
          rw [if_neg h1, if_neg h2] at hR
          have hw := cmp_ways (a.s.data.toList < b.s.data.toList) (b.s.data.toList < a.s.data.toList) hR
          clear hR hsz hba hbb
          go_upto_region 9 with fail
          go_quiet (fail)
          rcases hw with ⟨l1, e2⟩ | ⟨l1, g1, e2⟩ | ⟨l1, g1, e2⟩
          · have e3 := hidOf (HN.out.trans e2)
            have dl : Op.bytesLess a.s.toList b.s.toList = true := hRL.trans (decide_eq_true l1)
            have dl' := dl
            rw [toL, toL] at dl'
            obtain ⟨bg, hbg⟩ : ∃ bg, decide (b.s.data.toList < a.s.data.toList) = bg := ⟨_, rfl⟩
            rw [hbg] at hRG
            clear hRL
            clear e2 HN
            go_wp2_with (first | (go_at_call 93; refine (hG _).mono ?_; rintro e w3 ⟨rfl, rfl⟩) | (go_at_call 24; refine (hS _).mono ?_; rintro e w3 ⟨rfl, rfl⟩))
            go_quiet (fail)
            go_wp2
            go_ret2
            exact ⟨by rw [e0.out, e3.out]; rfl, bdr2 B2 _ _⟩
          · have e3 := hidOf (HN.out.trans e2)
            have dl : Op.bytesLess a.s.toList b.s.toList = false := hRL.trans (decide_eq_false l1)
            have dl' := dl
            rw [toL, toL] at dl'
            have dg : decide (b.s.data.toList < a.s.data.toList) = true := decide_eq_true g1
            rw [dg] at hRG
            clear hRL
            clear e2 HN
            go_wp2_with (first | (go_at_call 93; refine (hG _).mono ?_; rintro e w3 ⟨rfl, rfl⟩) | (go_at_call 24; refine (hS _).mono ?_; rintro e w3 ⟨rfl, rfl⟩))
            go_quiet (fail)
            go_wp2
            go_ret2
            exact ⟨by rw [e0.out, e3.out]; rfl, bdr2 B2 _ _⟩
          · have e3 := hidOf (HN.out.trans e2)
            have dl : Op.bytesLess a.s.toList b.s.toList = false := hRL.trans (decide_eq_false l1)
            have dl' := dl
            rw [toL, toL] at dl'
            have dg : decide (b.s.data.toList < a.s.data.toList) = false := decide_eq_false g1
            rw [dg] at hRG
            clear hRL
            clear e2 HN
            go_wp2_with (first | (go_at_call 93; refine (hG _).mono ?_; rintro e w3 ⟨rfl, rfl⟩) | (go_at_call 24; refine (hS _).mono ?_; rintro e w3 ⟨rfl, rfl⟩))
            go_quiet (fail)
            go_wp2
            go_ret2
            exact ⟨by rw [e0.out, e3.out]; rfl, bdr2 B2 _ _⟩
      · have dt : (a.t != b.t) = true := by simpa using ht
        have e0 := hidOf (show E = 1 by rw [HE.out]; simp [ht])
        have e1 := hidOf (show N = 0 by rw [HN.out, if_neg (by rw [e0.out]; decide)])
        clear HE HN
        go_wp2
        go_ret2
        exact ⟨by rw [e0.out, e1.out]; rfl, B2⟩
    · have db : ((Cb : Int) != 0) = true := by simpa using hb
      have e0 := hidOf (show E = Cb by rw [HE.out]; simp [hb])
      have e1 := hidOf (show N = 0 by rw [HN.out, if_neg (by rw [e0.out]; exact hb)])
      clear HE HN
      go_wp2
      go_ret2
      exact ⟨by rw [e0.out, e1.out]; rfl, B2⟩
  · have da : ((Ca : Int) != 0) = true := by simpa using ha
    have e0 := hidOf (show E = Ca by rw [HE.out]; simp [ha])
    have e1 := hidOf (show N = 0 by rw [HN.out, if_neg (by rw [e0.out]; exact ha)])
    clear HE HN
    go_wp2
    go_ret2
    exact ⟨by rw [e0.out, e1.out]; rfl, B1⟩
end Go.Proofs.Ythalhidebkhclaa
