/- Contracts: the document's own Order. Contracts of the document's own: Plain, Encode. Contracts: the document's Within, entry, Check. Contracts: the document's Check. -/
import Derived.Test.YtahfnknbmikmkaaGreatKb2
import Derived.Test.YtahfnknbmikmkaaGreatKb10
namespace Go.Proofs.YtahfnknbmikmkaaGreat
open Go.RowKit Go.Proofs.Ty
set_option linter.unusedVariables false
set_option maxRecDepth 1000000
theorem xor_top (x : Nat) (h : x < 9223372036854775808) : x ^^^ 9223372036854775808 = x + 9223372036854775808 := by
  have e : x + 9223372036854775808 = 2 ^ 63 * 1 ||| x := by
    rw [← Nat.two_pow_add_eq_or_of_lt (i := 63) (by simpa using h)]
    omega
  rw [e]
  apply Nat.eq_of_testBit_eq
  intro i
  rw [show (9223372036854775808 : Nat) = 2 ^ 63 from rfl, Nat.mul_one, Nat.testBit_xor, Nat.testBit_or, Nat.testBit_two_pow]
  by_cases hi : 63 = i
  · subst hi
    rw [Nat.testBit_lt_two_pow (by simpa using h)]
    simp
  · simp [hi]
theorem xor_low (x : Nat) (h : 9223372036854775808 ≤ x) (h2 : x < 18446744073709551616) : x ^^^ 9223372036854775808 = x - 9223372036854775808 := by
  have e := xor_top (x - 9223372036854775808) (by omega)
  have e2 : x = (x - 9223372036854775808) ^^^ 9223372036854775808 := by rw [e]; omega
  rw [e2, Nat.xor_assoc, Nat.xor_self, Nat.xor_zero]
  omega
theorem bias (n : Nat) (h : n < 18446744073709551616) : bits BinOp.xor IntKind.u64 (n : Int) 9223372036854775808 = sgnN n + 9223372036854775808 := by
  rw [show (9223372036854775808 : Int) = ((9223372036854775808 : Nat) : Int) from rfl, u64_xor_nat _ _ h (by omega)]
  unfold sgnN
  split
  · rw [xor_top _ (by assumption)]; omega
  · rw [xor_low _ (by omega) h]; omega
theorem bdr2 {B : Nat} {a w : World} (h : Below B a w) (n m : Nat) : Below B a ((w.drewN n).drewN m) := bdr (bdr h n) m
theorem cmp_ways (l g : Prop) [Decidable l] [Decidable g] {C : Int} (h : C = if l then -1 else if g then 1 else 0) : (l ∧ C = -1) ∨ (¬ l ∧ g ∧ C = 1) ∨ (¬ l ∧ ¬ g ∧ C = 0) := by
  by_cases h1 : l
  · exact .inl ⟨h1, by rw [h, if_pos h1]⟩
  · by_cases h2 : g
    · exact .inr (.inl ⟨h1, h2, by rw [h, if_neg h1, if_pos h2]⟩)
    · exact .inr (.inr ⟨h1, h2, by rw [h, if_neg h1, if_neg h2]⟩)
set_option maxHeartbeats 4000000 in
theorem r7Order_v (a b : Vl) (w : World) :
    Calls Tryz.prog 98 #[.agg a.arr, .agg b.arr] w fun e w' => e = .returned (.tuple #[.int .i64 (ordN a b), .int .i64 (ordE a b)]) ∧ Below w.heap.size w w' := by
  have hCa := r7Check_v a
  have hCb := r7Check_v b
  have hG := r7Signed_any a.t
  have hS := r7Size_any a.t
  have HE : Hid (ordE a b = if a.chk ≠ 0 then a.chk else if b.chk ≠ 0 then b.chk else if a.t ≠ b.t then 1 else 0) := rfl
  have HN : Hid (ordN a b = if ordE a b = 0 then ordR a b else 0) := rfl
  have hba := bias a.n a.hn
  have hbb := bias b.n b.hn
  have hsz := siz_zero a.t
  have hR : ordR a b = if kind a.t = 1 then cmpI a.n b.n else if kind a.t = 2 then cmpI (sgnN a.n) (sgnN b.n) else cmpL a.s.data.toList b.s.data.toList := rfl
  have hRL := less_eq a.s b.s
  have hRG := run_gtr a.s b.s
  obtain ⟨fa, fb, B0⟩ := two_vals w a b
  generalize ordE a b = E at *
  generalize ordN a b = N at *
  generalize ordR a b = R at *
  generalize a.chk = Ca at *
  generalize b.chk = Cb at *
  go_enter Tryz.func98, Tryz.ntmps98
  go_upto_region 1 with fail
  generalize (w.alloc (.cells a.arr 52)).alloc (.cells b.arr 52) = W at *
  obtain ⟨q, hq⟩ : ∃ q, w.heap.size = q := ⟨_, rfl⟩
  have lb := fb.lt
  simp only [hq] at fa fb lb ⊢
  go_wp2_with (refine fa.ld rfl _ rfl rfl ?_)
  refine (hCa _).mono ?_
  rintro e w1 ⟨rfl, b1⟩
  have fa1 := fa.below b1
  have fb1 := fb.below b1
  have B1 := B0.trans (b1.mono (by omega))
  have s1 := b1.size
  clear fa fb B0 b1 hCa
  by_cases ha : Ca = 0
  · subst ha
    go_wp2_with (refine fb1.ld rfl _ rfl rfl ?_)
    refine (hCb _).mono ?_
    rintro e w2 ⟨rfl, b2⟩
    have fa2 := fa1.below b2
    have fb2 := fb1.below b2
    have B2 := B1.trans (b2.mono (by omega))
    clear fa1 fb1 B1 b2 hCb
    have a0 := fa2.c0
    have a1 := fa2.c1
    have a2 := fa2.c2
    have b0 := fb2.c0
    have b1 := fb2.c1
    have b2 := fb2.c2
    by_cases hb : Cb = 0
    · subst hb
      by_cases ht : a.t = b.t
      · have dt : (a.t != b.t) = false := by simpa using ht
        have e0 := hidOf (show E = 0 by rw [HE.out]; simp [ht])
        rw [e0.out, if_pos rfl] at HN
        clear HE ht
        by_cases hz : 0 < siz a.t
        · have dz : ((siz a.t : Int) == 0) = false := by simp; omega
          by_cases h1 : kind a.t = 1
          · have dk : (kind a.t == 2) = false := by rw [h1]; rfl
            rw [dk] at hG
            rw [if_pos h1] at hR
            have hw := cmp_ways ((a.n : Int) < b.n) ((b.n : Int) < a.n) hR
            clear hR hRL hRG hsz hba hbb
            go_upto_region 9 with fail
            go_quiet (fail)
            rcases hw with ⟨l1, e2⟩ | ⟨l1, g1, e2⟩ | ⟨l1, g1, e2⟩
            · have e3 := hidOf (HN.out.trans e2)
              have dl : decide ((a.n : Int) < (b.n : Int)) = true := decide_eq_true (by omega)
              have dn : decide (a.n < b.n) = true := decide_eq_true (by omega)
              clear e2 HN
              go_wp2_with (first | (go_at_call 117; refine (hG _).mono ?_; rintro e w3 ⟨rfl, rfl⟩) | (go_at_call 85; refine (hS _).mono ?_; rintro e w3 ⟨rfl, rfl⟩))
              go_ret2
              exact ⟨by rw [e0.out, e3.out]; rfl, bdr B2 _⟩
            · have e3 := hidOf (HN.out.trans e2)
              have dl : decide ((a.n : Int) < (b.n : Int)) = false := decide_eq_false (by omega)
              have dn : decide (a.n < b.n) = false := decide_eq_false (by omega)
              have dg : decide ((b.n : Int) < (a.n : Int)) = true := decide_eq_true (by omega)
              have dm : decide (b.n < a.n) = true := decide_eq_true (by omega)
              clear e2 HN
              go_wp2_with (first | (go_at_call 117; refine (hG _).mono ?_; rintro e w3 ⟨rfl, rfl⟩) | (go_at_call 85; refine (hS _).mono ?_; rintro e w3 ⟨rfl, rfl⟩))
              go_ret2
              exact ⟨by rw [e0.out, e3.out]; rfl, bdr B2 _⟩
            · have e3 := hidOf (HN.out.trans e2)
              have dl : decide ((a.n : Int) < (b.n : Int)) = false := decide_eq_false (by omega)
              have dn : decide (a.n < b.n) = false := decide_eq_false (by omega)
              have dg : decide ((b.n : Int) < (a.n : Int)) = false := decide_eq_false (by omega)
              have dm : decide (b.n < a.n) = false := decide_eq_false (by omega)
              clear e2 HN
              go_wp2_with (first | (go_at_call 117; refine (hG _).mono ?_; rintro e w3 ⟨rfl, rfl⟩) | (go_at_call 85; refine (hS _).mono ?_; rintro e w3 ⟨rfl, rfl⟩))
              go_ret2
              exact ⟨by rw [e0.out, e3.out]; rfl, bdr B2 _⟩
          · have h2 : kind a.t = 2 := by omega
            have dk : (kind a.t == 2) = true := by rw [h2]; rfl
            rw [dk] at hG
            rw [if_neg h1, if_pos h2] at hR
            have hw := cmp_ways (sgnN a.n < sgnN b.n) (sgnN b.n < sgnN a.n) hR
            clear hR hRL hRG hsz
            go_upto_region 9 with fail
            go_quiet (fail)
            rcases hw with ⟨l1, e2⟩ | ⟨l1, g1, e2⟩ | ⟨l1, g1, e2⟩
            · have e3 := hidOf (HN.out.trans e2)
              have dl : decide (sgnN a.n < sgnN b.n) = true := decide_eq_true (by omega)
              have dl' : decide (sgnN a.n + 9223372036854775808 < sgnN b.n + 9223372036854775808) = true := decide_eq_true (by omega)
              clear e2 HN
              go_wp2_with (first | (go_at_call 117; refine (hG _).mono ?_; rintro e w3 ⟨rfl, rfl⟩) | (go_at_call 85; refine (hS _).mono ?_; rintro e w3 ⟨rfl, rfl⟩))
              go_ret2
              exact ⟨by rw [e0.out, e3.out]; rfl, bdr B2 _⟩
            · have e3 := hidOf (HN.out.trans e2)
              have dl : decide (sgnN a.n < sgnN b.n) = false := decide_eq_false (by omega)
              have dl' : decide (sgnN a.n + 9223372036854775808 < sgnN b.n + 9223372036854775808) = false := decide_eq_false (by omega)
              have dg : decide (sgnN b.n < sgnN a.n) = true := decide_eq_true (by omega)
              have dg' : decide (sgnN b.n + 9223372036854775808 < sgnN a.n + 9223372036854775808) = true := decide_eq_true (by omega)
              clear e2 HN
              go_wp2_with (first | (go_at_call 117; refine (hG _).mono ?_; rintro e w3 ⟨rfl, rfl⟩) | (go_at_call 85; refine (hS _).mono ?_; rintro e w3 ⟨rfl, rfl⟩))
              go_ret2
              exact ⟨by rw [e0.out, e3.out]; rfl, bdr B2 _⟩
            · have e3 := hidOf (HN.out.trans e2)
              have dl : decide (sgnN a.n < sgnN b.n) = false := decide_eq_false (by omega)
              have dl' : decide (sgnN a.n + 9223372036854775808 < sgnN b.n + 9223372036854775808) = false := decide_eq_false (by omega)
              have dg : decide (sgnN b.n < sgnN a.n) = false := decide_eq_false (by omega)
              have dg' : decide (sgnN b.n + 9223372036854775808 < sgnN a.n + 9223372036854775808) = false := decide_eq_false (by omega)
              clear e2 HN
              go_wp2_with (first | (go_at_call 117; refine (hG _).mono ?_; rintro e w3 ⟨rfl, rfl⟩) | (go_at_call 85; refine (hS _).mono ?_; rintro e w3 ⟨rfl, rfl⟩))
              go_ret2
              exact ⟨by rw [e0.out, e3.out]; rfl, bdr B2 _⟩
        · have dz : ((siz a.t : Int) == 0) = true := by simp; omega
          have h1 : kind a.t ≠ 1 := by omega
          have h2 : kind a.t ≠ 2 := by omega
          have dk : (kind a.t == 2) = false := by simpa using h2
          rw [dk] at hG
          rw [if_neg h1, if_neg h2] at hR
          have hw := cmp_ways (a.s.data.toList < b.s.data.toList) (b.s.data.toList < a.s.data.toList) hR
          clear hR hsz hba hbb
          go_upto_region 9 with fail
          go_quiet (fail)
          rcases hw with ⟨l1, e2⟩ | ⟨l1, g1, e2⟩ | ⟨l1, g1, e2⟩
          · have e3 := hidOf (HN.out.trans e2)
            have dl : Op.bytesLess a.s.toList b.s.toList = true := hRL.trans (decide_eq_true l1)
            have dl' := dl
            rw [toL, toL] at dl'
            obtain ⟨bg, hbg⟩ : ∃ bg, decide (b.s.data.toList < a.s.data.toList) = bg := ⟨_, rfl⟩
            rw [hbg] at hRG
            clear hRL
            clear e2 HN
            go_wp2_with (first | (go_at_call 117; refine (hG _).mono ?_; rintro e w3 ⟨rfl, rfl⟩) | (go_at_call 85; refine (hS _).mono ?_; rintro e w3 ⟨rfl, rfl⟩))
            go_quiet (fail)
            go_wp2
            go_ret2
            exact ⟨by rw [e0.out, e3.out]; rfl, bdr2 B2 _ _⟩
          · have e3 := hidOf (HN.out.trans e2)
            have dl : Op.bytesLess a.s.toList b.s.toList = false := hRL.trans (decide_eq_false l1)
            have dl' := dl
            rw [toL, toL] at dl'
            have dg : decide (b.s.data.toList < a.s.data.toList) = true := decide_eq_true g1
            rw [dg] at hRG
            clear hRL
            clear e2 HN
            go_wp2_with (first | (go_at_call 117; refine (hG _).mono ?_; rintro e w3 ⟨rfl, rfl⟩) | (go_at_call 85; refine (hS _).mono ?_; rintro e w3 ⟨rfl, rfl⟩))
            go_quiet (fail)
            go_wp2
            go_ret2
            exact ⟨by rw [e0.out, e3.out]; rfl, bdr2 B2 _ _⟩
          · have e3 := hidOf (HN.out.trans e2)
            have dl : Op.bytesLess a.s.toList b.s.toList = false := hRL.trans (decide_eq_false l1)
            have dl' := dl
            rw [toL, toL] at dl'
            have dg : decide (b.s.data.toList < a.s.data.toList) = false := decide_eq_false g1
            rw [dg] at hRG
            clear hRL
            clear e2 HN
            go_wp2_with (first | (go_at_call 117; refine (hG _).mono ?_; rintro e w3 ⟨rfl, rfl⟩) | (go_at_call 85; refine (hS _).mono ?_; rintro e w3 ⟨rfl, rfl⟩))
            go_quiet (fail)
            go_wp2
            go_ret2
            exact ⟨by rw [e0.out, e3.out]; rfl, bdr2 B2 _ _⟩
      · have dt : (a.t != b.t) = true := by simpa using ht
        have e0 := hidOf (show E = 1 by rw [HE.out]; simp [ht])
        have e1 := hidOf (show N = 0 by rw [HN.out, if_neg (by rw [e0.out]; decide)])
        clear HE HN
        go_wp2
        go_ret2
        exact ⟨by rw [e0.out, e1.out]; rfl, B2⟩
    · have db : ((Cb : Int) != 0) = true := by simpa using hb
      have e0 := hidOf (show E = Cb by rw [HE.out]; simp [hb])
      have e1 := hidOf (show N = 0 by rw [HN.out, if_neg (by rw [e0.out]; exact hb)])
      clear HE HN
      go_wp2
      go_ret2
      exact ⟨by rw [e0.out, e1.out]; rfl, B2⟩
  · have da : ((Ca : Int) != 0) = true := by simpa using ha
    have e0 := hidOf (show E = Ca by rw [HE.out]; simp [ha])
    have e1 := hidOf (show N = 0 by rw [HN.out, if_neg (by rw [e0.out]; exact ha)])
    clear HE HN
    go_wp2
    go_ret2
    exact ⟨by rw [e0.out, e1.out]; rfl, B1⟩
end Go.Proofs.YtahfnknbmikmkaaGreat
namespace Go.Proofs.YtahfnknbmikmkaaGreat
open Go.RowKit Go.Proofs.Ty
set_option linter.unusedVariables false
set_option maxRecDepth 1000000
set_option maxHeartbeats 1000000 in
theorem r7Plain_v (v : Vl) (w : World) :
    Calls Tryz.prog 47 #[.agg v.arr] w fun e w' => e = .returned (.agg v.plain.arr) ∧ Below w.heap.size w w' := by
  have fA : Va w.heap.size v ((w.alloc (.cells v.arr 52)).alloc (.cells Vl.nul.arr 52)) := (Va.new w v).alloc _
  have fB : Va (w.heap.size + 1) Vl.nul ((w.alloc (.cells v.arr 52)).alloc (.cells Vl.nul.arr 52)) := by
    have := Va.new (w.alloc (.cells v.arr 52)) Vl.nul
    rw [size_alloc] at this
    exact this
  have bA : Below w.heap.size w ((w.alloc (.cells v.arr 52)).alloc (.cells Vl.nul.arr 52)) := ((Below.refl _ _).alloc (Nat.le_refl _) _).alloc (by rw [size_alloc]; omega) _
  have hI := r7Is_any v.t
  have hS := r7Size_any v.t
  have hz := siz_zero v.t
  have hk := kind_le v.t
  have H1 := hidOf (@Vl.plain_num v)
  have H3 := hidOf (@Vl.plain_txt v)
  have H0 := hidOf (@Vl.plain_none v)
  obtain ⟨A, hA⟩ : ∃ A, (w.alloc (.cells v.arr 52)).alloc (.cells #[.int .i64 0, .int .u64 0, .string ⟨#[]⟩] 52) = A := ⟨_, rfl⟩
  change Va _ _ ((w.alloc (.cells v.arr 52)).alloc (.cells #[.int .i64 0, .int .u64 0, .string ⟨#[]⟩] 52)) at fA fB
  change Below _ _ ((w.alloc (.cells v.arr 52)).alloc (.cells #[.int .i64 0, .int .u64 0, .string ⟨#[]⟩] 52)) at bA
  rw [hA] at fA fB bA
  have c0 := fA.c0
  have c1 := fA.c1
  have c2 := fA.c2
  have fr := fA.frozen
  have lA := fB.lt
  have fin : ∀ (u : Vl) (x : World), Va w.heap.size u x → Va (w.heap.size + 1) Vl.nul x → Below w.heap.size w x → Va (w.heap.size + 1) u (x.setRow (w.heap.size + 1) u.arr) ∧ Below w.heap.size w (x.setRow (w.heap.size + 1) u.arr) := fun u x h1 h2 h3 => ⟨h2.row u, below_row h3 (by omega) (by have := h1.lt; omega) _⟩
  go_enter Tryz.func47, Tryz.ntmps47
  generalize hq : w.heap.size = q at *
  by_cases hn : 0 < siz v.t
  · have dn : decide ((0 : Int) < (siz v.t : Int)) = true := decide_eq_true (by omega)
    have f2 := fA.setB ⟨#[]⟩ (by decide)
    have g2 := fB.other (p := ⟨q, 2, none⟩) (by simp) (.string ⟨#[]⟩)
    have B2 := bA.setCell (p := ⟨q, 2, none⟩) (Nat.le_refl _) (.string ⟨#[]⟩)
    have e1 := hidOf (H1.out (by omega))
    obtain ⟨D3, B3⟩ := fin _ _ f2 g2 B2
    go_wp2_with (first | (go_at_call 85; refine (hS _).mono ?_; rintro e w2 ⟨rfl, rfl⟩) | refine f2.ld rfl _ rfl rfl ?_ | refine g2.sd (v.setB ⟨#[]⟩ (by decide)) rfl _ _ rfl rfl rfl ?_)
    refine bodyPost_ret (v := .agg (v.setB ⟨#[]⟩ (by decide)).arr) (results_cell_row rfl _ _ (q + 1) 52 _ (0, 0) _ rfl D3 Tryz.underlying52 rfl infoV) rfl ⟨by rw [e1.out], by first | exact B3 | (rw [hq]; exact B3)⟩
  · have dn : decide ((0 : Int) < (siz v.t : Int)) = false := decide_eq_false (by omega)
    by_cases h0 : kind v.t = 0
    · have dk : (kind v.t != 0) = false := by simp [h0]
      rw [dk] at hI
      have e1 := hidOf (H0.out h0)
      obtain ⟨D3, B3⟩ := fin _ _ fA fB bA
      go_wp2_with (first | (go_at_call 85; refine (hS _).mono ?_; rintro e w2 ⟨rfl, rfl⟩) | (go_at_call 84; refine (hI _).mono ?_; rintro e w2 ⟨rfl, rfl⟩) | refine fA.ld rfl _ rfl rfl ?_ | refine fB.sd v rfl _ _ rfl rfl rfl ?_)
      refine bodyPost_ret (v := .agg v.arr) (results_cell_row rfl _ _ (q + 1) 52 _ (0, 0) _ rfl D3 Tryz.underlying52 rfl infoV) rfl ⟨by rw [e1.out], by first | exact B3 | (rw [hq]; exact B3)⟩
    · have dk : (kind v.t != 0) = true := by simp [h0]
      rw [dk] at hI
      have f2 := fA.setN 0 (by decide)
      have g2 := fB.other (p := ⟨q, 1, none⟩) (by simp) (.int .u64 ((0 : Nat) : Int))
      have B2 := bA.setCell (p := ⟨q, 1, none⟩) (Nat.le_refl _) (.int .u64 ((0 : Nat) : Int))
      have e1 := hidOf (H3.out (by omega))
      obtain ⟨D3, B3⟩ := fin _ _ f2 g2 B2
      go_wp2_with (first | (go_at_call 85; refine (hS _).mono ?_; rintro e w2 ⟨rfl, rfl⟩) | (go_at_call 84; refine (hI _).mono ?_; rintro e w2 ⟨rfl, rfl⟩) | refine f2.ld rfl _ rfl rfl ?_ | refine g2.sd (v.setN 0 (by decide)) rfl _ _ rfl rfl rfl ?_)
      refine bodyPost_ret (v := .agg (v.setN 0 (by decide)).arr) (results_cell_row rfl _ _ (q + 1) 52 _ (0, 0) _ rfl D3 Tryz.underlying52 rfl infoV) rfl ⟨by rw [e1.out], by first | exact B3 | (rw [hq]; exact B3)⟩
end Go.Proofs.YtahfnknbmikmkaaGreat
namespace Go.Proofs.YtahfnknbmikmkaaGreat
open Go.RowKit Go.Proofs.Ty Go.Sort Go.Lib
set_option linter.unusedVariables false
set_option maxRecDepth 1000000
set_option linter.unusedSimpArgs false
def wiB (e : En) (v : Vl) : Bool := decide (ordE v e.mn = 0) && decide (ordE v e.mx = 0)
def wiC (e : En) (v : Vl) : Nat := if wiB e v = false then 0 else if 0 < ordN v e.mx then 101253169 else if ordN v e.mn < 0 then 101253170 else 0
theorem btw_wi (e : En) : e.btw = true ↔ wiB e e.df = true ∧ wiC e e.df = 0 := by
  unfold En.btw wiC wiB
  generalize ordE e.df e.mn = E1
  generalize ordE e.df e.mx = E2
  generalize ordN e.df e.mn = N1
  generalize ordN e.df e.mx = N2
  by_cases h1 : E1 = 0 <;> by_cases h2 : E2 = 0 <;> simp [h1, h2]
  by_cases h3 : 0 < N2
  · simp [h3] <;> omega
  · by_cases h4 : N1 < 0
    · simp [h3, h4] <;> omega
    · simp [h3, h4] <;> omega
set_option maxHeartbeats 4000000 in
theorem r8Within_any (e : En) (v : Vl) (w : World) : Calls Tryz.prog 51 #[.agg e.arr, .agg v.arr] w fun x w' => x = .returned (.tuple #[.int .u32 (wiC e v), .bool (wiB e v)]) ∧ Below w.heap.size w w' := by
  have hO1 := r7Order_v v e.mn
  have hO2 := r7Order_v v e.mx
  have HB : Hid (wiB e v = (decide (ordE v e.mn = 0) && decide (ordE v e.mx = 0))) := rfl
  have HC : Hid (wiC e v = if wiB e v = false then 0 else if 0 < ordN v e.mx then 101253169 else if ordN v e.mn < 0 then 101253170 else 0) := rfl
  have h0 : Eb w.heap.size e ((w.alloc (.cells e.arr 93)).alloc (.cells v.arr 52)) := (Eb.new w e).alloc _
  have f0 : Va (w.heap.size + 1) v ((w.alloc (.cells e.arr 93)).alloc (.cells v.arr 52)) := by
    have := Va.new (w.alloc (.cells e.arr 93)) v
    rw [size_alloc] at this
    exact this
  have B0 : Below w.heap.size w ((w.alloc (.cells e.arr 93)).alloc (.cells v.arr 52)) := ((Below.refl _ _).alloc (Nat.le_refl _) _).alloc (by rw [size_alloc]; omega) _
  generalize wiC e v = C at *
  generalize wiB e v = B at *
  generalize ordE v e.mn = E1 at *
  generalize ordE v e.mx = E2 at *
  generalize ordN v e.mn = N1 at *
  generalize ordN v e.mx = N2 at *
  obtain ⟨q, hq⟩ : ∃ q, w.heap.size = q := ⟨_, rfl⟩
  go_enter Tryz.func51, Tryz.ntmps51
  go_upto_region 1 with fail
  generalize (w.alloc (.cells e.arr 93)).alloc (.cells v.arr 52) = W at *
  simp only [hq] at h0 f0 ⊢
  have r1 := h0.r5
  have s0 := B0.size
  go_wp2_with (first | (refine f0.ld rfl _ rfl rfl ?_) | (refine ldV r1 rfl _ rfl rfl ?_))
  refine (hO1 _).mono ?_
  rintro x w1 ⟨rfl, b1⟩
  have h1 := h0.below b1
  have f1 := f0.below b1
  have B1 := B0.trans (b1.mono s0)
  have s1 := B1.size
  clear h0 f0 B0 b1 hO1 r1 s0
  have r2 := h1.r8
  go_wp2_with (first | (refine f1.ld rfl _ rfl rfl ?_) | (refine ldV r2 rfl _ rfl rfl ?_))
  refine (hO2 _).mono ?_
  rintro x w2 ⟨rfl, b2⟩
  have B2 := B1.trans (b2.mono s1)
  clear h1 f1 B1 b2 hO2 r2 s1
  have fin : Below w.heap.size w w2 := B2
  by_cases hE : E1 = 0 ∧ E2 = 0
  · obtain ⟨rfl, rfl⟩ := hE
    have eB := hidOf2 (show B = true from HB.out)
    rw [eB.out, if_neg (by simp)] at HC
    by_cases h3 : 0 < N2
    · have d3 : decide (0 < N2) = true := decide_eq_true h3
      have e1 := hidOf2 (show C = 101253169 by rw [HC.out, if_pos h3])
      clear HC HB
      go_wp2
      go_ret2
      exact ⟨by rw [e1.out, eB.out]; rfl, by first | exact B2 | (rw [← hq]; exact B2)⟩
    · have d3 : decide (0 < N2) = false := decide_eq_false h3
      rw [if_neg h3] at HC
      by_cases h4 : N1 < 0
      · have d4 : decide (N1 < 0) = true := decide_eq_true h4
        have e1 := hidOf2 (show C = 101253170 by rw [HC.out, if_pos h4])
        clear HC HB
        go_wp2
        go_ret2
        exact ⟨by rw [e1.out, eB.out]; rfl, by first | exact B2 | (rw [← hq]; exact B2)⟩
      · have d4 : decide (N1 < 0) = false := decide_eq_false h4
        have e1 := hidOf2 (show C = 0 by rw [HC.out, if_neg h4])
        clear HC HB
        go_wp2
        go_ret2
        exact ⟨by rw [e1.out, eB.out]; rfl, by first | exact B2 | (rw [← hq]; exact B2)⟩
  · have eB := hidOf2 (show B = false by
      rw [HB.out, Bool.and_eq_false_iff]
      rcases Decidable.not_and_iff_or_not.1 hE with h | h
      · exact .inl (decide_eq_false h)
      · exact .inr (decide_eq_false h))
    rw [eB.out, if_pos rfl] at HC
    have e1 := hidOf2 HC.out
    clear HC HB
    by_cases h1 : E1 = 0
    · have h2 : ¬ E2 = 0 := fun h => hE ⟨h1, h⟩
      have d2 : ((E2 : Int) != 0) = true := by simpa using h2
      subst h1
      clear hE
      go_wp2
      go_ret2
      exact ⟨by rw [e1.out, eB.out]; rfl, by first | exact B2 | (rw [← hq]; exact B2)⟩
    · have d1 : ((E1 : Int) != 0) = true := by simpa using h1
      clear hE
      go_wp2
      go_ret2
      exact ⟨by rw [e1.out, eB.out]; rfl, by first | exact B2 | (rw [← hq]; exact B2)⟩
set_option maxHeartbeats 4000000 in
theorem r8entry_any (e : En) (w : World) : Calls Tryz.prog 126 #[.agg e.arr] w fun x w' => x = .returned (.int .i64 e.can) ∧ Below w.heap.size w w' := by
  have hC := r7Check_v e.df
  have hS := r7Size_any e.df.t
  have hB := r8Within_any e e.df
  have HB : Hid (e.can = if e.df.chk ≠ 0 then e.df.chk else if e.ac < 0 ∨ 3 < e.ac then 1 else if e.li = true ∧ ¬ (0 < siz e.df.t ∧ e.btw = true) then 1 else if e.mp = true ∧ ¬ 0 < siz e.df.t then 1 else 0) := rfl
  have HW := hidOf2 (btw_wi e)
  have h0 := Eb.new w e
  have B0 : Below w.heap.size w (w.alloc (.cells e.arr 93)) := (Below.refl _ _).alloc (Nat.le_refl _) _
  generalize e.df.chk = C at *
  generalize e.can = R at *
  generalize wiC e e.df = WC at *
  generalize wiB e e.df = WB at *
  obtain ⟨q, hq⟩ : ∃ q, w.heap.size = q := ⟨_, rfl⟩
  go_enter Tryz.func126, Tryz.ntmps126
  go_upto_region 1 with fail
  generalize (w.alloc (.cells e.arr 93)) = W at *
  have l0 := h0.lt
  simp only [hq] at h0 l0 ⊢
  have r1 := h0.r11
  go_wp2_with (first | (refine ldV r1 rfl _ rfl rfl ?_))
  refine (hC _).mono ?_
  rintro x w1 ⟨rfl, b1⟩
  have h1 := h0.below b1
  have B1 := B0.trans (b1.mono (by omega))
  have s1 := b1.size
  clear h0 B0 b1 hC r1
  by_cases hc : C = 0
  · subst hc
    rw [if_neg (by simp)] at HB
    obtain ⟨c0, c1, c2, c3, c4, c11⟩ := h1.c
    have r0 := h1.r0
    have r1 := h1.r11
    generalize hnum : decide (0 < siz e.df.t) = N at *
    have HN : Hid (decide (0 < siz e.df.t) = N) := hnum
    have hnum2 : decide ((0 : Int) < (siz e.df.t : Int)) = N := by rw [← hnum]; simp
    clear hnum
    generalize siz e.df.t = Z at *
    generalize e.ac = A at *
    by_cases ha : A < 0
    · have d1 : decide (A < 0) = true := decide_eq_true ha
      have e1 := hidOf2 (show R = 1 by rw [HB.out, if_pos (.inl ha)])
      clear HB HN
      go_wp2_with (first | (go_at_call 85; refine (hS _).mono ?_; rintro e w3 ⟨rfl, rfl⟩))
      go_ret
      exact ⟨ret_int (by rw [e1.out]; rfl), B1⟩
    · have d1 : decide (A < 0) = false := decide_eq_false ha
      by_cases ha3 : 3 < A
      · have d2 : decide (3 < A) = true := decide_eq_true ha3
        have e1 := hidOf2 (show R = 1 by rw [HB.out, if_pos (.inr ha3)])
        clear HB HN
        go_wp2_with (first | (go_at_call 85; refine (hS _).mono ?_; rintro e w3 ⟨rfl, rfl⟩))
        go_ret
        exact ⟨ret_int (by rw [e1.out]; rfl), B1⟩
      · have d2 : decide (3 < A) = false := decide_eq_false ha3
        rw [if_neg (fun h => h.elim ha ha3)] at HB
        have HB2 := hidOf2 (show R = if e.li = true ∧ ¬ (N = true ∧ (WB = true ∧ WC = 0)) then 1 else if e.mp = true ∧ ¬ N = true then 1 else 0 by
          have h1 := HB.out
          simp only [HW.out] at h1
          have h2 := HN.out
          subst h2
          simpa using h1)
        clear HB HN HW
        generalize e.li = L at *
        generalize e.mp = M at *
        have HWC : Hid (WC = 0 ∨ WC ≠ 0) := by
          by_cases h : WC = 0
          · exact .inl h
          · exact .inr h
        rcases Nat.eq_zero_or_pos Z with hz | hz
        · subst hz
          obtain rfl : false = N := by rw [← hnum2]; rfl
          clear hnum2
          cases L
          · cases M
            all_goals
              have e1 := hidOf2 HB2.out
              clear HB2
              go_wp2_with (first | (go_at_call 85; refine (hS _).mono ?_; rintro e w3 ⟨rfl, rfl⟩))
              go_ret
              exact ⟨ret_int (by rw [e1.out]; rfl), B1⟩
          · go_wp2_with (first | (go_at_call 85; refine (hS _).mono ?_; rintro e w3 ⟨rfl, rfl⟩) | (refine ldE r0 rfl _ rfl rfl ?_) | (refine ldV r1 rfl _ rfl rfl ?_))
            refine (hB _).mono ?_
            rintro x w2 ⟨rfl, b2⟩
            have B2 := B1.trans (b2.mono (by omega))
            have k3 := (b2.cell (p := ⟨q, 3, none⟩) h1.lt).trans c3
            clear B1 b2 h1 c0 c1 c2 c3 c4 c11 r0 r1 hB
            rcases HWC.out with h | h
            · subst h
              cases M <;> cases WB
              all_goals
                have e1 := hidOf2 HB2.out
                clear HB2
                go_wp2
                go_ret
                exact ⟨ret_int (by rw [e1.out]; rfl), B2⟩
            · have d3 : ((WC : Int) != 0) = true := by simpa using h
              have d4 : decide (WC = 0) = false := decide_eq_false h
              have HB3 := hidOf2 (show R = 1 by rw [HB2.out, if_pos ⟨by trivial, fun h2 => h h2.2.2⟩])
              clear HB2
              cases WB
              all_goals
                go_wp2
                go_ret
                exact ⟨ret_int (by rw [HB3.out]; rfl), B2⟩
        · obtain rfl : true = N := by rw [← hnum2]; exact (decide_eq_true (show (0 : Int) < (Z : Int) by omega)).symm
          cases L
          · cases M
            all_goals
              have e1 := hidOf2 HB2.out
              clear HB2
              go_wp2_with (first | (go_at_call 85; refine (hS _).mono ?_; rintro e w3 ⟨rfl, rfl⟩))
              go_ret
              exact ⟨ret_int (by rw [e1.out]; rfl), B1⟩
          · go_wp2_with (first | (go_at_call 85; refine (hS _).mono ?_; rintro e w3 ⟨rfl, rfl⟩) | (refine ldE r0 rfl _ rfl rfl ?_) | (refine ldV r1 rfl _ rfl rfl ?_))
            refine (hB _).mono ?_
            rintro x w2 ⟨rfl, b2⟩
            have B2 := B1.trans (b2.mono (by omega))
            have k3 := (b2.cell (p := ⟨q, 3, none⟩) h1.lt).trans c3
            clear B1 b2 h1 c0 c1 c2 c3 c4 c11 r0 r1 hB
            rcases HWC.out with h | h
            · subst h
              cases M <;> cases WB
              all_goals
                have e1 := hidOf2 HB2.out
                clear HB2
                go_wp2
                go_ret
                exact ⟨ret_int (by rw [e1.out]; rfl), B2⟩
            · have d3 : ((WC : Int) != 0) = true := by simpa using h
              have d4 : decide (WC = 0) = false := decide_eq_false h
              have HB3 := hidOf2 (show R = 1 by rw [HB2.out, if_pos ⟨by trivial, fun h2 => h h2.2.2⟩])
              clear HB2
              cases WB
              all_goals
                go_wp2
                go_ret
                exact ⟨ret_int (by rw [HB3.out]; rfl), B2⟩
  · have d1 : ((C : Int) != 0) = true := by simpa using hc
    have e1 := hidOf2 (show R = C by rw [HB.out, if_pos hc])
    clear HB
    go_wp2
    go_ret
    exact ⟨ret_int (by rw [e1.out]), B1⟩
end Go.Proofs.YtahfnknbmikmkaaGreat
namespace Go.Proofs.YtahfnknbmikmkaaGreat
open Go.RowKit Go.Proofs.Ty Go.Sort Go.Lib
set_option linter.unusedVariables false
set_option maxRecDepth 1000000
set_option linter.unusedSimpArgs false
theorem any_pl (l : List En) (e : En) (k : Nat) : (l.take k).any (fun x => x.pl == e.pl) = true ↔ ∃ j, ∃ h : j < l.length, j < k ∧ l[j].ix = e.ix ∧ l[j].sb = e.sb := by
  rw [List.any_eq_true]
  constructor
  · rintro ⟨x, hx, he⟩
    obtain ⟨j, hj, rfl⟩ := List.getElem_of_mem hx
    rw [List.length_take] at hj
    rw [List.getElem_take] at he
    have := (En.pl_iff _ _).1 (beq_iff_eq.1 he)
    exact ⟨j, by omega, by omega, this.1, this.2⟩
  · rintro ⟨j, hj, hk, h1, h2⟩
    refine ⟨l[j], ?_, beq_iff_eq.2 ((En.pl_iff _ _).2 ⟨h1, h2⟩)⟩
    rw [List.mem_take_iff_getElem]
    exact ⟨j, by omega, rfl⟩
set_option maxHeartbeats 8000000 in
theorem r8Check_any (v : Value) (l : List En) (w : World) (hW : Wide 14 enC w v l) (hn : l.length ≤ 4000000000000) :
    Calls Tryz.prog 100 #[v] w fun x w' => x = .returned (.int .i64 (chkL l)) ∧ Below w.heap.size w w' := by
  have HR : Hid (chkL l = if 1024 < l.length then 2 else chkG (l.take 0) (l.drop 0)) := rfl
  generalize chkL l = R at *
  obtain ⟨ao, cp, rfl, _, hc⟩ := hW
  have HC : Hid (∀ (wr : World), Below w.heap.size w wr → ∀ k (hk : k < l.length), ∃ b off, ao = some ⟨b, off, none⟩ ∧ b < w.heap.size ∧ wr.rangeAt b (off + k * 14) (enC l[k])) := fun wr hb k hk => Wide.at hc hb k hk
  clear hc
  go_enter Tryz.func100, Tryz.ntmps100
  by_cases h1 : 1024 < l.length
  · have d1 : decide ((1024 : Int) < (l.length : Int)) = true := by simp; omega
    have e1 := hidOf2 (show R = 2 by rw [HR.out, if_pos h1])
    clear HR
    go_wp2
    go_ret
    exact ⟨ret_int (by rw [e1.out]; rfl), Below.refl _ _⟩
  · have d1 : decide ((1024 : Int) < (l.length : Int)) = false := by simp; omega
    rw [if_neg h1] at HR
    have hL : l.length ≤ 1024 := by omega
    clear h1
    go_wp2
    go_loopw [3] (fun i x => ∃ k : Nat, k ≤ l.length ∧ i = .int .i64 k ∧ Hid (R = chkG (l.take k) (l.drop k)) ∧ Below w.heap.size w x) (fun i _ => l.length - (intOf i).toNat)
    case atStart => exact ⟨0, Nat.zero_le _, rfl, HR, Below.refl _ _⟩
    case round =>
      clear HR
      obtain ⟨k, hk, rfl, HR, B1⟩ := hrel
      by_cases hkl : k < l.length
      · obtain ⟨b, off, rfl, hb, hR⟩ := HC.out wr B1 k hkl
        have HS := hidOf2 (HR.out.trans (chkG_step l k hkl))
        have HA : Hid ((l.take k).any (fun x => x.pl == l[k].pl) = true ↔ ∃ j, ∃ h : j < l.length, j < k ∧ l[j].ix = l[k].ix ∧ l[j].sb = l[k].sb) := any_pl l l[k] k
        have hE := r8entry_any l[k] wr
        have HK := hidOf2 (fun x hb => HC.out x hb k hkl)
        generalize l[k] = e at *
        clear HR
        go_wp2_with (first | (refine ldE hR rfl _ rfl rfl ?_))
        refine hE.mono ?_
        rintro x w2 ⟨rfl, b2⟩
        have B2 := B1.trans (b2.mono B1.size)
        clear hE B1 b2 hR
        by_cases hcz : e.can = 0
        · rw [if_neg (by rw [hcz]; simp)] at HS
          rw [hcz]
          go_wp2
          go_loopw [5] (fun i x => ∃ j : Nat, j ≤ k ∧ i = .int .i64 j ∧ Hid (∀ m (hm : m < l.length), m < j → ¬ (l[m].ix = e.ix ∧ l[m].sb = e.sb)) ∧ Below w.heap.size w x) (fun i _ => k - (intOf i).toNat)
          case atStart => exact ⟨0, Nat.zero_le _, rfl, fun m hm h => by omega, B2⟩
          case round =>
            obtain ⟨j, hj, rfl, HJ, B3⟩ := hrel
            by_cases hjk : j < k
            · obtain ⟨b', off', he1, hb1, hR1⟩ := HC.out _ B3 j (by omega)
              obtain ⟨b2', off2', he2, hb2, hR2⟩ := HK.out _ B3
              have ha1 : b' = b ∧ off' = off := by injection he1 with h; injection h with h1 h2; exact ⟨h1.symm, h2.symm⟩
              obtain ⟨rfl, rfl⟩ := ha1
              have ha2 : b2' = b' ∧ off2' = off' := by injection he2 with h; injection h with h1 h2; exact ⟨h1.symm, h2.symm⟩
              obtain ⟨rfl, rfl⟩ := ha2
              have c0 := hR1 0 _ rfl
              have c1 := hR1 1 _ rfl
              have k0 := hR2 0 _ rfl
              have k1 := hR2 1 _ rfl
              simp only [Nat.add_zero] at c0 k0
              have HN : Hid (¬ (l[j].ix = e.ix ∧ l[j].sb = e.sb) → ∀ m (hm : m < l.length), m < j + 1 → ¬ (l[m].ix = e.ix ∧ l[m].sb = e.sb)) := by
                intro h m hm h1
                rcases Nat.lt_or_ge m j with h3 | h3
                · exact HJ.out m hm h3
                · have : m = j := by omega
                  subst this; exact h
              have HY : Hid (l[j].ix = e.ix ∧ l[j].sb = e.sb → R = 5) := fun h => HS.out.trans (if_pos (HA.out.2 ⟨j, by omega, hjk, h⟩))
              have hkl1 : k < l.length := hkl
              have hjl1 : j < l.length := by omega
              clear hR1 hR2 he1 he2
              generalize l[j].ix = X1 at *
              generalize l[j].sb = X2 at *
              generalize e.ix = Y1 at *
              generalize e.sb = Y2 at *
              by_cases hx : X1 = Y1
              · subst hx
                by_cases hy : X2 = Y2
                · subst hy
                  have e1 := hidOf2 (HY.out ⟨rfl, rfl⟩)
                  clear HY HN HJ HS HA
                  go_upto_region 12 with fail
                  go_quiet (fail)
                  go_wp2
                  go_ret
                  exact ⟨ret_int (by rw [e1.out]; rfl), bdr B3 _⟩
                · have d3 : ((X2 : Int) == (Y2 : Int)) = false := by simp; omega
                  have e1 := hidOf2 (HN.out (fun h => hy h.2))
                  clear HY HN HJ
                  go_upto_region 12 with fail
                  go_quiet (fail)
                  go_wp2
                  go_roundw
                  case rel => exact ⟨j + 1, by omega, by go_num, e1, bdr B3 _⟩
                  case measure => simp [intOf]; omega
              · have d3 : ((X1 : Int) == (Y1 : Int)) = false := by simp; omega
                have e1 := hidOf2 (HN.out (fun h => hx h.1))
                clear HY HN HJ
                go_upto_region 12 with fail
                go_quiet (fail)
                go_wp2
                go_roundw
                case rel => exact ⟨j + 1, by omega, by go_num, e1, bdr B3 _⟩
                case measure => simp [intOf]; omega
            · have hjk2 : j = k := by omega
              subst hjk2
              have e1 := hidOf2 (show R = chkG (l.take (j + 1)) (l.drop (j + 1)) from HS.out.trans (if_neg (fun h => by
                obtain ⟨m, hm, hmj, h3⟩ := HA.out.1 h
                exact HJ.out m hm hmj h3)))
              clear HS HA HJ
              go_wp2
              go_roundw
              case rel => exact ⟨j + 1, by omega, by go_num, e1, B3⟩
              case measure => simp [intOf]; omega
        · have d1 : ((e.can : Int) != 0) = true := by simpa using hcz
          rw [if_pos hcz] at HS
          generalize e.can = CN at *
          go_wp2
          go_ret
          exact ⟨ret_int (by rw [HS.out]), B2⟩
      · have e1 := hidOf2 (show R = 0 by rw [HR.out, List.drop_eq_nil_of_le (by omega)]; rfl)
        clear HR
        go_wp2
        go_ret
        exact ⟨ret_int (by rw [e1.out]; rfl), B1⟩
end Go.Proofs.YtahfnknbmikmkaaGreat
