/- Contracts: Order; the document's own. -/
import Derived.Test.YthalhidebkhclaaTyR
import Derived.Test.YthalhidebkhclaaTy4
import Derived.Deep.Cut
import Derived.Deep.CutRange
import Derived.Laws.BitsAllLaws
namespace Go.Proofs.Ythalhidebkhclaa
open Go.RowKit Go.Proofs.Ty
set_option linter.unusedVariables false
set_option maxRecDepth 1000000
/-- A number of 64 bits with its sign. -/
def sgnN (n : Nat) : Int := if n < 9223372036854775808 then n else (n : Int) - 18446744073709551616
def ordR (a b : Vl) : Int := if kind a.t = 1 then cmpI a.n b.n else if kind a.t = 2 then cmpI (sgnN a.n) (sgnN b.n) else cmpL a.s.data.toList b.s.data.toList
def ordE (a b : Vl) : Nat := if a.chk ≠ 0 then a.chk else if b.chk ≠ 0 then b.chk else if a.t ≠ b.t then 1 else 0
def ordN (a b : Vl) : Int := if ordE a b = 0 then ordR a b else 0
theorem conv_sgn (n : Nat) (h : n < 18446744073709551616) : wrap64 (n : Int) = sgnN n := by
  unfold sgnN
  simp only [wrap64]
  split <;> omega
/-- Two values laid down, and the world behind both. -/
theorem two_vals (w : World) (a b : Vl) : Va w.heap.size a ((w.alloc (.cells a.arr 42)).alloc (.cells b.arr 42)) ∧ Va (w.heap.size + 1) b ((w.alloc (.cells a.arr 42)).alloc (.cells b.arr 42)) ∧ Below w.heap.size w ((w.alloc (.cells a.arr 42)).alloc (.cells b.arr 42)) := by
  refine ⟨(Va.new w a).alloc _, ?_, ((Below.refl _ _).alloc (Nat.le_refl _) _).alloc (by rw [size_alloc]; omega) _⟩
  have := Va.new (w.alloc (.cells a.arr 42)) b
  rw [size_alloc] at this
  exact this
set_option maxHeartbeats 2000000 in
theorem Order_v (a b : Vl) (w : World) :
    Calls Try.prog 69 #[.agg a.arr, .agg b.arr] w fun e w' => e = .returned (.tuple #[.int .i64 (ordN a b), .int .i64 (ordE a b)]) ∧ Below w.heap.size w w' := by
  have hCa := Check_v a
  have hCb := Check_v b
  have hK := kindOf_any a.t
  have hU := Cmpu_any a.n b.n
  have hI := Cmpi_any (sgnN a.n) (sgnN b.n)
  have hT := Cmps_any a.s b.s
  have HE : Hid (ordE a b = if a.chk ≠ 0 then a.chk else if b.chk ≠ 0 then b.chk else if a.t ≠ b.t then 1 else 0) := rfl
  have HN : Hid (ordN a b = if ordE a b = 0 then (if kind a.t = 1 then cmpI a.n b.n else if kind a.t = 2 then cmpI (sgnN a.n) (sgnN b.n) else cmpL a.s.data.toList b.s.data.toList) else 0) := rfl
  have hsa := conv_sgn a.n a.hn
  have hsb := conv_sgn b.n b.hn
  obtain ⟨fa, fb, B0⟩ := two_vals w a b
  generalize ordE a b = E at *
  generalize ordN a b = N at *
  generalize a.chk = Ca at *
  generalize b.chk = Cb at *
  go_enter Try.func69, Try.ntmps69
  go_upto_region 1 with fail
  generalize (w.alloc (.cells a.arr 42)).alloc (.cells b.arr 42) = W at *
  obtain ⟨q, hq⟩ : ∃ q, w.heap.size = q := ⟨_, rfl⟩
  have lb := fb.lt
  simp only [hq] at fa fb lb ⊢
  go_wp2_with (refine fa.ld rfl _ rfl rfl ?_)
  refine (hCa _).mono ?_
  rintro e w1 ⟨rfl, b1⟩
  have fa1 := fa.below b1
  have fb1 := fb.below b1
  have B1 := B0.trans (b1.mono (by omega))
  have s1 := b1.size
  clear fa fb B0 b1 hCa
  by_cases ha : Ca = 0
  · subst ha
    go_wp2_with (refine fb1.ld rfl _ rfl rfl ?_)
    refine (hCb _).mono ?_
    rintro e w2 ⟨rfl, b2⟩
    have fa2 := fa1.below b2
    have fb2 := fb1.below b2
    have B2 := B1.trans (b2.mono (by omega))
    clear fa1 fb1 B1 b2 hCb
    have a0 := fa2.c0
    have a1 := fa2.c1
    have a2 := fa2.c2
    have b0 := fb2.c0
    have b1 := fb2.c1
    have b2 := fb2.c2
    by_cases hb : Cb = 0
    · subst hb
      by_cases ht : a.t = b.t
      · have dt : (a.t != b.t) = false := by simpa using ht
        have e0 := hidOf (show E = 0 by rw [HE.out]; simp [ht])
        rw [e0.out, if_pos rfl] at HN
        by_cases h1 : kind a.t = 1
        · have e1 := hidOf (show N = cmpI a.n b.n by rw [HN.out, if_pos h1])
          rw [h1] at hK
          clear HE HN ht
          go_wp2_with (first | (go_at_call 60; refine (hK _).mono ?_; rintro e w2 ⟨rfl, rfl⟩) | (go_at_call 85; refine (hU _).mono ?_; rintro e w2 ⟨rfl, rfl⟩))
          go_ret2
          exact ⟨by rw [e0.out, e1.out]; rfl, B2⟩
        · by_cases h2 : kind a.t = 2
          · have e1 := hidOf (show N = cmpI (sgnN a.n) (sgnN b.n) by rw [HN.out, if_neg h1, if_pos h2])
            rw [h2] at hK
            clear HE HN ht
            go_wp2_with (first | (go_at_call 60; refine (hK _).mono ?_; rintro e w2 ⟨rfl, rfl⟩) | (go_at_call 86; refine (hI _).mono ?_; rintro e w2 ⟨rfl, rfl⟩))
            go_ret2
            exact ⟨by rw [e0.out, e1.out]; rfl, B2⟩
          · have e1 := hidOf (show N = cmpL a.s.data.toList b.s.data.toList by rw [HN.out, if_neg h1, if_neg h2])
            have d1 : ((kind a.t : Int) == 1) = false := by simp; omega
            have d2 : ((kind a.t : Int) == 2) = false := by simp; omega
            clear HE HN ht
            go_wp2_with (first | (go_at_call 60; refine (hK _).mono ?_; rintro e w2 ⟨rfl, rfl⟩) | (go_at_call 87; refine (hT _).mono ?_; rintro e w2 ⟨rfl, rfl⟩))
            go_ret2
            exact ⟨by rw [e0.out, e1.out]; rfl, B2⟩
      · have dt : (a.t != b.t) = true := by simpa using ht
        have e0 := hidOf (show E = 1 by rw [HE.out]; simp [ht])
        have e1 := hidOf (show N = 0 by rw [HN.out, if_neg (by rw [e0.out]; decide)])
        clear HE HN
        go_wp2
        go_ret2
        exact ⟨by rw [e0.out, e1.out]; rfl, B2⟩
    · have db : ((Cb : Int) != 0) = true := by simpa using hb
      have e0 := hidOf (show E = Cb by rw [HE.out]; simp [hb])
      have e1 := hidOf (show N = 0 by rw [HN.out, if_neg (by rw [e0.out]; exact hb)])
      clear HE HN
      go_wp2
      go_ret2
      exact ⟨by rw [e0.out, e1.out]; rfl, B2⟩
  · have da : ((Ca : Int) != 0) = true := by simpa using ha
    have e0 := hidOf (show E = Ca by rw [HE.out]; simp [ha])
    have e1 := hidOf (show N = 0 by rw [HN.out, if_neg (by rw [e0.out]; exact ha)])
    clear HE HN
    go_wp2
    go_ret2
    exact ⟨by rw [e0.out, e1.out]; rfl, B1⟩
end Go.Proofs.Ythalhidebkhclaa
