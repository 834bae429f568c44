/- The law TypesOrder returns true whatever comes in: its walk. -/
import Derived.Test.YtoihcjokifjcgaaLawTOrd
namespace Go.Proofs.Ytoihcjokifjcgaa
open Go.RowKit Go.Proofs.Ty
set_option linter.unusedVariables false
set_option maxRecDepth 1000000
theorem three_vals (w : World) (a b c : Vl) : ∃ W, W = ((w.alloc (.cells a.arr 24)).alloc (.cells b.arr 24)).alloc (.cells c.arr 24) ∧ Va w.heap.size a W ∧ Va (w.heap.size + 1) b W ∧ Va (w.heap.size + 2) c W ∧ Below w.heap.size w W := by
  obtain ⟨h1, h2, h3⟩ := two_vals w a b
  refine ⟨_, rfl, h1.alloc _, h2.alloc _, ?_, h3.alloc (by rw [size_alloc, size_alloc]; omega) _⟩
  have := Va.new ((w.alloc (.cells a.arr 24)).alloc (.cells b.arr 24)) c
  rw [size_alloc, size_alloc] at this
  exact this
set_option maxHeartbeats 4000000 in
theorem tord_walk (a b c : Vl) (w : World) :
    Calls Try.prog 5 #[.agg a.arr, .agg b.arr, .agg c.arr] w fun e w' => e = .returned (.bool true) ∧ Below w.heap.size w w' := by
  have hab := Order_v a b
  have hab7 := r7Order_v a b
  have hba := Order_v b a
  have hbc := Order_v b c
  have hac := Order_v a c
  have hPa := r7Plain_v a
  have hPb := r7Plain_v b
  have hL := lives7_any
  have HB := hidOf (@ord_back a b)
  have HZ := hidOf (@ord_zero a b)
  have HO := hidOf (@ord_on a b c)
  have hr1 := ord_range a b
  have hr2 := ord_range b c
  obtain ⟨W, hW, fa, fb, fc, B0⟩ := three_vals w a b c
  generalize ordN a b = N at *
  generalize ordE a b = E at *
  generalize ordN b a = N' at *
  generalize ordE b a = E' at *
  generalize ordN b c = M at *
  generalize ordE b c = F at *
  generalize ordN a c = L at *
  generalize ordE a c = G at *
  go_enter Try.func5, Try.ntmps5
  go_upto_region 1 with fail
  rw [← hW]
  clear hW
  obtain ⟨q, hq⟩ : ∃ q, w.heap.size = q := ⟨_, rfl⟩
  have lc := fc.lt
  simp only [hq] at fa fb fc lc ⊢
  go_wp2_with (first | refine fa.ld rfl _ rfl rfl ?_ | refine fb.ld rfl _ rfl rfl ?_)
  refine (hab _).mono ?_
  rintro e w1 ⟨rfl, b1⟩
  have fa1 := fa.below b1
  have fb1 := fb.below b1
  have fc1 := fc.below b1
  have B1 := B0.trans (b1.mono (by omega))
  have s1 := b1.size
  clear fa fb fc B0 b1 hab
  go_wp2_with (first | refine fa1.ld rfl _ rfl rfl ?_ | refine fb1.ld rfl _ rfl rfl ?_)
  refine (hab7 _).mono ?_
  rintro e w2 ⟨rfl, b2⟩
  have fa2 := fa1.below b2
  have fb2 := fb1.below b2
  have fc2 := fc1.below b2
  have B2 := B1.trans (b2.mono (by omega))
  have s2 := b2.size
  clear fa1 fb1 fc1 B1 b2 hab7
  by_cases h0 : E = 0
  · subst h0
    obtain ⟨hE', hN'⟩ := HB.out rfl
    have hZ := HZ.out rfl
    have HO2 := hidOf (HO.out rfl)
    subst hE' hN'
    clear HB HZ HO
    go_wp2_with (first | refine fa2.ld rfl _ rfl rfl ?_ | refine fb2.ld rfl _ rfl rfl ?_)
    refine (hba _).mono ?_
    rintro e w3 ⟨rfl, b3⟩
    have fa3 := fa2.below b3
    have fb3 := fb2.below b3
    have fc3 := fc2.below b3
    have B3 := B2.trans (b3.mono (by omega))
    have s3 := b3.size
    clear fa2 fb2 fc2 B2 b3 hba
    have hL3 := Later.some w3
    generalize hvb : vlB a.plain b.plain = vb at *
    have hneg : (wrap64 (-N)) = -N := by
      simp only [wrap64]
      omega
    go_upto_region 8 with fail
    refine wp_region_later (by kernel_rfl) (by kernel_rfl) ?_
    repeat (go_big_quiet_step (fail))
    refine quiet_ldv fa3 rfl _ rfl rfl ?_
    simp only [Act.put, List.setIfInBounds_toArray, List.set_cons_succ, List.set_cons_zero]
    repeat (go_big_quiet_step (first | (go_at_call 13; with_reducible exact later (hPa _))))
    refine quiet_ldv fb3 rfl _ rfl rfl ?_
    simp only [Act.put, List.setIfInBounds_toArray, List.set_cons_succ, List.set_cons_zero]
    repeat (go_big_quiet_step (first | (go_at_call 13; with_reducible exact later (hPb _))))
    refine quiet_eqv a.plain b.plain rfl _ _ rfl rfl rfl ?_
    simp only [Act.put, List.setIfInBounds_toArray, List.set_cons_succ, List.set_cons_zero]
    rw [hvb]
    repeat (go_big_quiet_step (fail))
    refine wpQuiet_nil ?_
    rintro _ ⟨y, rfl⟩
    have fa4 := Later.va fa3 y
    have fb4 := Later.va fb3 y
    have fc4 := Later.va fc3 y
    have B4 := B3.trans (y.below.mono (by omega))
    have s4 := y.below.size
    clear fa3 fb3 fc3 B3
    generalize y.now = w4 at *
    clear y
    go_wp2_with (first | refine fb4.ld rfl _ rfl rfl ?_ | refine fc4.ld rfl _ rfl rfl ?_)
    refine (hbc _).mono ?_
    rintro e w5 ⟨rfl, b5⟩
    have fa5 := fa4.below b5
    have fc5 := fc4.below b5
    have B5 := B4.trans (b5.mono (by omega))
    have s5 := b5.size
    clear fa4 fb4 fc4 B4 b5 hbc
    by_cases h1 : F = 0
    · subst h1
      obtain ⟨hG, hon⟩ := HO2.out rfl
      subst hG
      have Hon := hidOf hon
      clear HO2 hon
      go_wp2_with (first | refine fa5.ld rfl _ rfl rfl ?_ | refine fc5.ld rfl _ rfl rfl ?_)
      refine (hac _).mono ?_
      rintro e w6 ⟨rfl, b6⟩
      have B6 := B5.trans (b6.mono (by omega))
      have s6 := b6.size
      clear fa5 fc5 B5 b6 hac hZ hneg
      rcases hr1 with rfl | rfl | rfl <;> rcases hr2 with rfl | rfl | rfl
      all_goals first
        | (obtain rfl := Hon.out rfl; go_wp2_with fail; refine (hL _).mono ?_; rintro e w7 ⟨rfl, b7⟩; have B7 := B6.trans (b7.mono (by omega)); go_wp2; go_ret; exact ⟨rfl, by first | exact B7 | (rw [hq]; exact B7)⟩)
        | (clear Hon; go_wp2_with fail; refine (hL _).mono ?_; rintro e w7 ⟨rfl, b7⟩; have B7 := B6.trans (b7.mono (by omega)); go_wp2; go_ret; exact ⟨rfl, by first | exact B7 | (rw [hq]; exact B7)⟩)
    · have d1 : ((F : Int) != 0) = true := by simpa using h1
      go_wp2_with fail
      refine (hL _).mono ?_
      rintro e w7 ⟨rfl, b7⟩
      have B7 := B5.trans (b7.mono (by omega))
      go_wp2
      go_ret
      exact ⟨rfl, by first | exact B7 | (rw [hq]; exact B7)⟩
  · have d0 : ((E : Int) != 0) = true := by simpa using h0
    go_wp2_with fail
    refine (hL _).mono ?_
    rintro e w7 ⟨rfl, b7⟩
    have B7 := B2.trans (b7.mono (by omega))
    go_wp2
    go_ret
    exact ⟨rfl, by first | exact B7 | (rw [hq]; exact B7)⟩
end Go.Proofs.Ytoihcjokifjcgaa
