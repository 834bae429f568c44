/- A frame that waits; what is raised, cleared, told. -/
import Derived.Test.YtlkocebgkmdeoaaEmJ0
namespace Go.Proofs.Ytlkocebgkmdeoaa
open Go.RowKit
set_option linter.unusedVariables false
set_option maxRecDepth 1000000
set_option linter.unusedSimpArgs false
section
variable {g : Nat} {P : Nat → Prop} {s : Te} {vn vp vw v : Value} {w x y : World}
set_option maxHeartbeats 4000000 in
theorem tell_any (h : Ptv g P s vn vp vw w) (hP : ∀ k, w.heap.size ≤ k → P k) (hl : s.now.length ≤ 2305843009213693951) (c : Nat) (hc : c < 65536) (x0 x1 x2 x3 x4 : Int) :
    Calls Try.prog 26 #[.pointer (some ⟨g, 0, none⟩), .int .u16 c, .agg #[.int .u8 x0, .int .u8 x1, .int .u8 x2, .int .u8 x3, .int .u8 x4]] w fun e w' => e = .returned (.tuple #[]) ∧ ∃ vw', Ptv g P { s with waits := push s.waits (tl c hc s.now x0 x1 x2 x3 x4) } vn vp vw' w' ∧ Kq P w w' := by
  obtain ⟨q, hq⟩ : ∃ q, w.heap.size = q := ⟨_, rfl⟩
  obtain ⟨w1, hw1⟩ : ∃ y, w.alloc (.cells #[.int .u8 x0, .int .u8 x1, .int .u8 x2, .int .u8 x3, .int .u8 x4] 35) = y := ⟨_, rfl⟩
  have b0 : Below w.heap.size w w1 := by rw [← hw1]; exact (Below.refl _ _).alloc (Nat.le_refl _) _
  have S0 : Bc 35 q #[.int .u8 x0, .int .u8 x1, .int .u8 x2, .int .u8 x3, .int .u8 x4] w1 := by rw [← hw1, ← hq]; exact heap_alloc_new w _
  have h0 := h.below b0
  have k0 := Kq.of_below (P := P) b0
  have hgq : g ≠ q := by have := h.blk.lt; omega
  have hvq : ∀ k, vw.ownBlock = some k → k ≠ q := fun k e => by have := (own_lt2 h.rw e).2; omega
  obtain ⟨ao, cap, hv⟩ := own_shapeT h.rw
  subst hv
  have c4 := h0.cells.2.2.2.2.1
  by_cases hlt16 : s.waits.length < 16
  · have hpu : push s.waits (tl c hc s.now x0 x1 x2 x3 x4) = s.waits ++ [tl c hc s.now x0 x1 x2 x3 x4] := by unfold push; rw [if_pos hlt16]
    rw [hpu]
    have hd : decide ((s.waits.length : Int) < 16) = true := by simp; omega
    clear hpu
    have HSS : Hid (∀ (u u' : World), Bc 35 q #[.int .u8 x0, .int .u8 x1, .int .u8 x2, .int .u8 x3, .int .u8 x4] u → Below u.heap.size u u' → Bc 35 q #[.int .u8 x0, .int .u8 x1, .int .u8 x2, .int .u8 x3, .int .u8 x4] u') := fun u u' h1 h2 => Bc.below h1 h2
    have HSG : Hid (∀ (u u' : World), Bc 35 q #[.int .u8 x0, .int .u8 x1, .int .u8 x2, .int .u8 x3, .int .u8 x4] u → u.grownBy u' (Value.slice ao s.waits.length cap).ownBlock → Bc 35 q #[.int .u8 x0, .int .u8 x1, .int .u8 x2, .int .u8 x3, .int .u8 x4] u') := fun u u' h1 h2 => Bc.kq h1 ((Kq.refl (fun k => (Value.slice ao s.waits.length cap).ownBlock = some k) _).grown h2 (fun k e => e)) (fun e => hvq q e rfl)
    have HSC : Hid (∀ (u : World) (v : Value), Bc 35 q #[.int .u8 x0, .int .u8 x1, .int .u8 x2, .int .u8 x3, .int .u8 x4] u → Bc 35 q #[.int .u8 x0, .int .u8 x1, .int .u8 x2, .int .u8 x3, .int .u8 x4] (u.setCell ⟨g, 4, none⟩ v)) := fun u v h1 => Bc.kq h1 (Kq.one u g 4 v) (fun e => hgq e.symm)
    clear h
    go_enter Try.func26, Try.ntmps26
    go_wp2_with fail
    change Code.wp Try.prog _ _ _ w1
    refine wp_region_held (S := fun y => Bc 35 q #[.int .u8 x0, .int .u8 x1, .int .u8 x2, .int .u8 x3, .int .u8 x4] y) (by kernel_rfl) ?_
    change wpAnyH _ _ _ _ _ _ _ _ w1.drew
    replace h0 : Ptv g P s vn vp (.slice ao s.waits.length cap) w1.drew := h0.kq (Q := fun _ => False) ((Kq.refl _ _).drawn 1) (fun _ _ _ h => h)
    replace k0 : Kq P w w1.drew := k0.drawn 1
    replace S0 : Bc 35 q #[.int .u8 x0, .int .u8 x1, .int .u8 x2, .int .u8 x3, .int .u8 x4] w1.drew := S0
    generalize w1.drew = w1 at *
    refine wpAnyH_take (i := 0) (v := (.pointer (some ⟨g, 0, none⟩))) rfl (by kernel_rfl) (by kernel_rfl) (by kernel_rfl) (fun _ _ _ h => h) (.inl ⟨rfl, fun _ hS => rfl⟩) S0 ?_
    simp only [List.getElem_toArray, List.getElem_cons_succ, List.getElem_cons_zero, Act.put, List.setIfInBounds_toArray, List.set_cons_succ, List.set_cons_zero]
    refine wpAnyH_take (i := 1) (v := (.pointer (some ⟨g, 0, none⟩))) rfl (by kernel_rfl) (by kernel_rfl) (by kernel_rfl) (fun _ _ _ h => h) (.inl ⟨rfl, fun _ hS => rfl⟩) S0 ?_
    simp only [List.getElem_toArray, List.getElem_cons_succ, List.getElem_cons_zero, Act.put, List.setIfInBounds_toArray, List.set_cons_succ, List.set_cons_zero]
    refine wpAnyH_take (i := 2) (v := (.pointer (some ⟨g, 0, none⟩))) rfl (by kernel_rfl) (by kernel_rfl) (by kernel_rfl) (fun _ _ _ h => h) (.inl ⟨rfl, fun _ hS => by simp [execOp, go_sem, Act.eval]⟩) S0 ?_
    simp only [List.getElem_toArray, List.getElem_cons_succ, List.getElem_cons_zero, Act.put, List.setIfInBounds_toArray, List.set_cons_succ, List.set_cons_zero]
    refine wpAnyH_take (i := 3) (v := (.pointer (some ⟨g, 4, none⟩))) rfl (by kernel_rfl) (by kernel_rfl) (by kernel_rfl) (fun _ _ _ h => h) (.inl ⟨rfl, fun _ hS => by simp [execOp, go_sem, Act.eval]⟩) S0 ?_
    simp only [List.getElem_toArray, List.getElem_cons_succ, List.getElem_cons_zero, Act.put, List.setIfInBounds_toArray, List.set_cons_succ, List.set_cons_zero]
    refine wpAnyH_take (i := 5) (v := (.int .u16 c)) rfl (by kernel_rfl) (by kernel_rfl) (by kernel_rfl) (fun _ _ _ h => h) (.inl ⟨rfl, fun _ hS => rfl⟩) S0 ?_
    simp only [List.getElem_toArray, List.getElem_cons_succ, List.getElem_cons_zero, Act.put, List.setIfInBounds_toArray, List.set_cons_succ, List.set_cons_zero]
    refine wpAnyH_take (i := 6) (v := (.pointer (some ⟨g, 0, none⟩))) rfl (by kernel_rfl) (by kernel_rfl) (by kernel_rfl) (fun _ _ _ h => h) (.inl ⟨rfl, fun _ hS => rfl⟩) S0 ?_
    simp only [List.getElem_toArray, List.getElem_cons_succ, List.getElem_cons_zero, Act.put, List.setIfInBounds_toArray, List.set_cons_succ, List.set_cons_zero]
    refine wpAnyH_take (i := 8) (v := (.agg #[.int .u8 x0, .int .u8 x1, .int .u8 x2, .int .u8 x3, .int .u8 x4])) rfl (by kernel_rfl) (by kernel_rfl) (by kernel_rfl) (fun _ _ _ h => h) (.inl ⟨rfl, fun _ hS => exec_load rfl rfl (Bc.ld5 hS rfl)⟩) S0 ?_
    simp only [List.getElem_toArray, List.getElem_cons_succ, List.getElem_cons_zero, Act.put, List.setIfInBounds_toArray, List.set_cons_succ, List.set_cons_zero]
    refine wpAnyH_all (rs := [4, 7]) (by kernel_rfl) (by simp) ?_
    intro k hk
    simp only [List.mem_cons, List.mem_nil_iff, or_false] at hk
    rcases hk with rfl | rfl
    · refine wpOp_run rfl rfl (wp_load_run 31 _ rfl ⟨g, 4, none⟩ rfl _ (load_fs h0.cells.2.2.2.2.1) ?_)
      refine ⟨S0, ?_⟩
      simp only [List.getElem_toArray, List.getElem_cons_succ, List.getElem_cons_zero, Act.put, List.setIfInBounds_toArray, List.set_cons_succ, List.set_cons_zero]
      refine wpAnyH_all (rs := [7]) (by kernel_rfl) (by simp) ?_
      intro k hk
      simp only [List.mem_cons, List.mem_nil_iff, or_false] at hk
      subst hk
      refine wpOp_run rfl rfl (wp_call_fn 18 #[.pointer (some ⟨g, 0, none⟩)] (by simp [execOp, go_sem, Act.eval, resolve, invoke, enterReg]) ?_)
      refine (reg_any h0 hl).mono ?_
      rintro e u1 ⟨rfl, b1⟩
      have h1 := h0.below b1
      have s1 := HSS.out _ _ S0 b1
      have k1 := k0.trans (Kq.of_below (P := P) b1)
      refine ⟨s1, ?_⟩
      simp only [List.getElem_toArray, List.getElem_cons_succ, List.getElem_cons_zero, Act.put, List.setIfInBounds_toArray, List.set_cons_succ, List.set_cons_zero]
      refine wpAnyH_take (i := 9) (v := (.agg (tl c hc s.now x0 x1 x2 x3 x4).arr)) rfl (by kernel_rfl) (by kernel_rfl) (by kernel_rfl) (fun _ _ _ h => h) (.inl ⟨rfl, fun _ hS => by simp [execOp, go_sem, Act.eval, Tr.arr, tl]⟩) s1 ?_
      simp only [List.getElem_toArray, List.getElem_cons_succ, List.getElem_cons_zero, Act.put, List.setIfInBounds_toArray, List.set_cons_succ, List.set_cons_zero]
      refine wpAnyH_all (rs := [10]) (by kernel_rfl) (by simp) ?_
      intro k hk
      simp only [List.mem_cons, List.mem_nil_iff, or_false] at hk
      subst hk
      refine wpOp_run rfl rfl (wp_call_fn 38 #[.agg (tl c hc s.now x0 x1 x2 x3 x4).arr] (by simp [execOp, go_sem, Act.eval, resolve, invoke, enterWr]) ?_)
      refine (write_any (tl c hc s.now x0 x1 x2 x3 x4) u1).mono ?_
      rintro e u2 ⟨rfl, b2⟩
      have h2 := h1.below b2
      have s2 := HSS.out _ _ s1 b2
      have k2 := k1.trans (Kq.of_below (P := P) b2)
      refine ⟨s2, ?_⟩
      simp only [List.getElem_toArray, List.getElem_cons_succ, List.getElem_cons_zero, Act.put, List.setIfInBounds_toArray, List.set_cons_succ, List.set_cons_zero]
      refine wpAnyH_all (rs := [11]) (by kernel_rfl) (by simp) ?_
      intro k hk
      simp only [List.mem_cons, List.mem_nil_iff, or_false] at hk
      subst hk
      refine wpOp_run rfl rfl (wp_one DF (tl c hc s.now x0 x1 x2 x3 x4) 31 42 _ 8 _ rfl rfl Try.underlying31 info8F (by decide) ?_)
      obtain ⟨qb, hqb⟩ : ∃ q, u2.heap.size = q := ⟨_, rfl⟩
      have b3 : Below u2.heap.size u2 (u2.alloc (.cells (DF.dec (tl c hc s.now x0 x1 x2 x3 x4)).toArray 42)) := (Below.refl _ _).alloc (Nat.le_refl _) _
      have t3 : Bc 42 qb (DF.dec (tl c hc s.now x0 x1 x2 x3 x4)).toArray (u2.alloc (.cells (DF.dec (tl c hc s.now x0 x1 x2 x3 x4)).toArray 42)) := by rw [← hqb]; exact heap_alloc_new _ _
      have h3 := h2.below b3
      have s3 := HSS.out _ _ s2 b3
      have k3 := k2.trans (Kq.of_below (P := P) b3)
      rw [hqb]
      clear hqb
      generalize u2.alloc (.cells (DF.dec (tl c hc s.now x0 x1 x2 x3 x4)).toArray 42) = u3 at *
      refine ⟨s3, ?_⟩
      simp only [List.getElem_toArray, List.getElem_cons_succ, List.getElem_cons_zero, Act.put, List.setIfInBounds_toArray, List.set_cons_succ, List.set_cons_zero]
      refine wpAnyH_all (rs := [12]) (by kernel_rfl) (by simp) ?_
      intro k hk
      simp only [List.mem_cons, List.mem_nil_iff, or_false] at hk
      subst hk
      refine wpOp_run rfl rfl (wp_app DF _ _ 31 42 _ 8 Try.underlying31 info8F rfl rfl _ s.waits rfl h3.rw qb (tl c hc s.now x0 x1 x2 x3 x4) rfl t3 (by unfold maxLen; omega) (by omega) ?_)
      intro v9 y9 o9 g9 b9
      obtain ⟨a9, c9, hv9⟩ := own_shape5 o9
      subst hv9
      have z9 := h3.grownW (tl c hc s.now x0 x1 x2 x3 x4) o9 g9 b9 (fun k hk => hP k (Nat.le_trans k3.size hk)) hlt16
      have s9 := HSG.out _ _ s3 g9
      have k9 := k3.trans z9.2.1
      refine ⟨s9, ?_⟩
      simp only [List.getElem_toArray, List.getElem_cons_succ, List.getElem_cons_zero, Act.put, List.setIfInBounds_toArray, List.set_cons_succ, List.set_cons_zero]
      refine wpAnyH_take (i := 13) (v := (.pointer (some ⟨g, 0, none⟩))) rfl (by kernel_rfl) (by kernel_rfl) (by kernel_rfl) (fun _ _ _ h => h) (.inl ⟨rfl, fun _ hS => by simp [execOp, go_sem, Act.eval]⟩) s9 ?_
      simp only [List.getElem_toArray, List.getElem_cons_succ, List.getElem_cons_zero, Act.put, List.setIfInBounds_toArray, List.set_cons_succ, List.set_cons_zero]
      refine wpAnyH_take (i := 14) (v := (.pointer (some ⟨g, 4, none⟩))) rfl (by kernel_rfl) (by kernel_rfl) (by kernel_rfl) (fun _ _ _ h => h) (.inl ⟨rfl, fun _ hS => by simp [execOp, go_sem, Act.eval]⟩) s9 ?_
      simp only [List.getElem_toArray, List.getElem_cons_succ, List.getElem_cons_zero, Act.put, List.setIfInBounds_toArray, List.set_cons_succ, List.set_cons_zero]
      refine wpAnyH_all (rs := [15]) (by kernel_rfl) (by simp) ?_
      intro k hk
      simp only [List.mem_cons, List.mem_nil_iff, or_false] at hk
      subst hk
      refine wpOp_run rfl rfl (wp_store_run 31 _ _ rfl ⟨g, 4, none⟩ rfl _ rfl (store_fs z9.2.2.1 z9.2.2.2) ?_)
      have s10 := HSC.out _ (.slice a9 (s.waits ++ [(tl c hc s.now x0 x1 x2 x3 x4)]).length c9) s9
      refine ⟨s10, ?_⟩
      simp only [List.getElem_toArray, List.getElem_cons_succ, List.getElem_cons_zero, Act.put, List.setIfInBounds_toArray, List.set_cons_succ, List.set_cons_zero]
      refine wpAnyH_done (by kernel_rfl) ?_ _
      go_wp2
      go_end0
      exact ⟨rfl, _, z9.1, k9⟩
    · refine wpOp_run rfl rfl (wp_call_fn 18 #[.pointer (some ⟨g, 0, none⟩)] (by simp [execOp, go_sem, Act.eval, resolve, invoke, enterReg]) ?_)
      refine (reg_any h0 hl).mono ?_
      rintro e u1 ⟨rfl, b1⟩
      have h1 := h0.below b1
      have s1 := HSS.out _ _ S0 b1
      have k1 := k0.trans (Kq.of_below (P := P) b1)
      refine ⟨s1, ?_⟩
      simp only [List.getElem_toArray, List.getElem_cons_succ, List.getElem_cons_zero, Act.put, List.setIfInBounds_toArray, List.set_cons_succ, List.set_cons_zero]
      refine wpAnyH_take (i := 9) (v := (.agg (tl c hc s.now x0 x1 x2 x3 x4).arr)) rfl (by kernel_rfl) (by kernel_rfl) (by kernel_rfl) (fun _ _ _ h => h) (.inl ⟨rfl, fun _ hS => by simp [execOp, go_sem, Act.eval, Tr.arr, tl]⟩) s1 ?_
      simp only [List.getElem_toArray, List.getElem_cons_succ, List.getElem_cons_zero, Act.put, List.setIfInBounds_toArray, List.set_cons_succ, List.set_cons_zero]
      refine wpAnyH_all (rs := [4, 10]) (by kernel_rfl) (by simp) ?_
      intro k hk
      simp only [List.mem_cons, List.mem_nil_iff, or_false] at hk
      rcases hk with rfl | rfl
      · refine wpOp_run rfl rfl (wp_load_run 31 _ rfl ⟨g, 4, none⟩ rfl _ (load_fs h1.cells.2.2.2.2.1) ?_)
        refine ⟨s1, ?_⟩
        simp only [List.getElem_toArray, List.getElem_cons_succ, List.getElem_cons_zero, Act.put, List.setIfInBounds_toArray, List.set_cons_succ, List.set_cons_zero]
        refine wpAnyH_all (rs := [10]) (by kernel_rfl) (by simp) ?_
        intro k hk
        simp only [List.mem_cons, List.mem_nil_iff, or_false] at hk
        subst hk
        refine wpOp_run rfl rfl (wp_call_fn 38 #[.agg (tl c hc s.now x0 x1 x2 x3 x4).arr] (by simp [execOp, go_sem, Act.eval, resolve, invoke, enterWr]) ?_)
        refine (write_any (tl c hc s.now x0 x1 x2 x3 x4) u1).mono ?_
        rintro e u2 ⟨rfl, b2⟩
        have h2 := h1.below b2
        have s2 := HSS.out _ _ s1 b2
        have k2 := k1.trans (Kq.of_below (P := P) b2)
        refine ⟨s2, ?_⟩
        simp only [List.getElem_toArray, List.getElem_cons_succ, List.getElem_cons_zero, Act.put, List.setIfInBounds_toArray, List.set_cons_succ, List.set_cons_zero]
        refine wpAnyH_all (rs := [11]) (by kernel_rfl) (by simp) ?_
        intro k hk
        simp only [List.mem_cons, List.mem_nil_iff, or_false] at hk
        subst hk
        refine wpOp_run rfl rfl (wp_one DF (tl c hc s.now x0 x1 x2 x3 x4) 31 42 _ 8 _ rfl rfl Try.underlying31 info8F (by decide) ?_)
        obtain ⟨qb, hqb⟩ : ∃ q, u2.heap.size = q := ⟨_, rfl⟩
        have b3 : Below u2.heap.size u2 (u2.alloc (.cells (DF.dec (tl c hc s.now x0 x1 x2 x3 x4)).toArray 42)) := (Below.refl _ _).alloc (Nat.le_refl _) _
        have t3 : Bc 42 qb (DF.dec (tl c hc s.now x0 x1 x2 x3 x4)).toArray (u2.alloc (.cells (DF.dec (tl c hc s.now x0 x1 x2 x3 x4)).toArray 42)) := by rw [← hqb]; exact heap_alloc_new _ _
        have h3 := h2.below b3
        have s3 := HSS.out _ _ s2 b3
        have k3 := k2.trans (Kq.of_below (P := P) b3)
        rw [hqb]
        clear hqb
        generalize u2.alloc (.cells (DF.dec (tl c hc s.now x0 x1 x2 x3 x4)).toArray 42) = u3 at *
        refine ⟨s3, ?_⟩
        simp only [List.getElem_toArray, List.getElem_cons_succ, List.getElem_cons_zero, Act.put, List.setIfInBounds_toArray, List.set_cons_succ, List.set_cons_zero]
        refine wpAnyH_all (rs := [12]) (by kernel_rfl) (by simp) ?_
        intro k hk
        simp only [List.mem_cons, List.mem_nil_iff, or_false] at hk
        subst hk
        refine wpOp_run rfl rfl (wp_app DF _ _ 31 42 _ 8 Try.underlying31 info8F rfl rfl _ s.waits rfl h3.rw qb (tl c hc s.now x0 x1 x2 x3 x4) rfl t3 (by unfold maxLen; omega) (by omega) ?_)
        intro v9 y9 o9 g9 b9
        obtain ⟨a9, c9, hv9⟩ := own_shape5 o9
        subst hv9
        have z9 := h3.grownW (tl c hc s.now x0 x1 x2 x3 x4) o9 g9 b9 (fun k hk => hP k (Nat.le_trans k3.size hk)) hlt16
        have s9 := HSG.out _ _ s3 g9
        have k9 := k3.trans z9.2.1
        refine ⟨s9, ?_⟩
        simp only [List.getElem_toArray, List.getElem_cons_succ, List.getElem_cons_zero, Act.put, List.setIfInBounds_toArray, List.set_cons_succ, List.set_cons_zero]
        refine wpAnyH_take (i := 13) (v := (.pointer (some ⟨g, 0, none⟩))) rfl (by kernel_rfl) (by kernel_rfl) (by kernel_rfl) (fun _ _ _ h => h) (.inl ⟨rfl, fun _ hS => by simp [execOp, go_sem, Act.eval]⟩) s9 ?_
        simp only [List.getElem_toArray, List.getElem_cons_succ, List.getElem_cons_zero, Act.put, List.setIfInBounds_toArray, List.set_cons_succ, List.set_cons_zero]
        refine wpAnyH_take (i := 14) (v := (.pointer (some ⟨g, 4, none⟩))) rfl (by kernel_rfl) (by kernel_rfl) (by kernel_rfl) (fun _ _ _ h => h) (.inl ⟨rfl, fun _ hS => by simp [execOp, go_sem, Act.eval]⟩) s9 ?_
        simp only [List.getElem_toArray, List.getElem_cons_succ, List.getElem_cons_zero, Act.put, List.setIfInBounds_toArray, List.set_cons_succ, List.set_cons_zero]
        refine wpAnyH_all (rs := [15]) (by kernel_rfl) (by simp) ?_
        intro k hk
        simp only [List.mem_cons, List.mem_nil_iff, or_false] at hk
        subst hk
        refine wpOp_run rfl rfl (wp_store_run 31 _ _ rfl ⟨g, 4, none⟩ rfl _ rfl (store_fs z9.2.2.1 z9.2.2.2) ?_)
        have s10 := HSC.out _ (.slice a9 (s.waits ++ [(tl c hc s.now x0 x1 x2 x3 x4)]).length c9) s9
        refine ⟨s10, ?_⟩
        simp only [List.getElem_toArray, List.getElem_cons_succ, List.getElem_cons_zero, Act.put, List.setIfInBounds_toArray, List.set_cons_succ, List.set_cons_zero]
        refine wpAnyH_done (by kernel_rfl) ?_ _
        go_wp2
        go_end0
        exact ⟨rfl, _, z9.1, k9⟩
      · refine wpOp_run rfl rfl (wp_call_fn 38 #[.agg (tl c hc s.now x0 x1 x2 x3 x4).arr] (by simp [execOp, go_sem, Act.eval, resolve, invoke, enterWr]) ?_)
        refine (write_any (tl c hc s.now x0 x1 x2 x3 x4) u1).mono ?_
        rintro e u2 ⟨rfl, b2⟩
        have h2 := h1.below b2
        have s2 := HSS.out _ _ s1 b2
        have k2 := k1.trans (Kq.of_below (P := P) b2)
        refine ⟨s2, ?_⟩
        simp only [List.getElem_toArray, List.getElem_cons_succ, List.getElem_cons_zero, Act.put, List.setIfInBounds_toArray, List.set_cons_succ, List.set_cons_zero]
        refine wpAnyH_all (rs := [4, 11]) (by kernel_rfl) (by simp) ?_
        intro k hk
        simp only [List.mem_cons, List.mem_nil_iff, or_false] at hk
        rcases hk with rfl | rfl
        · refine wpOp_run rfl rfl (wp_load_run 31 _ rfl ⟨g, 4, none⟩ rfl _ (load_fs h2.cells.2.2.2.2.1) ?_)
          refine ⟨s2, ?_⟩
          simp only [List.getElem_toArray, List.getElem_cons_succ, List.getElem_cons_zero, Act.put, List.setIfInBounds_toArray, List.set_cons_succ, List.set_cons_zero]
          refine wpAnyH_all (rs := [11]) (by kernel_rfl) (by simp) ?_
          intro k hk
          simp only [List.mem_cons, List.mem_nil_iff, or_false] at hk
          subst hk
          refine wpOp_run rfl rfl (wp_one DF (tl c hc s.now x0 x1 x2 x3 x4) 31 42 _ 8 _ rfl rfl Try.underlying31 info8F (by decide) ?_)
          obtain ⟨qb, hqb⟩ : ∃ q, u2.heap.size = q := ⟨_, rfl⟩
          have b3 : Below u2.heap.size u2 (u2.alloc (.cells (DF.dec (tl c hc s.now x0 x1 x2 x3 x4)).toArray 42)) := (Below.refl _ _).alloc (Nat.le_refl _) _
          have t3 : Bc 42 qb (DF.dec (tl c hc s.now x0 x1 x2 x3 x4)).toArray (u2.alloc (.cells (DF.dec (tl c hc s.now x0 x1 x2 x3 x4)).toArray 42)) := by rw [← hqb]; exact heap_alloc_new _ _
          have h3 := h2.below b3
          have s3 := HSS.out _ _ s2 b3
          have k3 := k2.trans (Kq.of_below (P := P) b3)
          rw [hqb]
          clear hqb
          generalize u2.alloc (.cells (DF.dec (tl c hc s.now x0 x1 x2 x3 x4)).toArray 42) = u3 at *
          refine ⟨s3, ?_⟩
          simp only [List.getElem_toArray, List.getElem_cons_succ, List.getElem_cons_zero, Act.put, List.setIfInBounds_toArray, List.set_cons_succ, List.set_cons_zero]
          refine wpAnyH_all (rs := [12]) (by kernel_rfl) (by simp) ?_
          intro k hk
          simp only [List.mem_cons, List.mem_nil_iff, or_false] at hk
          subst hk
          refine wpOp_run rfl rfl (wp_app DF _ _ 31 42 _ 8 Try.underlying31 info8F rfl rfl _ s.waits rfl h3.rw qb (tl c hc s.now x0 x1 x2 x3 x4) rfl t3 (by unfold maxLen; omega) (by omega) ?_)
          intro v9 y9 o9 g9 b9
          obtain ⟨a9, c9, hv9⟩ := own_shape5 o9
          subst hv9
          have z9 := h3.grownW (tl c hc s.now x0 x1 x2 x3 x4) o9 g9 b9 (fun k hk => hP k (Nat.le_trans k3.size hk)) hlt16
          have s9 := HSG.out _ _ s3 g9
          have k9 := k3.trans z9.2.1
          refine ⟨s9, ?_⟩
          simp only [List.getElem_toArray, List.getElem_cons_succ, List.getElem_cons_zero, Act.put, List.setIfInBounds_toArray, List.set_cons_succ, List.set_cons_zero]
          refine wpAnyH_take (i := 13) (v := (.pointer (some ⟨g, 0, none⟩))) rfl (by kernel_rfl) (by kernel_rfl) (by kernel_rfl) (fun _ _ _ h => h) (.inl ⟨rfl, fun _ hS => by simp [execOp, go_sem, Act.eval]⟩) s9 ?_
          simp only [List.getElem_toArray, List.getElem_cons_succ, List.getElem_cons_zero, Act.put, List.setIfInBounds_toArray, List.set_cons_succ, List.set_cons_zero]
          refine wpAnyH_take (i := 14) (v := (.pointer (some ⟨g, 4, none⟩))) rfl (by kernel_rfl) (by kernel_rfl) (by kernel_rfl) (fun _ _ _ h => h) (.inl ⟨rfl, fun _ hS => by simp [execOp, go_sem, Act.eval]⟩) s9 ?_
          simp only [List.getElem_toArray, List.getElem_cons_succ, List.getElem_cons_zero, Act.put, List.setIfInBounds_toArray, List.set_cons_succ, List.set_cons_zero]
          refine wpAnyH_all (rs := [15]) (by kernel_rfl) (by simp) ?_
          intro k hk
          simp only [List.mem_cons, List.mem_nil_iff, or_false] at hk
          subst hk
          refine wpOp_run rfl rfl (wp_store_run 31 _ _ rfl ⟨g, 4, none⟩ rfl _ rfl (store_fs z9.2.2.1 z9.2.2.2) ?_)
          have s10 := HSC.out _ (.slice a9 (s.waits ++ [(tl c hc s.now x0 x1 x2 x3 x4)]).length c9) s9
          refine ⟨s10, ?_⟩
          simp only [List.getElem_toArray, List.getElem_cons_succ, List.getElem_cons_zero, Act.put, List.setIfInBounds_toArray, List.set_cons_succ, List.set_cons_zero]
          refine wpAnyH_done (by kernel_rfl) ?_ _
          go_wp2
          go_end0
          exact ⟨rfl, _, z9.1, k9⟩
        · refine wpOp_run rfl rfl (wp_one DF (tl c hc s.now x0 x1 x2 x3 x4) 31 42 _ 8 _ rfl rfl Try.underlying31 info8F (by decide) ?_)
          obtain ⟨qb, hqb⟩ : ∃ q, u2.heap.size = q := ⟨_, rfl⟩
          have b3 : Below u2.heap.size u2 (u2.alloc (.cells (DF.dec (tl c hc s.now x0 x1 x2 x3 x4)).toArray 42)) := (Below.refl _ _).alloc (Nat.le_refl _) _
          have t3 : Bc 42 qb (DF.dec (tl c hc s.now x0 x1 x2 x3 x4)).toArray (u2.alloc (.cells (DF.dec (tl c hc s.now x0 x1 x2 x3 x4)).toArray 42)) := by rw [← hqb]; exact heap_alloc_new _ _
          have h3 := h2.below b3
          have s3 := HSS.out _ _ s2 b3
          have k3 := k2.trans (Kq.of_below (P := P) b3)
          rw [hqb]
          clear hqb
          generalize u2.alloc (.cells (DF.dec (tl c hc s.now x0 x1 x2 x3 x4)).toArray 42) = u3 at *
          refine ⟨s3, ?_⟩
          simp only [List.getElem_toArray, List.getElem_cons_succ, List.getElem_cons_zero, Act.put, List.setIfInBounds_toArray, List.set_cons_succ, List.set_cons_zero]
          refine wpAnyH_all (rs := [4]) (by kernel_rfl) (by simp) ?_
          intro k hk
          simp only [List.mem_cons, List.mem_nil_iff, or_false] at hk
          subst hk
          refine wpOp_run rfl rfl (wp_load_run 31 _ rfl ⟨g, 4, none⟩ rfl _ (load_fs h3.cells.2.2.2.2.1) ?_)
          refine ⟨s3, ?_⟩
          simp only [List.getElem_toArray, List.getElem_cons_succ, List.getElem_cons_zero, Act.put, List.setIfInBounds_toArray, List.set_cons_succ, List.set_cons_zero]
          refine wpAnyH_all (rs := [12]) (by kernel_rfl) (by simp) ?_
          intro k hk
          simp only [List.mem_cons, List.mem_nil_iff, or_false] at hk
          subst hk
          refine wpOp_run rfl rfl (wp_app DF _ _ 31 42 _ 8 Try.underlying31 info8F rfl rfl _ s.waits rfl h3.rw qb (tl c hc s.now x0 x1 x2 x3 x4) rfl t3 (by unfold maxLen; omega) (by omega) ?_)
          intro v9 y9 o9 g9 b9
          obtain ⟨a9, c9, hv9⟩ := own_shape5 o9
          subst hv9
          have z9 := h3.grownW (tl c hc s.now x0 x1 x2 x3 x4) o9 g9 b9 (fun k hk => hP k (Nat.le_trans k3.size hk)) hlt16
          have s9 := HSG.out _ _ s3 g9
          have k9 := k3.trans z9.2.1
          refine ⟨s9, ?_⟩
          simp only [List.getElem_toArray, List.getElem_cons_succ, List.getElem_cons_zero, Act.put, List.setIfInBounds_toArray, List.set_cons_succ, List.set_cons_zero]
          refine wpAnyH_take (i := 13) (v := (.pointer (some ⟨g, 0, none⟩))) rfl (by kernel_rfl) (by kernel_rfl) (by kernel_rfl) (fun _ _ _ h => h) (.inl ⟨rfl, fun _ hS => by simp [execOp, go_sem, Act.eval]⟩) s9 ?_
          simp only [List.getElem_toArray, List.getElem_cons_succ, List.getElem_cons_zero, Act.put, List.setIfInBounds_toArray, List.set_cons_succ, List.set_cons_zero]
          refine wpAnyH_take (i := 14) (v := (.pointer (some ⟨g, 4, none⟩))) rfl (by kernel_rfl) (by kernel_rfl) (by kernel_rfl) (fun _ _ _ h => h) (.inl ⟨rfl, fun _ hS => by simp [execOp, go_sem, Act.eval]⟩) s9 ?_
          simp only [List.getElem_toArray, List.getElem_cons_succ, List.getElem_cons_zero, Act.put, List.setIfInBounds_toArray, List.set_cons_succ, List.set_cons_zero]
          refine wpAnyH_all (rs := [15]) (by kernel_rfl) (by simp) ?_
          intro k hk
          simp only [List.mem_cons, List.mem_nil_iff, or_false] at hk
          subst hk
          refine wpOp_run rfl rfl (wp_store_run 31 _ _ rfl ⟨g, 4, none⟩ rfl _ rfl (store_fs z9.2.2.1 z9.2.2.2) ?_)
          have s10 := HSC.out _ (.slice a9 (s.waits ++ [(tl c hc s.now x0 x1 x2 x3 x4)]).length c9) s9
          refine ⟨s10, ?_⟩
          simp only [List.getElem_toArray, List.getElem_cons_succ, List.getElem_cons_zero, Act.put, List.setIfInBounds_toArray, List.set_cons_succ, List.set_cons_zero]
          refine wpAnyH_done (by kernel_rfl) ?_ _
          go_wp2
          go_end0
          exact ⟨rfl, _, z9.1, k9⟩
  · have hpu : push s.waits (tl c hc s.now x0 x1 x2 x3 x4) = s.waits := by unfold push; rw [if_neg hlt16]
    rw [hpu]
    have hd : decide ((s.waits.length : Int) < 16) = false := by simp; omega
    have H := hidOf2 (And.intro h0 k0)
    clear hpu h h0 k0 S0 b0 hlt16
    generalize s.waits.length = n at *
    go_enter Try.func26, Try.ntmps26
    go_wp2
    go_end0
    exact ⟨rfl, _, H.out.1, H.out.2⟩
end
end Go.Proofs.Ytlkocebgkmdeoaa
