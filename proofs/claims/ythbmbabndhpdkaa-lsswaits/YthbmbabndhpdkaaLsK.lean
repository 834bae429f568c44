/- The document's slave takes a command of the configuration. -/
import Derived.Test.YthbmbabndhpdkaaLsJ
namespace Go.Proofs.Ythbmbabndhpdkaa
open Go.RowKit
set_option linter.unusedVariables false
set_option maxRecDepth 1000000
set_option linter.unusedSimpArgs false
section
variable {g : Nat} {s : Ld} {w x : World}
theorem dset_results {Q : Nat} {f : F8} {b : Bool} {w : World} (h : Qb Q f w) (tmps : Array Value) (h2 : tmps[4]?.getD undef = .pointer (some ⟨Q, 0, none⟩)) (h3 : tmps[5]?.getD undef = .bool b) :
    (results Try.f29 tmps).run Try.prog w = .ok (.tuple #[.agg f.arr, .bool b]) w := by
  have l0 := h.load
  simp [Go.results, Try.results29, h2, h3, asAddr, l0]
set_option maxHeartbeats 4000000 in
theorem dset17_a (h : Da g s w) (ho : s.Ok) (q : F8) (h1 : q.b0.toNat = 17) (h2 : 1 ≤ q.b1.toNat ∧ q.b1.toNat ≤ 127) : Calls Try.prog 29 #[.pointer (some ⟨g, 0, none⟩), .agg q.arr] w (PostD g (s.confS q) (s.confA q) w) := by
  obtain ⟨W, k, hW, hk, q0, z0, b0, hkl⟩ := Qb.fresh2 w q
  have hgk : g < k := by rw [← hk]; exact h.lt
  have T0 : Two g g w W := by rw [← hW]; exact ((Two.refl _ _ _).alloc _).alloc _
  have S0 : Da g s W := h.below b0
  have u0 := q0.c0
  have u1 := q0.c1
  have u2 := q0.c2
  have l1 := q.b1.toNat_lt
  have l2 := q.b2.toNat_lt
  obtain ⟨c0, c1, c2, c3, c4, c5, c6, c7, c8, c9, c10, c11, _, _, _, hf⟩ := S0.cells
  have f4 := hf 4
  have f5 := hf 5
  have f7 := hf 7
  have f8 := hf 8
  have f9 := hf 9
  have f10 := hf 10
  have eS : s.confS q = { s with ip := (q.b1.toNat : Int) % 255 } := by
    have hg : Ls.goodId q.b1.toNat = true := by simp [Ls.goodId]; omega
    unfold Ld.confS; rw [h1, hg]; rfl
  have eA : s.confA q = (ordF 17 0, true) := by
    have hg : Ls.goodId q.b1.toNat = true := by simp [Ls.goodId]; omega
    unfold Ld.confA; rw [h1, hg]; rfl
  rw [eS, eA]
  have hO : Hid (∀ x, Calls Try.prog 14 #[.int .u8 17, .int .u32 ((0 : Nat) : Int)] x fun e w' => e = .returned (.agg (ordF 17 0).arr) ∧ Below x.heap.size x w') := fun x => dorder_any 17 0 x (by omega) (by omega)
  obtain ⟨Y, hY⟩ : ∃ Y, W.setCell ⟨g, 4, none⟩ (.int .i64 ((q.b1.toNat : Int) % 255)) = Y := ⟨_, rfl⟩
  have HH : Hid (Da g { s with ip := (q.b1.toNat : Int) % 255 } Y ∧ Two g g w Y ∧ Qb (k + 1) F8.nul Y) := by
    rw [← hY]
    exact ⟨Da.set S0 rfl, T0.at0 4 _, z0.two ((Two.refl g g W).at0 4 _) (by omega) (by omega)⟩
  have HY := hidOf2 hY
  have HK := hidOf2 hk
  rw [h1] at u0
  have d0 : ((q.b1.toNat : Int) == 0) = false := by simp; omega
  have d1 : decide ((127 : Int) < (q.b1.toNat : Int)) = false := by simp; omega
  have wr1 := wrapI q.b1.toNat (by omega)
  generalize ordF 17 0 = F at *
  generalize q.b1.toNat = B1 at *
  generalize q.b2.toNat = B2 at *
  clear h S0 T0 z0 q0 b0 hf hgk hkl h1 eS eA hY ho h2
  go_enter Try.func29, Try.ntmps29
  go_upto_region 1 with fail
  change Code.wp Try.prog _ _ _ ((w.alloc (.cells q.arr 34)).alloc (.cells zA8 34))
  rw [hW]
  go_wp2_with fail
  rw [HY.out]
  refine (hO.out _).mono ?_
  rintro e w2 ⟨rfl, B2⟩
  obtain ⟨e1, e2, e3⟩ := HH.out
  have z2 := e3.below B2
  go_wp2_with (first | (refine sdF (g := F) z2 rfl _ _ rfl rfl rfl ?_))
  exact bodyPost_ret (dset_results (z2.row F) _ rfl rfl) rfl (PostD.mk rfl (e1.below B2) z2 (two_below e2 B2) (by have := HK.out; omega))
set_option maxHeartbeats 4000000 in
theorem dset17_b (h : Da g s w) (ho : s.Ok) (q : F8) (h1 : q.b0.toNat = 17) (h2 : q.b1.toNat = 255) : Calls Try.prog 29 #[.pointer (some ⟨g, 0, none⟩), .agg q.arr] w (PostD g (s.confS q) (s.confA q) w) := by
  obtain ⟨W, k, hW, hk, q0, z0, b0, hkl⟩ := Qb.fresh2 w q
  have hgk : g < k := by rw [← hk]; exact h.lt
  have T0 : Two g g w W := by rw [← hW]; exact ((Two.refl _ _ _).alloc _).alloc _
  have S0 : Da g s W := h.below b0
  have u0 := q0.c0
  have u1 := q0.c1
  have u2 := q0.c2
  have l1 := q.b1.toNat_lt
  have l2 := q.b2.toNat_lt
  obtain ⟨c0, c1, c2, c3, c4, c5, c6, c7, c8, c9, c10, c11, _, _, _, hf⟩ := S0.cells
  have f4 := hf 4
  have f5 := hf 5
  have f7 := hf 7
  have f8 := hf 8
  have f9 := hf 9
  have f10 := hf 10
  have eS : s.confS q = { s with ip := (q.b1.toNat : Int) % 255 } := by
    have hg : Ls.goodId q.b1.toNat = true := by simp [Ls.goodId]; omega
    unfold Ld.confS; rw [h1, hg]; rfl
  have eA : s.confA q = (ordF 17 0, true) := by
    have hg : Ls.goodId q.b1.toNat = true := by simp [Ls.goodId]; omega
    unfold Ld.confA; rw [h1, hg]; rfl
  rw [eS, eA]
  have hO : Hid (∀ x, Calls Try.prog 14 #[.int .u8 17, .int .u32 ((0 : Nat) : Int)] x fun e w' => e = .returned (.agg (ordF 17 0).arr) ∧ Below x.heap.size x w') := fun x => dorder_any 17 0 x (by omega) (by omega)
  obtain ⟨Y, hY⟩ : ∃ Y, W.setCell ⟨g, 4, none⟩ (.int .i64 ((q.b1.toNat : Int) % 255)) = Y := ⟨_, rfl⟩
  have HH : Hid (Da g { s with ip := (q.b1.toNat : Int) % 255 } Y ∧ Two g g w Y ∧ Qb (k + 1) F8.nul Y) := by
    rw [← hY]
    exact ⟨Da.set S0 rfl, T0.at0 4 _, z0.two ((Two.refl g g W).at0 4 _) (by omega) (by omega)⟩
  have HY := hidOf2 hY
  have HK := hidOf2 hk
  rw [h1] at u0
  have d0 : ((q.b1.toNat : Int) == 0) = false := by simp; omega
  have d1 : decide ((127 : Int) < (q.b1.toNat : Int)) = true := by simp; omega
  have d2 : decide ((q.b1.toNat : Int) < 255) = false := by simp; omega
  have wr1 := wrapI q.b1.toNat (by omega)
  generalize ordF 17 0 = F at *
  generalize q.b1.toNat = B1 at *
  generalize q.b2.toNat = B2 at *
  clear h S0 T0 z0 q0 b0 hf hgk hkl h1 eS eA hY ho h2
  go_enter Try.func29, Try.ntmps29
  go_upto_region 1 with fail
  change Code.wp Try.prog _ _ _ ((w.alloc (.cells q.arr 34)).alloc (.cells zA8 34))
  rw [hW]
  go_wp2_with fail
  rw [HY.out]
  refine (hO.out _).mono ?_
  rintro e w2 ⟨rfl, B2⟩
  obtain ⟨e1, e2, e3⟩ := HH.out
  have z2 := e3.below B2
  go_wp2_with (first | (refine sdF (g := F) z2 rfl _ _ rfl rfl rfl ?_))
  exact bodyPost_ret (dset_results (z2.row F) _ rfl rfl) rfl (PostD.mk rfl (e1.below B2) z2 (two_below e2 B2) (by have := HK.out; omega))
set_option maxHeartbeats 4000000 in
theorem dset17_c (h : Da g s w) (ho : s.Ok) (q : F8) (h1 : q.b0.toNat = 17) (h2 : q.b1.toNat = 0) : Calls Try.prog 29 #[.pointer (some ⟨g, 0, none⟩), .agg q.arr] w (PostD g (s.confS q) (s.confA q) w) := by
  obtain ⟨W, k, hW, hk, q0, z0, b0, hkl⟩ := Qb.fresh2 w q
  have hgk : g < k := by rw [← hk]; exact h.lt
  have T0 : Two g g w W := by rw [← hW]; exact ((Two.refl _ _ _).alloc _).alloc _
  have S0 : Da g s W := h.below b0
  have u0 := q0.c0
  have u1 := q0.c1
  have u2 := q0.c2
  have l1 := q.b1.toNat_lt
  have l2 := q.b2.toNat_lt
  obtain ⟨c0, c1, c2, c3, c4, c5, c6, c7, c8, c9, c10, c11, _, _, _, hf⟩ := S0.cells
  have f4 := hf 4
  have f5 := hf 5
  have f7 := hf 7
  have f8 := hf 8
  have f9 := hf 9
  have f10 := hf 10
  have eS : s.confS q = s := by
    have hg : Ls.goodId q.b1.toNat = false := by simp [Ls.goodId]; omega
    unfold Ld.confS; rw [h1, hg]; rfl
  have eA : s.confA q = (ordF 17 1, true) := by
    have hg : Ls.goodId q.b1.toNat = false := by simp [Ls.goodId]; omega
    unfold Ld.confA; rw [h1, hg]; rfl
  rw [eS, eA]
  have hO : Hid (∀ x, Calls Try.prog 14 #[.int .u8 17, .int .u32 ((1 : Nat) : Int)] x fun e w' => e = .returned (.agg (ordF 17 1).arr) ∧ Below x.heap.size x w') := fun x => dorder_any 17 1 x (by omega) (by omega)
  obtain ⟨Y, hY⟩ : ∃ Y, W = Y := ⟨_, rfl⟩
  have HH : Hid (Da g s Y ∧ Two g g w Y ∧ Qb (k + 1) F8.nul Y) := by
    rw [← hY]
    exact ⟨S0, T0, z0⟩
  have HY := hidOf2 hY
  have HK := hidOf2 hk
  rw [h1] at u0
  rw [h2] at u1
  generalize ordF 17 1 = F at *
  generalize q.b1.toNat = B1 at *
  generalize q.b2.toNat = B2 at *
  clear h S0 T0 z0 q0 b0 hf hgk hkl h1 eS eA hY ho h2
  go_enter Try.func29, Try.ntmps29
  go_upto_region 1 with fail
  change Code.wp Try.prog _ _ _ ((w.alloc (.cells q.arr 34)).alloc (.cells zA8 34))
  rw [hW]
  go_wp2_with fail
  have HY2 := HY.out
  subst HY2
  refine (hO.out _).mono ?_
  rintro e w2 ⟨rfl, B2⟩
  obtain ⟨e1, e2, e3⟩ := HH.out
  have z2 := e3.below B2
  go_wp2_with (first | (refine sdF (g := F) z2 rfl _ _ rfl rfl rfl ?_))
  exact bodyPost_ret (dset_results (z2.row F) _ rfl rfl) rfl (PostD.mk rfl (e1.below B2) z2 (two_below e2 B2) (by have := HK.out; omega))
set_option maxHeartbeats 4000000 in
theorem dset17_d (h : Da g s w) (ho : s.Ok) (q : F8) (h1 : q.b0.toNat = 17) (h2 : 127 < q.b1.toNat ∧ q.b1.toNat < 255) : Calls Try.prog 29 #[.pointer (some ⟨g, 0, none⟩), .agg q.arr] w (PostD g (s.confS q) (s.confA q) w) := by
  obtain ⟨W, k, hW, hk, q0, z0, b0, hkl⟩ := Qb.fresh2 w q
  have hgk : g < k := by rw [← hk]; exact h.lt
  have T0 : Two g g w W := by rw [← hW]; exact ((Two.refl _ _ _).alloc _).alloc _
  have S0 : Da g s W := h.below b0
  have u0 := q0.c0
  have u1 := q0.c1
  have u2 := q0.c2
  have l1 := q.b1.toNat_lt
  have l2 := q.b2.toNat_lt
  obtain ⟨c0, c1, c2, c3, c4, c5, c6, c7, c8, c9, c10, c11, _, _, _, hf⟩ := S0.cells
  have f4 := hf 4
  have f5 := hf 5
  have f7 := hf 7
  have f8 := hf 8
  have f9 := hf 9
  have f10 := hf 10
  have eS : s.confS q = s := by
    have hg : Ls.goodId q.b1.toNat = false := by simp [Ls.goodId]; omega
    unfold Ld.confS; rw [h1, hg]; rfl
  have eA : s.confA q = (ordF 17 1, true) := by
    have hg : Ls.goodId q.b1.toNat = false := by simp [Ls.goodId]; omega
    unfold Ld.confA; rw [h1, hg]; rfl
  rw [eS, eA]
  have hO : Hid (∀ x, Calls Try.prog 14 #[.int .u8 17, .int .u32 ((1 : Nat) : Int)] x fun e w' => e = .returned (.agg (ordF 17 1).arr) ∧ Below x.heap.size x w') := fun x => dorder_any 17 1 x (by omega) (by omega)
  obtain ⟨Y, hY⟩ : ∃ Y, W = Y := ⟨_, rfl⟩
  have HH : Hid (Da g s Y ∧ Two g g w Y ∧ Qb (k + 1) F8.nul Y) := by
    rw [← hY]
    exact ⟨S0, T0, z0⟩
  have HY := hidOf2 hY
  have HK := hidOf2 hk
  rw [h1] at u0
  have d0 : ((q.b1.toNat : Int) == 0) = false := by simp; omega
  have d1 : decide ((127 : Int) < (q.b1.toNat : Int)) = true := by simp; omega
  have d2 : decide ((q.b1.toNat : Int) < 255) = true := by simp; omega
  generalize ordF 17 1 = F at *
  generalize q.b1.toNat = B1 at *
  generalize q.b2.toNat = B2 at *
  clear h S0 T0 z0 q0 b0 hf hgk hkl h1 eS eA hY ho h2
  go_enter Try.func29, Try.ntmps29
  go_upto_region 1 with fail
  change Code.wp Try.prog _ _ _ ((w.alloc (.cells q.arr 34)).alloc (.cells zA8 34))
  rw [hW]
  go_wp2_with fail
  have HY2 := HY.out
  subst HY2
  refine (hO.out _).mono ?_
  rintro e w2 ⟨rfl, B2⟩
  obtain ⟨e1, e2, e3⟩ := HH.out
  have z2 := e3.below B2
  go_wp2_with (first | (refine sdF (g := F) z2 rfl _ _ rfl rfl rfl ?_))
  exact bodyPost_ret (dset_results (z2.row F) _ rfl rfl) rfl (PostD.mk rfl (e1.below B2) z2 (two_below e2 B2) (by have := HK.out; omega))
set_option maxHeartbeats 4000000 in
theorem dset19_a (h : Da g s w) (ho : s.Ok) (q : F8) (h1 : q.b0.toNat = 19) (h2 : q.b1.toNat = 0 ∧ q.b2.toNat ≤ 8 ∧ q.b2.toNat ≠ 5) : Calls Try.prog 29 #[.pointer (some ⟨g, 0, none⟩), .agg q.arr] w (PostD g (s.confS q) (s.confA q) w) := by
  obtain ⟨W, k, hW, hk, q0, z0, b0, hkl⟩ := Qb.fresh2 w q
  have hgk : g < k := by rw [← hk]; exact h.lt
  have T0 : Two g g w W := by rw [← hW]; exact ((Two.refl _ _ _).alloc _).alloc _
  have S0 : Da g s W := h.below b0
  have u0 := q0.c0
  have u1 := q0.c1
  have u2 := q0.c2
  have l1 := q.b1.toNat_lt
  have l2 := q.b2.toNat_lt
  obtain ⟨c0, c1, c2, c3, c4, c5, c6, c7, c8, c9, c10, c11, _, _, _, hf⟩ := S0.cells
  have f4 := hf 4
  have f5 := hf 5
  have f7 := hf 7
  have f8 := hf 8
  have f9 := hf 9
  have f10 := hf 10
  have eS : s.confS q = { s with rp := (q.b2.toNat : Int) } := by
    have hg : Ls.goodRate q.b1.toNat q.b2.toNat = true := by simp [Ls.goodRate]; omega
    unfold Ld.confS; rw [h1, hg]; rfl
  have eA : s.confA q = (ordF 19 0, true) := by
    have hg : Ls.goodRate q.b1.toNat q.b2.toNat = true := by simp [Ls.goodRate]; omega
    unfold Ld.confA; rw [h1, hg]; rfl
  rw [eS, eA]
  have hO : Hid (∀ x, Calls Try.prog 14 #[.int .u8 19, .int .u32 ((0 : Nat) : Int)] x fun e w' => e = .returned (.agg (ordF 19 0).arr) ∧ Below x.heap.size x w') := fun x => dorder_any 19 0 x (by omega) (by omega)
  obtain ⟨Y, hY⟩ : ∃ Y, W.setCell ⟨g, 5, none⟩ (.int .i64 (q.b2.toNat : Int)) = Y := ⟨_, rfl⟩
  have HH : Hid (Da g { s with rp := (q.b2.toNat : Int) } Y ∧ Two g g w Y ∧ Qb (k + 1) F8.nul Y) := by
    rw [← hY]
    exact ⟨Da.set S0 rfl, T0.at0 5 _, z0.two ((Two.refl g g W).at0 5 _) (by omega) (by omega)⟩
  have HY := hidOf2 hY
  have HK := hidOf2 hk
  rw [h1] at u0
  rw [h2.1] at u1
  have d1 : ((q.b2.toNat : Int) == 5) = false := by simp; omega
  have d2 : decide ((8 : Int) < (q.b2.toNat : Int)) = false := by simp; omega
  have wr1 := wrapI q.b2.toNat (by omega)
  generalize ordF 19 0 = F at *
  generalize q.b1.toNat = B1 at *
  generalize q.b2.toNat = B2 at *
  clear h S0 T0 z0 q0 b0 hf hgk hkl h1 eS eA hY ho h2
  go_enter Try.func29, Try.ntmps29
  go_upto_region 1 with fail
  change Code.wp Try.prog _ _ _ ((w.alloc (.cells q.arr 34)).alloc (.cells zA8 34))
  rw [hW]
  go_wp2_with fail
  rw [HY.out]
  refine (hO.out _).mono ?_
  rintro e w2 ⟨rfl, B2⟩
  obtain ⟨e1, e2, e3⟩ := HH.out
  have z2 := e3.below B2
  go_wp2_with (first | (refine sdF (g := F) z2 rfl _ _ rfl rfl rfl ?_))
  exact bodyPost_ret (dset_results (z2.row F) _ rfl rfl) rfl (PostD.mk rfl (e1.below B2) z2 (two_below e2 B2) (by have := HK.out; omega))
set_option maxHeartbeats 4000000 in
theorem dset19_b (h : Da g s w) (ho : s.Ok) (q : F8) (h1 : q.b0.toNat = 19) (h2 : q.b1.toNat ≠ 0) : Calls Try.prog 29 #[.pointer (some ⟨g, 0, none⟩), .agg q.arr] w (PostD g (s.confS q) (s.confA q) w) := by
  obtain ⟨W, k, hW, hk, q0, z0, b0, hkl⟩ := Qb.fresh2 w q
  have hgk : g < k := by rw [← hk]; exact h.lt
  have T0 : Two g g w W := by rw [← hW]; exact ((Two.refl _ _ _).alloc _).alloc _
  have S0 : Da g s W := h.below b0
  have u0 := q0.c0
  have u1 := q0.c1
  have u2 := q0.c2
  have l1 := q.b1.toNat_lt
  have l2 := q.b2.toNat_lt
  obtain ⟨c0, c1, c2, c3, c4, c5, c6, c7, c8, c9, c10, c11, _, _, _, hf⟩ := S0.cells
  have f4 := hf 4
  have f5 := hf 5
  have f7 := hf 7
  have f8 := hf 8
  have f9 := hf 9
  have f10 := hf 10
  have eS : s.confS q = s := by
    have hg : Ls.goodRate q.b1.toNat q.b2.toNat = false := by simp [Ls.goodRate]; omega
    unfold Ld.confS; rw [h1, hg]; rfl
  have eA : s.confA q = (ordF 19 1, true) := by
    have hg : Ls.goodRate q.b1.toNat q.b2.toNat = false := by simp [Ls.goodRate]; omega
    unfold Ld.confA; rw [h1, hg]; rfl
  rw [eS, eA]
  have hO : Hid (∀ x, Calls Try.prog 14 #[.int .u8 19, .int .u32 ((1 : Nat) : Int)] x fun e w' => e = .returned (.agg (ordF 19 1).arr) ∧ Below x.heap.size x w') := fun x => dorder_any 19 1 x (by omega) (by omega)
  obtain ⟨Y, hY⟩ : ∃ Y, W = Y := ⟨_, rfl⟩
  have HH : Hid (Da g s Y ∧ Two g g w Y ∧ Qb (k + 1) F8.nul Y) := by
    rw [← hY]
    exact ⟨S0, T0, z0⟩
  have HY := hidOf2 hY
  have HK := hidOf2 hk
  rw [h1] at u0
  have d0 : ((q.b1.toNat : Int) != 0) = true := by simp; omega
  generalize ordF 19 1 = F at *
  generalize q.b1.toNat = B1 at *
  generalize q.b2.toNat = B2 at *
  clear h S0 T0 z0 q0 b0 hf hgk hkl h1 eS eA hY ho h2
  go_enter Try.func29, Try.ntmps29
  go_upto_region 1 with fail
  change Code.wp Try.prog _ _ _ ((w.alloc (.cells q.arr 34)).alloc (.cells zA8 34))
  rw [hW]
  go_wp2_with fail
  have HY2 := HY.out
  subst HY2
  refine (hO.out _).mono ?_
  rintro e w2 ⟨rfl, B2⟩
  obtain ⟨e1, e2, e3⟩ := HH.out
  have z2 := e3.below B2
  go_wp2_with (first | (refine sdF (g := F) z2 rfl _ _ rfl rfl rfl ?_))
  exact bodyPost_ret (dset_results (z2.row F) _ rfl rfl) rfl (PostD.mk rfl (e1.below B2) z2 (two_below e2 B2) (by have := HK.out; omega))
set_option maxHeartbeats 4000000 in
theorem dset19_c (h : Da g s w) (ho : s.Ok) (q : F8) (h1 : q.b0.toNat = 19) (h2 : q.b1.toNat = 0) (h3 : q.b2.toNat = 5) : Calls Try.prog 29 #[.pointer (some ⟨g, 0, none⟩), .agg q.arr] w (PostD g (s.confS q) (s.confA q) w) := by
  obtain ⟨W, k, hW, hk, q0, z0, b0, hkl⟩ := Qb.fresh2 w q
  have hgk : g < k := by rw [← hk]; exact h.lt
  have T0 : Two g g w W := by rw [← hW]; exact ((Two.refl _ _ _).alloc _).alloc _
  have S0 : Da g s W := h.below b0
  have u0 := q0.c0
  have u1 := q0.c1
  have u2 := q0.c2
  have l1 := q.b1.toNat_lt
  have l2 := q.b2.toNat_lt
  obtain ⟨c0, c1, c2, c3, c4, c5, c6, c7, c8, c9, c10, c11, _, _, _, hf⟩ := S0.cells
  have f4 := hf 4
  have f5 := hf 5
  have f7 := hf 7
  have f8 := hf 8
  have f9 := hf 9
  have f10 := hf 10
  have eS : s.confS q = s := by
    have hg : Ls.goodRate q.b1.toNat q.b2.toNat = false := by simp [Ls.goodRate]; omega
    unfold Ld.confS; rw [h1, hg]; rfl
  have eA : s.confA q = (ordF 19 1, true) := by
    have hg : Ls.goodRate q.b1.toNat q.b2.toNat = false := by simp [Ls.goodRate]; omega
    unfold Ld.confA; rw [h1, hg]; rfl
  rw [eS, eA]
  have hO : Hid (∀ x, Calls Try.prog 14 #[.int .u8 19, .int .u32 ((1 : Nat) : Int)] x fun e w' => e = .returned (.agg (ordF 19 1).arr) ∧ Below x.heap.size x w') := fun x => dorder_any 19 1 x (by omega) (by omega)
  obtain ⟨Y, hY⟩ : ∃ Y, W = Y := ⟨_, rfl⟩
  have HH : Hid (Da g s Y ∧ Two g g w Y ∧ Qb (k + 1) F8.nul Y) := by
    rw [← hY]
    exact ⟨S0, T0, z0⟩
  have HY := hidOf2 hY
  have HK := hidOf2 hk
  rw [h1] at u0
  rw [h2] at u1
  rw [h3] at u2
  generalize ordF 19 1 = F at *
  generalize q.b1.toNat = B1 at *
  generalize q.b2.toNat = B2 at *
  clear h S0 T0 z0 q0 b0 hf hgk hkl h1 eS eA hY ho h2 h3
  go_enter Try.func29, Try.ntmps29
  go_upto_region 1 with fail
  change Code.wp Try.prog _ _ _ ((w.alloc (.cells q.arr 34)).alloc (.cells zA8 34))
  rw [hW]
  go_wp2_with fail
  have HY2 := HY.out
  subst HY2
  refine (hO.out _).mono ?_
  rintro e w2 ⟨rfl, B2⟩
  obtain ⟨e1, e2, e3⟩ := HH.out
  have z2 := e3.below B2
  go_wp2_with (first | (refine sdF (g := F) z2 rfl _ _ rfl rfl rfl ?_))
  exact bodyPost_ret (dset_results (z2.row F) _ rfl rfl) rfl (PostD.mk rfl (e1.below B2) z2 (two_below e2 B2) (by have := HK.out; omega))
set_option maxHeartbeats 4000000 in
theorem dset19_d (h : Da g s w) (ho : s.Ok) (q : F8) (h1 : q.b0.toNat = 19) (h2 : q.b1.toNat = 0) (h3 : 8 < q.b2.toNat) : Calls Try.prog 29 #[.pointer (some ⟨g, 0, none⟩), .agg q.arr] w (PostD g (s.confS q) (s.confA q) w) := by
  obtain ⟨W, k, hW, hk, q0, z0, b0, hkl⟩ := Qb.fresh2 w q
  have hgk : g < k := by rw [← hk]; exact h.lt
  have T0 : Two g g w W := by rw [← hW]; exact ((Two.refl _ _ _).alloc _).alloc _
  have S0 : Da g s W := h.below b0
  have u0 := q0.c0
  have u1 := q0.c1
  have u2 := q0.c2
  have l1 := q.b1.toNat_lt
  have l2 := q.b2.toNat_lt
  obtain ⟨c0, c1, c2, c3, c4, c5, c6, c7, c8, c9, c10, c11, _, _, _, hf⟩ := S0.cells
  have f4 := hf 4
  have f5 := hf 5
  have f7 := hf 7
  have f8 := hf 8
  have f9 := hf 9
  have f10 := hf 10
  have eS : s.confS q = s := by
    have hg : Ls.goodRate q.b1.toNat q.b2.toNat = false := by simp [Ls.goodRate]; omega
    unfold Ld.confS; rw [h1, hg]; rfl
  have eA : s.confA q = (ordF 19 1, true) := by
    have hg : Ls.goodRate q.b1.toNat q.b2.toNat = false := by simp [Ls.goodRate]; omega
    unfold Ld.confA; rw [h1, hg]; rfl
  rw [eS, eA]
  have hO : Hid (∀ x, Calls Try.prog 14 #[.int .u8 19, .int .u32 ((1 : Nat) : Int)] x fun e w' => e = .returned (.agg (ordF 19 1).arr) ∧ Below x.heap.size x w') := fun x => dorder_any 19 1 x (by omega) (by omega)
  obtain ⟨Y, hY⟩ : ∃ Y, W = Y := ⟨_, rfl⟩
  have HH : Hid (Da g s Y ∧ Two g g w Y ∧ Qb (k + 1) F8.nul Y) := by
    rw [← hY]
    exact ⟨S0, T0, z0⟩
  have HY := hidOf2 hY
  have HK := hidOf2 hk
  rw [h1] at u0
  rw [h2] at u1
  have d1 : ((q.b2.toNat : Int) == 5) = false := by simp; omega
  have d2 : decide ((8 : Int) < (q.b2.toNat : Int)) = true := by simp; omega
  generalize ordF 19 1 = F at *
  generalize q.b1.toNat = B1 at *
  generalize q.b2.toNat = B2 at *
  clear h S0 T0 z0 q0 b0 hf hgk hkl h1 eS eA hY ho h2 h3
  go_enter Try.func29, Try.ntmps29
  go_upto_region 1 with fail
  change Code.wp Try.prog _ _ _ ((w.alloc (.cells q.arr 34)).alloc (.cells zA8 34))
  rw [hW]
  go_wp2_with fail
  have HY2 := HY.out
  subst HY2
  refine (hO.out _).mono ?_
  rintro e w2 ⟨rfl, B2⟩
  obtain ⟨e1, e2, e3⟩ := HH.out
  have z2 := e3.below B2
  go_wp2_with (first | (refine sdF (g := F) z2 rfl _ _ rfl rfl rfl ?_))
  exact bodyPost_ret (dset_results (z2.row F) _ rfl rfl) rfl (PostD.mk rfl (e1.below B2) z2 (two_below e2 B2) (by have := HK.out; omega))
set_option maxHeartbeats 4000000 in
theorem dset23_f (h : Da g s w) (ho : s.Ok) (q : F8) (h1 : q.b0.toNat = 23) (h2 : s.fails = true) : Calls Try.prog 29 #[.pointer (some ⟨g, 0, none⟩), .agg q.arr] w (PostD g (s.confS q) (s.confA q) w) := by
  obtain ⟨W, k, hW, hk, q0, z0, b0, hkl⟩ := Qb.fresh2 w q
  have hgk : g < k := by rw [← hk]; exact h.lt
  have T0 : Two g g w W := by rw [← hW]; exact ((Two.refl _ _ _).alloc _).alloc _
  have S0 : Da g s W := h.below b0
  have u0 := q0.c0
  have u1 := q0.c1
  have u2 := q0.c2
  have l1 := q.b1.toNat_lt
  have l2 := q.b2.toNat_lt
  obtain ⟨c0, c1, c2, c3, c4, c5, c6, c7, c8, c9, c10, c11, _, _, _, hf⟩ := S0.cells
  have f4 := hf 4
  have f5 := hf 5
  have f7 := hf 7
  have f8 := hf 8
  have f9 := hf 9
  have f10 := hf 10
  have eS : s.confS q = s := by
    unfold Ld.confS; rw [h1, h2]; rfl
  have eA : s.confA q = (ordF 23 2, true) := by
    unfold Ld.confA; rw [h1, h2]; rfl
  rw [eS, eA]
  have hO : Hid (∀ x, Calls Try.prog 14 #[.int .u8 23, .int .u32 ((2 : Nat) : Int)] x fun e w' => e = .returned (.agg (ordF 23 2).arr) ∧ Below x.heap.size x w') := fun x => dorder_any 23 2 x (by omega) (by omega)
  obtain ⟨Y, hY⟩ : ∃ Y, W = Y := ⟨_, rfl⟩
  have HH : Hid (Da g s Y ∧ Two g g w Y ∧ Qb (k + 1) F8.nul Y) := by
    rw [← hY]
    exact ⟨S0, T0, z0⟩
  have HY := hidOf2 hY
  have HK := hidOf2 hk
  rw [h1] at u0
  rw [h2] at c11
  generalize ordF 23 2 = F at *
  generalize q.b1.toNat = B1 at *
  generalize q.b2.toNat = B2 at *
  clear h S0 T0 z0 q0 b0 hf hgk hkl h1 eS eA hY ho h2
  go_enter Try.func29, Try.ntmps29
  go_upto_region 1 with fail
  change Code.wp Try.prog _ _ _ ((w.alloc (.cells q.arr 34)).alloc (.cells zA8 34))
  rw [hW]
  go_wp2_with fail
  have HY2 := HY.out
  subst HY2
  refine (hO.out _).mono ?_
  rintro e w2 ⟨rfl, B2⟩
  obtain ⟨e1, e2, e3⟩ := HH.out
  have z2 := e3.below B2
  go_wp2_with (first | (refine sdF (g := F) z2 rfl _ _ rfl rfl rfl ?_))
  exact bodyPost_ret (dset_results (z2.row F) _ rfl rfl) rfl (PostD.mk rfl (e1.below B2) z2 (two_below e2 B2) (by have := HK.out; omega))
set_option maxHeartbeats 4000000 in
theorem dset23_k (h : Da g s w) (ho : s.Ok) (q : F8) (h1 : q.b0.toNat = 23) (h2 : s.fails = false) : Calls Try.prog 29 #[.pointer (some ⟨g, 0, none⟩), .agg q.arr] w (PostD g (s.confS q) (s.confA q) w) := by
  obtain ⟨W, k, hW, hk, q0, z0, b0, hkl⟩ := Qb.fresh2 w q
  have hgk : g < k := by rw [← hk]; exact h.lt
  have T0 : Two g g w W := by rw [← hW]; exact ((Two.refl _ _ _).alloc _).alloc _
  have S0 : Da g s W := h.below b0
  have u0 := q0.c0
  have u1 := q0.c1
  have u2 := q0.c2
  have l1 := q.b1.toNat_lt
  have l2 := q.b2.toNat_lt
  obtain ⟨c0, c1, c2, c3, c4, c5, c6, c7, c8, c9, c10, c11, _, _, _, hf⟩ := S0.cells
  have f4 := hf 4
  have f5 := hf 5
  have f7 := hf 7
  have f8 := hf 8
  have f9 := hf 9
  have f10 := hf 10
  have eS : s.confS q = { s with si := s.ip, sr := s.rp, has := true } := by
    unfold Ld.confS; rw [h1, h2]; rfl
  have eA : s.confA q = (ordF 23 0, true) := by
    unfold Ld.confA; rw [h1, h2]; rfl
  rw [eS, eA]
  have hO : Hid (∀ x, Calls Try.prog 14 #[.int .u8 23, .int .u32 ((0 : Nat) : Int)] x fun e w' => e = .returned (.agg (ordF 23 0).arr) ∧ Below x.heap.size x w') := fun x => dorder_any 23 0 x (by omega) (by omega)
  obtain ⟨Y, hY⟩ : ∃ Y, (((W.setCell ⟨g, 8, none⟩ (.int .i64 s.ip)).setCell ⟨g, 9, none⟩ (.int .i64 s.rp)).setCell ⟨g, 10, none⟩ (.bool true)).drew = Y := ⟨_, rfl⟩
  have HH : Hid (Da g { s with si := s.ip, sr := s.rp, has := true } Y ∧ Two g g w Y ∧ Qb (k + 1) F8.nul Y) := by
    rw [← hY]
    exact ⟨Da.drawn (Da.set (s := { s with si := s.ip, sr := s.rp }) (s' := { s with si := s.ip, sr := s.rp, has := true }) (Da.set (s := { s with si := s.ip }) (s' := { s with si := s.ip, sr := s.rp }) (Da.set S0 rfl) rfl) rfl) 1, (((T0.at0 _ _).at0 _ _).at0 _ _).drawn 1, (z0.two ((((Two.refl g g W).at0 8 _).at0 9 _).at0 10 _) (by omega) (by omega)).drawn 1⟩
  have HY := hidOf2 hY
  have HK := hidOf2 hk
  rw [h1] at u0
  rw [h2] at c11
  generalize ordF 23 0 = F at *
  generalize q.b1.toNat = B1 at *
  generalize q.b2.toNat = B2 at *
  clear h S0 T0 z0 q0 b0 hf hgk hkl h1 eS eA hY ho h2
  go_enter Try.func29, Try.ntmps29
  go_upto_region 1 with fail
  change Code.wp Try.prog _ _ _ ((w.alloc (.cells q.arr 34)).alloc (.cells zA8 34))
  rw [hW]
  go_wp2_with fail
  go_region
  all_goals
    go_wp2_with fail
    rw [HY.out]
    refine (hO.out Y).mono ?_
    rintro e w2 ⟨rfl, B2⟩
    obtain ⟨e1, e2, e3⟩ := HH.out
    have z2 := e3.below B2
    go_wp2_with (first | (refine sdF (g := F) z2 rfl _ _ rfl rfl rfl ?_))
    exact bodyPost_ret (dset_results (z2.row F) _ rfl rfl) rfl (PostD.mk rfl (e1.below B2) z2 (two_below e2 B2) (by have := HK.out; omega))
set_option maxHeartbeats 4000000 in
theorem dset90 (h : Da g s w) (ho : s.Ok) (q : F8) (h1 : q.b0.toNat = 90) : Calls Try.prog 29 #[.pointer (some ⟨g, 0, none⟩), .agg q.arr] w (PostD g (s.confS q) (s.confA q) w) := by
  obtain ⟨W, k, hW, hk, q0, z0, b0, hkl⟩ := Qb.fresh2 w q
  have hgk : g < k := by rw [← hk]; exact h.lt
  have T0 : Two g g w W := by rw [← hW]; exact ((Two.refl _ _ _).alloc _).alloc _
  have S0 : Da g s W := h.below b0
  have u0 := q0.c0
  have u1 := q0.c1
  have u2 := q0.c2
  have l1 := q.b1.toNat_lt
  have l2 := q.b2.toNat_lt
  obtain ⟨c0, c1, c2, c3, c4, c5, c6, c7, c8, c9, c10, c11, _, _, _, hf⟩ := S0.cells
  have f4 := hf 4
  have f5 := hf 5
  have f7 := hf 7
  have f8 := hf 8
  have f9 := hf 9
  have f10 := hf 10
  have eS : s.confS q = s := by
    unfold Ld.confS; rw [h1]; rfl
  have eA : s.confA q = (ordF 90 s.a.x0, true) := by
    unfold Ld.confA; rw [h1]; rfl
  rw [eS, eA]
  have hO : Hid (∀ x, Calls Try.prog 14 #[.int .u8 90, .int .u32 ((s.a.x0 : Nat) : Int)] x fun e w' => e = .returned (.agg (ordF 90 s.a.x0).arr) ∧ Below x.heap.size x w') := fun x => dorder_any 90 s.a.x0 x (by omega) (by have := ho.a; obtain ⟨x0, x1, x2, x3⟩ := this; assumption)
  obtain ⟨Y, hY⟩ : ∃ Y, W = Y := ⟨_, rfl⟩
  have HH : Hid (Da g s Y ∧ Two g g w Y ∧ Qb (k + 1) F8.nul Y) := by
    rw [← hY]
    exact ⟨S0, T0, z0⟩
  have HY := hidOf2 hY
  have HK := hidOf2 hk
  rw [h1] at u0
  generalize ordF 90 s.a.x0 = F at *
  generalize q.b1.toNat = B1 at *
  generalize q.b2.toNat = B2 at *
  clear h S0 T0 z0 q0 b0 hf hgk hkl h1 eS eA hY ho 
  go_enter Try.func29, Try.ntmps29
  go_upto_region 1 with fail
  change Code.wp Try.prog _ _ _ ((w.alloc (.cells q.arr 34)).alloc (.cells zA8 34))
  rw [hW]
  go_wp2_with fail
  have HY2 := HY.out
  subst HY2
  refine (hO.out _).mono ?_
  rintro e w2 ⟨rfl, B2⟩
  obtain ⟨e1, e2, e3⟩ := HH.out
  have z2 := e3.below B2
  go_wp2_with (first | (refine sdF (g := F) z2 rfl _ _ rfl rfl rfl ?_))
  exact bodyPost_ret (dset_results (z2.row F) _ rfl rfl) rfl (PostD.mk rfl (e1.below B2) z2 (two_below e2 B2) (by have := HK.out; omega))
set_option maxHeartbeats 4000000 in
theorem dset91 (h : Da g s w) (ho : s.Ok) (q : F8) (h1 : q.b0.toNat = 91) : Calls Try.prog 29 #[.pointer (some ⟨g, 0, none⟩), .agg q.arr] w (PostD g (s.confS q) (s.confA q) w) := by
  obtain ⟨W, k, hW, hk, q0, z0, b0, hkl⟩ := Qb.fresh2 w q
  have hgk : g < k := by rw [← hk]; exact h.lt
  have T0 : Two g g w W := by rw [← hW]; exact ((Two.refl _ _ _).alloc _).alloc _
  have S0 : Da g s W := h.below b0
  have u0 := q0.c0
  have u1 := q0.c1
  have u2 := q0.c2
  have l1 := q.b1.toNat_lt
  have l2 := q.b2.toNat_lt
  obtain ⟨c0, c1, c2, c3, c4, c5, c6, c7, c8, c9, c10, c11, _, _, _, hf⟩ := S0.cells
  have f4 := hf 4
  have f5 := hf 5
  have f7 := hf 7
  have f8 := hf 8
  have f9 := hf 9
  have f10 := hf 10
  have eS : s.confS q = s := by
    unfold Ld.confS; rw [h1]; rfl
  have eA : s.confA q = (ordF 91 s.a.x1, true) := by
    unfold Ld.confA; rw [h1]; rfl
  rw [eS, eA]
  have hO : Hid (∀ x, Calls Try.prog 14 #[.int .u8 91, .int .u32 ((s.a.x1 : Nat) : Int)] x fun e w' => e = .returned (.agg (ordF 91 s.a.x1).arr) ∧ Below x.heap.size x w') := fun x => dorder_any 91 s.a.x1 x (by omega) (by have := ho.a; obtain ⟨x0, x1, x2, x3⟩ := this; assumption)
  obtain ⟨Y, hY⟩ : ∃ Y, W = Y := ⟨_, rfl⟩
  have HH : Hid (Da g s Y ∧ Two g g w Y ∧ Qb (k + 1) F8.nul Y) := by
    rw [← hY]
    exact ⟨S0, T0, z0⟩
  have HY := hidOf2 hY
  have HK := hidOf2 hk
  rw [h1] at u0
  generalize ordF 91 s.a.x1 = F at *
  generalize q.b1.toNat = B1 at *
  generalize q.b2.toNat = B2 at *
  clear h S0 T0 z0 q0 b0 hf hgk hkl h1 eS eA hY ho 
  go_enter Try.func29, Try.ntmps29
  go_upto_region 1 with fail
  change Code.wp Try.prog _ _ _ ((w.alloc (.cells q.arr 34)).alloc (.cells zA8 34))
  rw [hW]
  go_wp2_with fail
  have HY2 := HY.out
  subst HY2
  refine (hO.out _).mono ?_
  rintro e w2 ⟨rfl, B2⟩
  obtain ⟨e1, e2, e3⟩ := HH.out
  have z2 := e3.below B2
  go_wp2_with (first | (refine sdF (g := F) z2 rfl _ _ rfl rfl rfl ?_))
  exact bodyPost_ret (dset_results (z2.row F) _ rfl rfl) rfl (PostD.mk rfl (e1.below B2) z2 (two_below e2 B2) (by have := HK.out; omega))
set_option maxHeartbeats 4000000 in
theorem dset92 (h : Da g s w) (ho : s.Ok) (q : F8) (h1 : q.b0.toNat = 92) : Calls Try.prog 29 #[.pointer (some ⟨g, 0, none⟩), .agg q.arr] w (PostD g (s.confS q) (s.confA q) w) := by
  obtain ⟨W, k, hW, hk, q0, z0, b0, hkl⟩ := Qb.fresh2 w q
  have hgk : g < k := by rw [← hk]; exact h.lt
  have T0 : Two g g w W := by rw [← hW]; exact ((Two.refl _ _ _).alloc _).alloc _
  have S0 : Da g s W := h.below b0
  have u0 := q0.c0
  have u1 := q0.c1
  have u2 := q0.c2
  have l1 := q.b1.toNat_lt
  have l2 := q.b2.toNat_lt
  obtain ⟨c0, c1, c2, c3, c4, c5, c6, c7, c8, c9, c10, c11, _, _, _, hf⟩ := S0.cells
  have f4 := hf 4
  have f5 := hf 5
  have f7 := hf 7
  have f8 := hf 8
  have f9 := hf 9
  have f10 := hf 10
  have eS : s.confS q = s := by
    unfold Ld.confS; rw [h1]; rfl
  have eA : s.confA q = (ordF 92 s.a.x2, true) := by
    unfold Ld.confA; rw [h1]; rfl
  rw [eS, eA]
  have hO : Hid (∀ x, Calls Try.prog 14 #[.int .u8 92, .int .u32 ((s.a.x2 : Nat) : Int)] x fun e w' => e = .returned (.agg (ordF 92 s.a.x2).arr) ∧ Below x.heap.size x w') := fun x => dorder_any 92 s.a.x2 x (by omega) (by have := ho.a; obtain ⟨x0, x1, x2, x3⟩ := this; assumption)
  obtain ⟨Y, hY⟩ : ∃ Y, W = Y := ⟨_, rfl⟩
  have HH : Hid (Da g s Y ∧ Two g g w Y ∧ Qb (k + 1) F8.nul Y) := by
    rw [← hY]
    exact ⟨S0, T0, z0⟩
  have HY := hidOf2 hY
  have HK := hidOf2 hk
  rw [h1] at u0
  generalize ordF 92 s.a.x2 = F at *
  generalize q.b1.toNat = B1 at *
  generalize q.b2.toNat = B2 at *
  clear h S0 T0 z0 q0 b0 hf hgk hkl h1 eS eA hY ho 
  go_enter Try.func29, Try.ntmps29
  go_upto_region 1 with fail
  change Code.wp Try.prog _ _ _ ((w.alloc (.cells q.arr 34)).alloc (.cells zA8 34))
  rw [hW]
  go_wp2_with fail
  have HY2 := HY.out
  subst HY2
  refine (hO.out _).mono ?_
  rintro e w2 ⟨rfl, B2⟩
  obtain ⟨e1, e2, e3⟩ := HH.out
  have z2 := e3.below B2
  go_wp2_with (first | (refine sdF (g := F) z2 rfl _ _ rfl rfl rfl ?_))
  exact bodyPost_ret (dset_results (z2.row F) _ rfl rfl) rfl (PostD.mk rfl (e1.below B2) z2 (two_below e2 B2) (by have := HK.out; omega))
set_option maxHeartbeats 4000000 in
theorem dset93 (h : Da g s w) (ho : s.Ok) (q : F8) (h1 : q.b0.toNat = 93) : Calls Try.prog 29 #[.pointer (some ⟨g, 0, none⟩), .agg q.arr] w (PostD g (s.confS q) (s.confA q) w) := by
  obtain ⟨W, k, hW, hk, q0, z0, b0, hkl⟩ := Qb.fresh2 w q
  have hgk : g < k := by rw [← hk]; exact h.lt
  have T0 : Two g g w W := by rw [← hW]; exact ((Two.refl _ _ _).alloc _).alloc _
  have S0 : Da g s W := h.below b0
  have u0 := q0.c0
  have u1 := q0.c1
  have u2 := q0.c2
  have l1 := q.b1.toNat_lt
  have l2 := q.b2.toNat_lt
  obtain ⟨c0, c1, c2, c3, c4, c5, c6, c7, c8, c9, c10, c11, _, _, _, hf⟩ := S0.cells
  have f4 := hf 4
  have f5 := hf 5
  have f7 := hf 7
  have f8 := hf 8
  have f9 := hf 9
  have f10 := hf 10
  have eS : s.confS q = s := by
    unfold Ld.confS; rw [h1]; rfl
  have eA : s.confA q = (ordF 93 s.a.x3, true) := by
    unfold Ld.confA; rw [h1]; rfl
  rw [eS, eA]
  have hO : Hid (∀ x, Calls Try.prog 14 #[.int .u8 93, .int .u32 ((s.a.x3 : Nat) : Int)] x fun e w' => e = .returned (.agg (ordF 93 s.a.x3).arr) ∧ Below x.heap.size x w') := fun x => dorder_any 93 s.a.x3 x (by omega) (by have := ho.a; obtain ⟨x0, x1, x2, x3⟩ := this; assumption)
  obtain ⟨Y, hY⟩ : ∃ Y, W = Y := ⟨_, rfl⟩
  have HH : Hid (Da g s Y ∧ Two g g w Y ∧ Qb (k + 1) F8.nul Y) := by
    rw [← hY]
    exact ⟨S0, T0, z0⟩
  have HY := hidOf2 hY
  have HK := hidOf2 hk
  rw [h1] at u0
  generalize ordF 93 s.a.x3 = F at *
  generalize q.b1.toNat = B1 at *
  generalize q.b2.toNat = B2 at *
  clear h S0 T0 z0 q0 b0 hf hgk hkl h1 eS eA hY ho 
  go_enter Try.func29, Try.ntmps29
  go_upto_region 1 with fail
  change Code.wp Try.prog _ _ _ ((w.alloc (.cells q.arr 34)).alloc (.cells zA8 34))
  rw [hW]
  go_wp2_with fail
  have HY2 := HY.out
  subst HY2
  refine (hO.out _).mono ?_
  rintro e w2 ⟨rfl, B2⟩
  obtain ⟨e1, e2, e3⟩ := HH.out
  have z2 := e3.below B2
  go_wp2_with (first | (refine sdF (g := F) z2 rfl _ _ rfl rfl rfl ?_))
  exact bodyPost_ret (dset_results (z2.row F) _ rfl rfl) rfl (PostD.mk rfl (e1.below B2) z2 (two_below e2 B2) (by have := HK.out; omega))
set_option maxHeartbeats 4000000 in
theorem dset94_n (h : Da g s w) (ho : s.Ok) (q : F8) (h1 : q.b0.toNat = 94) (h2 : s.iu = 0) : Calls Try.prog 29 #[.pointer (some ⟨g, 0, none⟩), .agg q.arr] w (PostD g (s.confS q) (s.confA q) w) := by
  obtain ⟨W, k, hW, hk, q0, z0, b0, hkl⟩ := Qb.fresh2 w q
  have hgk : g < k := by rw [← hk]; exact h.lt
  have T0 : Two g g w W := by rw [← hW]; exact ((Two.refl _ _ _).alloc _).alloc _
  have S0 : Da g s W := h.below b0
  have u0 := q0.c0
  have u1 := q0.c1
  have u2 := q0.c2
  have l1 := q.b1.toNat_lt
  have l2 := q.b2.toNat_lt
  obtain ⟨c0, c1, c2, c3, c4, c5, c6, c7, c8, c9, c10, c11, _, _, _, hf⟩ := S0.cells
  have f4 := hf 4
  have f5 := hf 5
  have f7 := hf 7
  have f8 := hf 8
  have f9 := hf 9
  have f10 := hf 10
  have eS : s.confS q = s := by
    unfold Ld.confS; rw [h1]; rfl
  have eA : s.confA q = (ordF 94 255, true) := by
    unfold Ld.confA; rw [h1, h2]; rfl
  rw [eS, eA]
  have hO : Hid (∀ x, Calls Try.prog 14 #[.int .u8 94, .int .u32 ((255 : Nat) : Int)] x fun e w' => e = .returned (.agg (ordF 94 255).arr) ∧ Below x.heap.size x w') := fun x => dorder_any 94 255 x (by omega) (by omega)
  obtain ⟨Y, hY⟩ : ∃ Y, W = Y := ⟨_, rfl⟩
  have HH : Hid (Da g s Y ∧ Two g g w Y ∧ Qb (k + 1) F8.nul Y) := by
    rw [← hY]
    exact ⟨S0, T0, z0⟩
  have HY := hidOf2 hY
  have HK := hidOf2 hk
  rw [h1] at u0
  rw [h2] at c6
  generalize ordF 94 255 = F at *
  generalize q.b1.toNat = B1 at *
  generalize q.b2.toNat = B2 at *
  clear h S0 T0 z0 q0 b0 hf hgk hkl h1 eS eA hY ho h2
  go_enter Try.func29, Try.ntmps29
  go_upto_region 1 with fail
  change Code.wp Try.prog _ _ _ ((w.alloc (.cells q.arr 34)).alloc (.cells zA8 34))
  rw [hW]
  go_wp2_with fail
  have HY2 := HY.out
  subst HY2
  refine (hO.out _).mono ?_
  rintro e w2 ⟨rfl, B2⟩
  obtain ⟨e1, e2, e3⟩ := HH.out
  have z2 := e3.below B2
  go_wp2_with (first | (refine sdF (g := F) z2 rfl _ _ rfl rfl rfl ?_))
  exact bodyPost_ret (dset_results (z2.row F) _ rfl rfl) rfl (PostD.mk rfl (e1.below B2) z2 (two_below e2 B2) (by have := HK.out; omega))
set_option maxHeartbeats 4000000 in
theorem dset94_y (h : Da g s w) (ho : s.Ok) (q : F8) (h1 : q.b0.toNat = 94) (m : Nat) (hm : s.iu = (m : Int)) (h2 : m ≠ 0) (h3 : m ≤ 127) : Calls Try.prog 29 #[.pointer (some ⟨g, 0, none⟩), .agg q.arr] w (PostD g (s.confS q) (s.confA q) w) := by
  obtain ⟨W, k, hW, hk, q0, z0, b0, hkl⟩ := Qb.fresh2 w q
  have hgk : g < k := by rw [← hk]; exact h.lt
  have T0 : Two g g w W := by rw [← hW]; exact ((Two.refl _ _ _).alloc _).alloc _
  have S0 : Da g s W := h.below b0
  have u0 := q0.c0
  have u1 := q0.c1
  have u2 := q0.c2
  have l1 := q.b1.toNat_lt
  have l2 := q.b2.toNat_lt
  obtain ⟨c0, c1, c2, c3, c4, c5, c6, c7, c8, c9, c10, c11, _, _, _, hf⟩ := S0.cells
  have f4 := hf 4
  have f5 := hf 5
  have f7 := hf 7
  have f8 := hf 8
  have f9 := hf 9
  have f10 := hf 10
  have eS : s.confS q = s := by
    unfold Ld.confS; rw [h1]; rfl
  have eA : s.confA q = (ordF 94 m, true) := by
    unfold Ld.confA; rw [h1, hm]; simp [h2]
  rw [eS, eA]
  have hO : Hid (∀ x, Calls Try.prog 14 #[.int .u8 94, .int .u32 ((m : Nat) : Int)] x fun e w' => e = .returned (.agg (ordF 94 m).arr) ∧ Below x.heap.size x w') := fun x => dorder_any 94 m x (by omega) (by omega)
  obtain ⟨Y, hY⟩ : ∃ Y, W = Y := ⟨_, rfl⟩
  have HH : Hid (Da g s Y ∧ Two g g w Y ∧ Qb (k + 1) F8.nul Y) := by
    rw [← hY]
    exact ⟨S0, T0, z0⟩
  have HY := hidOf2 hY
  have HK := hidOf2 hk
  rw [h1] at u0
  rw [hm] at c6
  have d0 : ((m : Int) == 0) = false := by simp; omega
  have wr1 := wrapU32 m (by omega)
  generalize ordF 94 m = F at *
  generalize q.b1.toNat = B1 at *
  generalize q.b2.toNat = B2 at *
  clear h S0 T0 z0 q0 b0 hf hgk hkl h1 eS eA hY ho h2 h3 hm
  go_enter Try.func29, Try.ntmps29
  go_upto_region 1 with fail
  change Code.wp Try.prog _ _ _ ((w.alloc (.cells q.arr 34)).alloc (.cells zA8 34))
  rw [hW]
  go_wp2_with fail
  have HY2 := HY.out
  subst HY2
  refine (hO.out _).mono ?_
  rintro e w2 ⟨rfl, B2⟩
  obtain ⟨e1, e2, e3⟩ := HH.out
  have z2 := e3.below B2
  go_wp2_with (first | (refine sdF (g := F) z2 rfl _ _ rfl rfl rfl ?_))
  exact bodyPost_ret (dset_results (z2.row F) _ rfl rfl) rfl (PostD.mk rfl (e1.below B2) z2 (two_below e2 B2) (by have := HK.out; omega))
set_option maxHeartbeats 4000000 in
theorem dset21 (h : Da g s w) (ho : s.Ok) (q : F8) (h1 : q.b0.toNat = 21) : Calls Try.prog 29 #[.pointer (some ⟨g, 0, none⟩), .agg q.arr] w (PostD g (s.confS q) (s.confA q) w) := by
  obtain ⟨W, k, hW, hk, q0, z0, b0, hkl⟩ := Qb.fresh2 w q
  have hgk : g < k := by rw [← hk]; exact h.lt
  have T0 : Two g g w W := by rw [← hW]; exact ((Two.refl _ _ _).alloc _).alloc _
  have S0 : Da g s W := h.below b0
  have u0 := q0.c0
  have u1 := q0.c1
  have u2 := q0.c2
  have l1 := q.b1.toNat_lt
  have l2 := q.b2.toNat_lt
  obtain ⟨c0, c1, c2, c3, c4, c5, c6, c7, c8, c9, c10, c11, _, _, _, hf⟩ := S0.cells
  have f4 := hf 4
  have f5 := hf 5
  have f7 := hf 7
  have f8 := hf 8
  have f9 := hf 9
  have f10 := hf 10
  have eS : s.confS q = { s with ru := s.rp } := by
    unfold Ld.confS; rw [h1]; rfl
  have eA : s.confA q = (F8.nul, false) := by unfold Ld.confA; rw [h1]; rfl
  rw [eS, eA]
  have HH : Hid (Da g { s with ru := s.rp } (W.setCell ⟨g, 7, none⟩ (.int .i64 s.rp)) ∧ Two g g w (W.setCell ⟨g, 7, none⟩ (.int .i64 s.rp)) ∧ Qb (k + 1) F8.nul (W.setCell ⟨g, 7, none⟩ (.int .i64 s.rp))) := ⟨Da.set S0 rfl, T0.at0 7 _, z0.two ((Two.refl g g W).at0 7 _) (by omega) (by omega)⟩
  have HK := hidOf2 hk
  rw [h1] at u0
  generalize q.b0.toNat = M at *
  clear h S0 T0 z0 q0 b0 hf hgk hkl eS eA ho h1
  go_enter Try.func29, Try.ntmps29
  go_upto_region 1 with fail
  change Code.wp Try.prog _ _ _ ((w.alloc (.cells q.arr 34)).alloc (.cells zA8 34))
  rw [hW]
  go_wp2_with (first | (refine sdF (g := F8.nul) HH.out.2.2 rfl _ _ rfl rfl rfl ?_))
  exact bodyPost_ret (dset_results (HH.out.2.2.row F8.nul) _ rfl rfl) rfl (PostD.mk rfl HH.out.1 HH.out.2.2 HH.out.2.1 (by have := HK.out; omega))
set_option maxHeartbeats 4000000 in
theorem dset_else (h : Da g s w) (ho : s.Ok) (q : F8) (h17 : q.b0.toNat ≠ 17) (h19 : q.b0.toNat ≠ 19) (h21 : q.b0.toNat ≠ 21) (h23 : q.b0.toNat ≠ 23) (h90 : q.b0.toNat ≠ 90) (h91 : q.b0.toNat ≠ 91) (h92 : q.b0.toNat ≠ 92) (h93 : q.b0.toNat ≠ 93) (h94 : q.b0.toNat ≠ 94) : Calls Try.prog 29 #[.pointer (some ⟨g, 0, none⟩), .agg q.arr] w (PostD g (s.confS q) (s.confA q) w) := by
  obtain ⟨W, k, hW, hk, q0, z0, b0, hkl⟩ := Qb.fresh2 w q
  have hgk : g < k := by rw [← hk]; exact h.lt
  have T0 : Two g g w W := by rw [← hW]; exact ((Two.refl _ _ _).alloc _).alloc _
  have S0 : Da g s W := h.below b0
  have u0 := q0.c0
  have u1 := q0.c1
  have u2 := q0.c2
  have l1 := q.b1.toNat_lt
  have l2 := q.b2.toNat_lt
  obtain ⟨c0, c1, c2, c3, c4, c5, c6, c7, c8, c9, c10, c11, _, _, _, hf⟩ := S0.cells
  have f4 := hf 4
  have f5 := hf 5
  have f7 := hf 7
  have f8 := hf 8
  have f9 := hf 9
  have f10 := hf 10
  have eS : s.confS q = s := by
    unfold Ld.confS; rw [if_neg h17, if_neg h19, if_neg h21, if_neg h23]
  have eA : s.confA q = (F8.nul, false) := by unfold Ld.confA; rw [if_neg h17, if_neg h19, if_neg h23, if_neg (by omega), if_neg h94]
  rw [eS, eA]
  have HH : Hid (Da g s (W) ∧ Two g g w (W) ∧ Qb (k + 1) F8.nul (W)) := ⟨S0, T0, z0⟩
  have HK := hidOf2 hk
  have d17 : ((q.b0.toNat : Int) == 17) = false := by simp; omega
  have d19 : ((q.b0.toNat : Int) == 19) = false := by simp; omega
  have d21 : ((q.b0.toNat : Int) == 21) = false := by simp; omega
  have d23 : ((q.b0.toNat : Int) == 23) = false := by simp; omega
  have d90 : ((q.b0.toNat : Int) == 90) = false := by simp; omega
  have d91 : ((q.b0.toNat : Int) == 91) = false := by simp; omega
  have d92 : ((q.b0.toNat : Int) == 92) = false := by simp; omega
  have d93 : ((q.b0.toNat : Int) == 93) = false := by simp; omega
  have d94 : ((q.b0.toNat : Int) == 94) = false := by simp; omega
  generalize q.b0.toNat = M at *
  clear h S0 T0 z0 q0 b0 hf hgk hkl eS eA ho h17 h19 h21 h23 h90 h91 h92 h93 h94
  go_enter Try.func29, Try.ntmps29
  go_upto_region 1 with fail
  change Code.wp Try.prog _ _ _ ((w.alloc (.cells q.arr 34)).alloc (.cells zA8 34))
  rw [hW]
  go_wp2_with (first | (refine sdF (g := F8.nul) HH.out.2.2 rfl _ _ rfl rfl rfl ?_))
  exact bodyPost_ret (dset_results (HH.out.2.2.row F8.nul) _ rfl rfl) rfl (PostD.mk rfl HH.out.1 HH.out.2.2 HH.out.2.1 (by have := HK.out; omega))
theorem dset_any (h : Da g s w) (ho : s.Ok) (q : F8) : Calls Try.prog 29 #[.pointer (some ⟨g, 0, none⟩), .agg q.arr] w (PostD g (s.confS q) (s.confA q) w) := by
  by_cases h17 : q.b0.toNat = 17
  · have l1 := q.b1.toNat_lt
    by_cases e0 : q.b1.toNat = 0
    · exact dset17_c h ho q h17 e0
    by_cases e1 : q.b1.toNat ≤ 127
    · exact dset17_a h ho q h17 ⟨by omega, e1⟩
    by_cases e2 : q.b1.toNat = 255
    · exact dset17_b h ho q h17 e2
    · exact dset17_d h ho q h17 ⟨by omega, by omega⟩
  by_cases h19 : q.b0.toNat = 19
  · by_cases e0 : q.b1.toNat = 0
    · by_cases e1 : q.b2.toNat = 5
      · exact dset19_c h ho q h19 e0 e1
      by_cases e2 : q.b2.toNat ≤ 8
      · exact dset19_a h ho q h19 ⟨e0, e2, e1⟩
      · exact dset19_d h ho q h19 e0 (by omega)
    · exact dset19_b h ho q h19 e0
  by_cases h21 : q.b0.toNat = 21
  · exact dset21 h ho q h21
  by_cases h23 : q.b0.toNat = 23
  · cases hf : s.fails
    · exact dset23_k h ho q h23 hf
    · exact dset23_f h ho q h23 hf
  by_cases h90 : q.b0.toNat = 90
  · exact dset90 h ho q h90
  by_cases h91 : q.b0.toNat = 91
  · exact dset91 h ho q h91
  by_cases h92 : q.b0.toNat = 92
  · exact dset92 h ho q h92
  by_cases h93 : q.b0.toNat = 93
  · exact dset93 h ho q h93
  by_cases h94 : q.b0.toNat = 94
  · by_cases e0 : s.iu = 0
    · exact dset94_n h ho q h94 e0
    · have := ho.iu
      exact dset94_y h ho q h94 s.iu.toNat (by omega) (by omega) (by omega)
  exact dset_else h ho q h17 h19 h21 h23 h90 h91 h92 h93 h94
end
end Go.Proofs.Ythbmbabndhpdkaa
