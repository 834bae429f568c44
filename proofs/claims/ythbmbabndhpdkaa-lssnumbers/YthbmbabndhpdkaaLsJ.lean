/- The document's slave: a question of a scan. -/
import Derived.Test.YthbmbabndhpdkaaLsI
namespace Go.Proofs.Ythbmbabndhpdkaa
open Go.RowKit
set_option linter.unusedVariables false
set_option maxRecDepth 1000000
set_option linter.unusedSimpArgs false
theorem tmod2 (x m : Nat) : ((x : Int) / ((2 ^ m : Nat) : Int)).tmod 2 = ((x / 2 ^ m % 2 : Nat) : Int) := by
  rw [← Int.natCast_ediv]
  rfl
theorem bit_eq (a n j : Nat) : a.testBit j = n.testBit j ↔ a / 2 ^ j % 2 = n / 2 ^ j % 2 := by
  rw [Nat.testBit_eq_decide_div_mod_eq, Nat.testBit_eq_decide_div_mod_eq, decide_eq_decide]
  omega
theorem hiE_iff (a n b : Nat) (ha : a < 2 ^ 32) (hn : n < 2 ^ 32) : hiE a n b = true ↔ ∀ j, b ≤ j → j < 32 → a / 2 ^ j % 2 = n / 2 ^ j % 2 := by
  unfold hiE
  rw [decide_eq_true_eq]
  constructor
  · intro h j hb hj
    have hx : (a ^^^ n) < 2 ^ b := Nat.lt_of_div_eq_zero (Nat.two_pow_pos b) h
    have h2 : (a ^^^ n).testBit j = false := Nat.testBit_lt_two_pow (Nat.lt_of_lt_of_le hx (Nat.pow_le_pow_right (by decide) hb))
    rw [Nat.testBit_xor] at h2
    rw [← bit_eq]
    cases h3 : a.testBit j <;> cases h4 : n.testBit j <;> simp_all
  · intro h
    have hx : (a ^^^ n) < 2 ^ b := by
      refine Nat.lt_pow_two_of_testBit _ fun i hi => ?_
      rw [Nat.testBit_xor]
      by_cases h32 : i < 32
      · rw [(bit_eq a n i).2 (h i hi h32)]
        simp
      · have e1 : a.testBit i = false := Nat.testBit_lt_two_pow (Nat.lt_of_lt_of_le ha (Nat.pow_le_pow_right (by decide) (by omega)))
        have e2 : n.testBit i = false := Nat.testBit_lt_two_pow (Nat.lt_of_lt_of_le hn (Nat.pow_le_pow_right (by decide) (by omega)))
        rw [e1, e2]
        rfl
    exact Nat.div_eq_of_lt hx
section
variable {g : Nat} {s : Ld} {w x : World}
theorem dscan_results {Q : Nat} {f : F8} {b : Bool} {w : World} (h : Qb Q f w) (tmps : Array Value) (h2 : tmps[6]?.getD undef = .pointer (some ⟨Q, 0, none⟩)) (h3 : tmps[7]?.getD undef = .bool b) :
    (results Try.f31 tmps).run Try.prog w = .ok (.tuple #[.agg f.arr, .bool b]) w := by
  have l0 := h.load
  simp [Go.results, Try.results31, h2, h3, asAddr, l0]
def Ld.scanA (s : Ld) (q : F8) : F8 × Bool := if s.scanB q then (ordF 79 0, true) else (F8.nul, false)
set_option maxHeartbeats 4000000 in
theorem dscan_new (h : Da g s w) (ho : s.Ok) (q : F8) (h1 : q.b5.toNat = 128) : Calls Try.prog 31 #[.pointer (some ⟨g, 0, none⟩), .agg q.arr, .int .u32 (numq q : Nat)] w (PostD g (s.scanS q) (s.scanA q) w) := by
  obtain ⟨W, k, hW, hk, q0, z0, b0, hkl⟩ := Qb.fresh2 w q
  have hgk : g < k := by rw [← hk]; exact h.lt
  have T0 : Two g g w W := by rw [← hW]; exact ((Two.refl _ _ _).alloc _).alloc _
  have S0 : Da g s W := h.below b0
  have u5 := q0.c5
  have u6 := q0.c6
  have u7 := q0.c7
  have l5 := q.b5.toNat_lt
  have l6 := q.b6.toNat_lt
  have l7 := q.b7.toNat_lt
  have hN0 := numq_lt q
  obtain ⟨c0, c1, c2, c3, _, _, _, _, _, _, _, _, c12, _, c14, hf⟩ := S0.cells
  have f12 := hf 12
  have f14 := hf 14
  have hB : s.scanA q = (ordF 79 0, true) := by simp [Ld.scanA, Ld.scanB, h1]
  have hS : s.scanS q = { s with lk := 0 } := by unfold Ld.scanS; rw [if_pos h1]
  rw [hB, hS]
  have HS : Hid (Da g { s with lk := 0 } (W.setCell ⟨g, 14, none⟩ (.int .i64 0))) := Da.set S0 rfl
  have HT : Hid (Two g g w (W.setCell ⟨g, 14, none⟩ (.int .i64 0))) := T0.at0 14 _
  have HZ : Hid (Qb (k + 1) F8.nul (W.setCell ⟨g, 14, none⟩ (.int .i64 0))) := z0.two ((Two.refl g g W).at0 14 _) (by omega) (by omega)
  have HK := hidOf2 hk
  have hO : Hid (∀ x, Calls Try.prog 14 #[.int .u8 79, .int .u32 0] x fun e w' => e = .returned (.agg (ordF 79 0).arr) ∧ Below x.heap.size x w') := fun x => dorder_any 79 0 x (by omega) (by omega)
  generalize ordF 79 0 = F at *
  rw [h1] at u5
  generalize numq q = N0 at *
  clear h S0 T0 z0 b0 hf hgk hkl q0 h1 hB hS ho
  go_enter Try.func31, Try.ntmps31
  go_upto_region 1 with fail
  change Code.wp Try.prog _ _ _ ((w.alloc (.cells q.arr 34)).alloc (.cells zA8 34))
  rw [hW]
  go_wp2_with fail
  refine (hO.out _).mono ?_
  rintro e w2 ⟨rfl, B2⟩
  have z2 := HZ.out.below B2
  go_wp2_with (first | (refine sdF (g := F) z2 rfl _ _ rfl rfl rfl ?_))
  exact bodyPost_ret (dscan_results (z2.row F) _ rfl rfl) rfl (PostD.mk rfl (HS.out.below B2) z2 (two_below HT.out B2) (by have := HK.out; omega))
set_option maxHeartbeats 4000000 in
theorem dscan_b1 (h : Da g s w) (ho : s.Ok) (q : F8) (h1 : q.b5.toNat ≠ 128) (h2 : 31 < q.b5.toNat) : Calls Try.prog 31 #[.pointer (some ⟨g, 0, none⟩), .agg q.arr, .int .u32 (numq q : Nat)] w (PostD g (s.scanS q) (s.scanA q) w) := by
  obtain ⟨W, k, hW, hk, q0, z0, b0, hkl⟩ := Qb.fresh2 w q
  have hgk : g < k := by rw [← hk]; exact h.lt
  have T0 : Two g g w W := by rw [← hW]; exact ((Two.refl _ _ _).alloc _).alloc _
  have S0 : Da g s W := h.below b0
  have u5 := q0.c5
  have u6 := q0.c6
  have u7 := q0.c7
  have l5 := q.b5.toNat_lt
  have l6 := q.b6.toNat_lt
  have l7 := q.b7.toNat_lt
  have hN0 := numq_lt q
  obtain ⟨c0, c1, c2, c3, _, _, _, _, _, _, _, _, c12, _, c14, hf⟩ := S0.cells
  have f12 := hf 12
  have f14 := hf 14
  have hQ : s.scanQ q = false := by simp [Ld.scanQ]; omega
  have hB : s.scanA q = (F8.nul, false) := by simp [Ld.scanA, Ld.scanB, h1, hQ]
  have hS : s.scanS q = s := by unfold Ld.scanS; rw [if_neg h1, hQ]; rfl
  rw [hB, hS]
  have e128 : ((q.b5.toNat : Int) == 128) = false := by simp; omega
  have wr6 := wrapI q.b6.toNat (by omega)
  have d1 : decide ((31 : Int) < (q.b5.toNat : Int)) = true := by simp; omega
  have HS := hidOf2 S0
  have HT := hidOf2 T0
  have HZ := hidOf2 z0
  have HK := hidOf2 hk
  generalize numq q = N0 at *
  clear h hf h1 hB hS S0 q0 b0 hQ T0 z0 hgk hkl ho h2
  go_enter Try.func31, Try.ntmps31
  go_upto_region 1 with fail
  change Code.wp Try.prog _ _ _ ((w.alloc (.cells q.arr 34)).alloc (.cells zA8 34))
  rw [hW]
  go_wp2_with fail
  go_quiet (fail)
  have z2 := Qb.drawn HZ.out nq
  go_wp2_with (first | (refine sdF (g := F8.nul) z2 rfl _ _ rfl rfl rfl ?_))
  exact bodyPost_ret (dscan_results (z2.row F8.nul) _ rfl rfl) rfl (PostD.mk rfl (HS.out.drawn _) z2 (HT.out.drawn _) (by have := HK.out; omega))
set_option maxHeartbeats 4000000 in
theorem dscan_b2 (h : Da g s w) (ho : s.Ok) (q : F8) (h1 : q.b5.toNat ≠ 128) (h2 : q.b5.toNat ≤ 31) (h3 : 3 < q.b6.toNat) : Calls Try.prog 31 #[.pointer (some ⟨g, 0, none⟩), .agg q.arr, .int .u32 (numq q : Nat)] w (PostD g (s.scanS q) (s.scanA q) w) := by
  obtain ⟨W, k, hW, hk, q0, z0, b0, hkl⟩ := Qb.fresh2 w q
  have hgk : g < k := by rw [← hk]; exact h.lt
  have T0 : Two g g w W := by rw [← hW]; exact ((Two.refl _ _ _).alloc _).alloc _
  have S0 : Da g s W := h.below b0
  have u5 := q0.c5
  have u6 := q0.c6
  have u7 := q0.c7
  have l5 := q.b5.toNat_lt
  have l6 := q.b6.toNat_lt
  have l7 := q.b7.toNat_lt
  have hN0 := numq_lt q
  obtain ⟨c0, c1, c2, c3, _, _, _, _, _, _, _, _, c12, _, c14, hf⟩ := S0.cells
  have f12 := hf 12
  have f14 := hf 14
  have hQ : s.scanQ q = false := by simp [Ld.scanQ]; omega
  have hB : s.scanA q = (F8.nul, false) := by simp [Ld.scanA, Ld.scanB, h1, hQ]
  have hS : s.scanS q = s := by unfold Ld.scanS; rw [if_neg h1, hQ]; rfl
  rw [hB, hS]
  have e128 : ((q.b5.toNat : Int) == 128) = false := by simp; omega
  have wr6 := wrapI q.b6.toNat (by omega)
  have d1 : decide ((31 : Int) < (q.b5.toNat : Int)) = false := by simp; omega
  have d2 : decide ((3 : Int) < (q.b6.toNat : Int)) = true := by simp; omega
  have HS := hidOf2 S0
  have HT := hidOf2 T0
  have HZ := hidOf2 z0
  have HK := hidOf2 hk
  generalize numq q = N0 at *
  clear h hf h1 hB hS S0 q0 b0 hQ T0 z0 hgk hkl ho h2 h3
  go_enter Try.func31, Try.ntmps31
  go_upto_region 1 with fail
  change Code.wp Try.prog _ _ _ ((w.alloc (.cells q.arr 34)).alloc (.cells zA8 34))
  rw [hW]
  go_wp2_with fail
  go_quiet (fail)
  have z2 := Qb.drawn HZ.out nq
  go_wp2_with (first | (refine sdF (g := F8.nul) z2 rfl _ _ rfl rfl rfl ?_))
  exact bodyPost_ret (dscan_results (z2.row F8.nul) _ rfl rfl) rfl (PostD.mk rfl (HS.out.drawn _) z2 (HT.out.drawn _) (by have := HK.out; omega))
set_option maxHeartbeats 4000000 in
theorem dscan_b3 (h : Da g s w) (ho : s.Ok) (q : F8) (h1 : q.b5.toNat ≠ 128) (h2 : q.b5.toNat ≤ 31) (h3 : q.b6.toNat ≤ 3) (h4 : 3 < q.b7.toNat) : Calls Try.prog 31 #[.pointer (some ⟨g, 0, none⟩), .agg q.arr, .int .u32 (numq q : Nat)] w (PostD g (s.scanS q) (s.scanA q) w) := by
  obtain ⟨W, k, hW, hk, q0, z0, b0, hkl⟩ := Qb.fresh2 w q
  have hgk : g < k := by rw [← hk]; exact h.lt
  have T0 : Two g g w W := by rw [← hW]; exact ((Two.refl _ _ _).alloc _).alloc _
  have S0 : Da g s W := h.below b0
  have u5 := q0.c5
  have u6 := q0.c6
  have u7 := q0.c7
  have l5 := q.b5.toNat_lt
  have l6 := q.b6.toNat_lt
  have l7 := q.b7.toNat_lt
  have hN0 := numq_lt q
  obtain ⟨c0, c1, c2, c3, _, _, _, _, _, _, _, _, c12, _, c14, hf⟩ := S0.cells
  have f12 := hf 12
  have f14 := hf 14
  have hQ : s.scanQ q = false := by simp [Ld.scanQ]; omega
  have hB : s.scanA q = (F8.nul, false) := by simp [Ld.scanA, Ld.scanB, h1, hQ]
  have hS : s.scanS q = s := by unfold Ld.scanS; rw [if_neg h1, hQ]; rfl
  rw [hB, hS]
  have e128 : ((q.b5.toNat : Int) == 128) = false := by simp; omega
  have wr6 := wrapI q.b6.toNat (by omega)
  have d1 : decide ((31 : Int) < (q.b5.toNat : Int)) = false := by simp; omega
  have d2 : decide ((3 : Int) < (q.b6.toNat : Int)) = false := by simp; omega
  have d3 : decide ((3 : Int) < (q.b7.toNat : Int)) = true := by simp; omega
  have HS := hidOf2 S0
  have HT := hidOf2 T0
  have HZ := hidOf2 z0
  have HK := hidOf2 hk
  generalize numq q = N0 at *
  clear h hf h1 hB hS S0 q0 b0 hQ T0 z0 hgk hkl ho h2 h3 h4
  go_enter Try.func31, Try.ntmps31
  go_upto_region 1 with fail
  change Code.wp Try.prog _ _ _ ((w.alloc (.cells q.arr 34)).alloc (.cells zA8 34))
  rw [hW]
  go_wp2_with fail
  go_quiet (fail)
  have z2 := Qb.drawn HZ.out nq
  go_wp2_with (first | (refine sdF (g := F8.nul) z2 rfl _ _ rfl rfl rfl ?_))
  exact bodyPost_ret (dscan_results (z2.row F8.nul) _ rfl rfl) rfl (PostD.mk rfl (HS.out.drawn _) z2 (HT.out.drawn _) (by have := HK.out; omega))
set_option maxHeartbeats 4000000 in
theorem dscan_b4 (h : Da g s w) (ho : s.Ok) (q : F8) (h1 : q.b5.toNat ≠ 128) (h2 : q.b5.toNat ≤ 31) (h3 : q.b6.toNat ≤ 3) (h4 : q.b7.toNat ≤ 3) (h5 : (q.b6.toNat : Int) ≠ s.lk) : Calls Try.prog 31 #[.pointer (some ⟨g, 0, none⟩), .agg q.arr, .int .u32 (numq q : Nat)] w (PostD g (s.scanS q) (s.scanA q) w) := by
  obtain ⟨W, k, hW, hk, q0, z0, b0, hkl⟩ := Qb.fresh2 w q
  have hgk : g < k := by rw [← hk]; exact h.lt
  have T0 : Two g g w W := by rw [← hW]; exact ((Two.refl _ _ _).alloc _).alloc _
  have S0 : Da g s W := h.below b0
  have u5 := q0.c5
  have u6 := q0.c6
  have u7 := q0.c7
  have l5 := q.b5.toNat_lt
  have l6 := q.b6.toNat_lt
  have l7 := q.b7.toNat_lt
  have hN0 := numq_lt q
  obtain ⟨c0, c1, c2, c3, _, _, _, _, _, _, _, _, c12, _, c14, hf⟩ := S0.cells
  have f12 := hf 12
  have f14 := hf 14
  have hQ : s.scanQ q = false := by simp [Ld.scanQ]; omega
  have hB : s.scanA q = (F8.nul, false) := by simp [Ld.scanA, Ld.scanB, h1, hQ]
  have hS : s.scanS q = s := by unfold Ld.scanS; rw [if_neg h1, hQ]; rfl
  rw [hB, hS]
  have e128 : ((q.b5.toNat : Int) == 128) = false := by simp; omega
  have wr6 := wrapI q.b6.toNat (by omega)
  have d1 : decide ((31 : Int) < (q.b5.toNat : Int)) = false := by simp; omega
  have d2 : decide ((3 : Int) < (q.b6.toNat : Int)) = false := by simp; omega
  have d3 : decide ((3 : Int) < (q.b7.toNat : Int)) = false := by simp; omega
  have d4 : ((q.b6.toNat : Int) != s.lk) = true := by simp [h5]
  have HS := hidOf2 S0
  have HT := hidOf2 T0
  have HZ := hidOf2 z0
  have HK := hidOf2 hk
  generalize numq q = N0 at *
  clear h hf h1 hB hS S0 q0 b0 hQ T0 z0 hgk hkl ho h2 h3 h4 h5
  go_enter Try.func31, Try.ntmps31
  go_upto_region 1 with fail
  change Code.wp Try.prog _ _ _ ((w.alloc (.cells q.arr 34)).alloc (.cells zA8 34))
  rw [hW]
  go_wp2_with fail
  go_quiet (fail)
  have z2 := Qb.drawn HZ.out nq
  go_wp2_with (first | (refine sdF (g := F8.nul) z2 rfl _ _ rfl rfl rfl ?_))
  exact bodyPost_ret (dscan_results (z2.row F8.nul) _ rfl rfl) rfl (PostD.mk rfl (HS.out.drawn _) z2 (HT.out.drawn _) (by have := HK.out; omega))
set_option maxHeartbeats 4000000 in
theorem dscan_in0 (h : Da g s w) (ho : s.Ok) (q : F8) (h1 : q.b5.toNat ≠ 128) (h2 : q.b5.toNat ≤ 31) (h3 : q.b6.toNat = 0) (h5 : s.lk = 0) (h4 : q.b7.toNat ≤ 3) : Calls Try.prog 31 #[.pointer (some ⟨g, 0, none⟩), .agg q.arr, .int .u32 (numq q : Nat)] w (PostD g (s.scanS q) (s.scanA q) w) := by
  obtain ⟨W, k, hW, hk, q0, z0, b0, hkl⟩ := Qb.fresh2 w q
  have hgk : g < k := by rw [← hk]; exact h.lt
  have T0 : Two g g w W := by rw [← hW]; exact ((Two.refl _ _ _).alloc _).alloc _
  have S0 : Da g s W := h.below b0
  have u5 := q0.c5
  have u6 := q0.c6
  have u7 := q0.c7
  have l5 := q.b5.toNat_lt
  have l6 := q.b6.toNat_lt
  have l7 := q.b7.toNat_lt
  have hN0 := numq_lt q
  obtain ⟨c0, c1, c2, c3, _, _, _, _, _, _, _, _, c12, _, c14, hf⟩ := S0.cells
  have f12 := hf 12
  have f14 := hf 14
  have hR : s.scanQ q = hiE s.a.x0 (numq q) q.b5.toNat := by
    unfold Ld.scanQ
    rw [h5, h3]
    simp [h2, h4]
    rfl
  have hax : s.a.x0 < 4294967296 := by have := ho.a; obtain ⟨x0, x1, x2, x3⟩ := this; assumption
  have hI := hiE_iff s.a.x0 (numq q) q.b5.toNat hax hN0
  rw [← hR] at hI
  have HH : Hid (s.scanA q = if s.scanQ q then (ordF 79 0, true) else (F8.nul, false)) := by show _ = _; simp [Ld.scanA, Ld.scanB, h1]
  have HSS : Hid (s.scanS q = if s.scanQ q then (if q.b5.toNat = 0 then (if q.b7.toNat < 0 then { s with lk := 0, mode := 1 } else { s with lk := (q.b7.toNat : Int) }) else s) else s) := by show _ = _; unfold Ld.scanS; rw [if_neg h1, h3]
  have e128 : ((q.b5.toNat : Int) == 128) = false := by simp; omega
  have wr5 := wrapI q.b5.toNat (by omega)
  have wr7 := wrapI q.b7.toNat (by omega)
  have d1 : decide ((31 : Int) < (q.b5.toNat : Int)) = false := by simp; omega
  have d3 : decide ((3 : Int) < (q.b7.toNat : Int)) = false := by simp; omega
  rw [h3] at u6
  rw [h5] at c14
  have HO : Hid (∀ x, Calls Try.prog 14 #[.int .u8 79, .int .u32 0] x fun e w' => e = .returned (.agg (ordF 79 0).arr) ∧ Below x.heap.size x w') := fun x => dorder_any 79 0 x (by omega) (by omega)
  obtain ⟨AJ, hAJ⟩ : ∃ a, s.a.x0 = a := ⟨_, rfl⟩
  rw [hAJ] at hI c0
  obtain ⟨r, hr⟩ : ∃ r, s.scanA q = r := ⟨_, rfl⟩
  obtain ⟨ts, ht⟩ : ∃ r, s.scanS q = r := ⟨_, rfl⟩
  rw [hr] at HH ⊢
  rw [ht] at HSS ⊢
  generalize s.scanQ q = OQ at *
  generalize numq q = N0 at *
  generalize ordF 79 0 = F at *
  have hb32 : q.b5.toNat ≤ 32 := by omega
  generalize q.b5.toNat = Q5 at *
  generalize q.b7.toNat = Q7 at *
  have HS := hidOf2 S0
  have HT := hidOf2 T0
  have HZ := hidOf2 z0
  have HK : Hid (w.heap.size = k ∧ g < k ∧ k + 1 < W.heap.size) := ⟨hk, hgk, hkl⟩
  have HI := hidOf2 hI
  have HB := hidOf2 hb32
  clear h hf h1 S0 q0 b0 T0 z0 hgk hkl ho hR hax hI hAJ hr ht h2 h4 hN0 hb32 l5 l6 l7
  go_enter Try.func31, Try.ntmps31
  go_upto_region 1 with fail
  change Code.wp Try.prog _ _ _ ((w.alloc (.cells q.arr 34)).alloc (.cells zA8 34))
  rw [hW]
  go_wp2_with fail
  go_quiet (fail)
  go_wp2_with fail
  go_loopw [8] (fun i y => ∃ (m t : Nat), Q5 ≤ m ∧ m ≤ 32 ∧ i = .int .i64 m ∧ y = W.drewN t ∧ Hid (∀ j, Q5 ≤ j → j < m → AJ / 2 ^ j % 2 = N0 / 2 ^ j % 2)) (fun i _ => (32 - intOf i).toNat)
  case atStart => exact ⟨Q5, nq, by omega, HB.out, rfl, rfl, fun j h1 h2 => absurd h1 (by omega)⟩
  case round =>
    obtain ⟨m, t, hm1, hm2, rfl, rfl, HJ⟩ := hrel
    by_cases hm : m = 32
    · subst hm
      have hQ : OQ = true := HI.out.2 HJ.out
      subst hQ
      have Hr : Hid (r = (F, true)) := HH.out
      have z1 := hidOf2 (Qb.drawn HZ.out t)
      have s1 := hidOf2 (Da.drawn HS.out t)
      have t1 := hidOf2 (Two.drawn HT.out t)
      clear HJ HI HB HZ HS HT HH hm1 hm2
      by_cases h5 : Q5 = 0
      · subst h5
        by_cases h7 : Q7 < 0
        · have Hs : Hid (ts = { s with lk := 0, mode := 1 }) := by show _ = _; rw [HSS.out, if_pos rfl, if_pos rfl, if_pos h7]
          have d7 : decide ((Q7 : Int) < 0) = true := by simp only [decide_eq_true_eq]; omega
          have K := HK.out
          obtain ⟨V, hV⟩ : ∃ V, (((W.drewN t).setCell ⟨g, 14, none⟩ (.int .i64 (Q7 : Int))).setCell ⟨g, 14, none⟩ (.int .i64 0)).setCell ⟨g, 12, none⟩ (.int .i64 1) = V := ⟨_, rfl⟩
          have H2 : Hid (Da g { s with lk := 0, mode := 1 } V ∧ Two g g w V ∧ Qb (k + 1) F8.nul V) := by
            rw [← hV]
            exact ⟨Da.set (s := { s with lk := 0 }) (s' := { s with lk := 0, mode := 1 }) (Da.set (s := { s with lk := (Q7 : Int) }) (s' := { s with lk := 0 }) (Da.set s1.out rfl) rfl) rfl, ((t1.out.at0 _ _).at0 _ _).at0 _ _, z1.out.two ((((Two.refl g g _).at0 14 _).at0 14 _).at0 12 _) (by omega) (by omega)⟩
          have HVV := hidOf2 hV
          clear HSS h7 s1 t1 z1 K hV
          go_wp2_with fail
          rw [HVV.out]
          refine (HO.out _).mono ?_
          rintro e w2 ⟨rfl, B2⟩
          obtain ⟨e1, e2, e3⟩ := H2.out
          have z2 := e3.below B2
          go_wp2_with (first | (refine sdF (g := F) z2 rfl _ _ rfl rfl rfl ?_))
          exact bodyPost_ret (dscan_results (z2.row F) _ rfl rfl) rfl (PostD.mk Hr.out (by rw [Hs.out]; exact e1.below B2) z2 (two_below e2 B2) (by have := HK.out; omega))
        · have Hs : Hid (ts = { s with lk := (Q7 : Int) }) := by show _ = _; rw [HSS.out, if_pos rfl, if_pos rfl, if_neg h7]
          have d7 : decide ((Q7 : Int) < 0) = false := by simp only [decide_eq_false_iff_not]; omega
          have K := HK.out
          obtain ⟨V, hV⟩ : ∃ V, (W.drewN t).setCell ⟨g, 14, none⟩ (.int .i64 (Q7 : Int)) = V := ⟨_, rfl⟩
          have H2 : Hid (Da g { s with lk := (Q7 : Int) } V ∧ Two g g w V ∧ Qb (k + 1) F8.nul V) := by
            rw [← hV]
            exact ⟨Da.set s1.out rfl, t1.out.at0 _ _, z1.out.two ((Two.refl g g _).at0 14 _) (by omega) (by omega)⟩
          have HVV := hidOf2 hV
          clear HSS h7 s1 t1 z1 K hV
          go_wp2_with fail
          rw [HVV.out]
          refine (HO.out _).mono ?_
          rintro e w2 ⟨rfl, B2⟩
          obtain ⟨e1, e2, e3⟩ := H2.out
          have z2 := e3.below B2
          go_wp2_with (first | (refine sdF (g := F) z2 rfl _ _ rfl rfl rfl ?_))
          exact bodyPost_ret (dscan_results (z2.row F) _ rfl rfl) rfl (PostD.mk Hr.out (by rw [Hs.out]; exact e1.below B2) z2 (two_below e2 B2) (by have := HK.out; omega))
      · have Hs : Hid (ts = s) := by show _ = _; rw [HSS.out, if_pos rfl, if_neg h5]
        have d5 : ((Q5 : Int) == 0) = false := by simp; omega
        clear HSS h5
        go_wp2_with fail
        refine (HO.out _).mono ?_
        rintro e w2 ⟨rfl, B2⟩
        have z2 := z1.out.below B2
        go_wp2_with (first | (refine sdF (g := F) z2 rfl _ _ rfl rfl rfl ?_))
        exact bodyPost_ret (dscan_results (z2.row F) _ rfl rfl) rfl (PostD.mk Hr.out (by rw [Hs.out]; exact s1.out.below B2) z2 (two_below t1.out B2) (by have := HK.out; omega))
    · have dm : decide ((m : Int) < 32) = true := by simp; omega
      have wm : IntKind.u64.wrap (m : Int) = (m : Int) := by simp only [IntKind.wrap, IntKind.bits, IntKind.signed]; simp; omega
      by_cases he : AJ / 2 ^ m % 2 = N0 / 2 ^ m % 2
      · have HJ2 : Hid (∀ j, Q5 ≤ j → j < m + 1 → AJ / 2 ^ j % 2 = N0 / 2 ^ j % 2) := fun j h1 h2 => by
          by_cases e : j = m
          · rw [e]; exact he
          · exact HJ.out j h1 (by omega)
        have HM : Hid (Q5 ≤ m ∧ m < 32 ∧ AJ / 2 ^ m % 2 = N0 / 2 ^ m % 2) := ⟨hm1, by omega, he⟩
        clear HJ hm hm1 hm2 he
        have dx : Hid ((((AJ : Int) / 2 ^ min m 32).tmod 2 != ((N0 : Int) / 2 ^ min m 32).tmod 2) = false) := by
          have M := HM.out
          show _ = _
          rw [Nat.min_eq_left (by omega : m ≤ 32), show (2 : Int) ^ m = ((2 ^ m : Nat) : Int) by simp]
          rw [tmod2 AJ m, tmod2 N0 m, bne_eq_false_iff_eq, M.2.2]
        go_wp2_with fail
        go_quiet (fail)
        rw [dx.out]
        have M := HM.out
        have t1 := hidOf2 (Two.drawn HT.out t)
        clear dx HM
        go_wp2
        go_roundw
        case rel => exact ⟨m + 1, t + nq, by omega, by omega, by go_num, by simp [World.drewN, Nat.add_assoc], HJ2.out⟩
        case measure => simp [intOf]; omega
      · have hQ : OQ = false := by
          rw [Bool.eq_false_iff]
          intro h
          exact he (HI.out.1 h m hm1 (by omega))
        subst hQ
        have Hr : Hid (r = (F8.nul, false)) := HH.out
        have Hs : Hid (ts = s) := HSS.out
        have dx : Hid ((((AJ : Int) / 2 ^ min m 32).tmod 2 != ((N0 : Int) / 2 ^ min m 32).tmod 2) = true) := by
          show _ = _
          rw [Nat.min_eq_left hm2, show (2 : Int) ^ m = ((2 ^ m : Nat) : Int) by simp]
          rw [tmod2 AJ m, tmod2 N0 m, bne_iff_ne]
          intro e
          exact he (Int.ofNat.inj e)
        clear HJ hm hm1 hm2 he HI HH HSS HO
        go_wp2_with fail
        go_quiet (fail)
        rw [dx.out]
        have z2 : Qb (k + 1) F8.nul (W.drewN (t + nq)) := Qb.drawn HZ.out (t + nq)
        go_wp2_with (first | (refine sdF (g := F8.nul) z2 rfl _ _ rfl rfl rfl ?_))
        exact bodyPost_ret (dscan_results (z2.row F8.nul) _ rfl rfl) rfl (PostD.mk Hr.out (by rw [Hs.out]; exact (Da.drawn HS.out (t + nq))) z2 (HT.out.drawn (t + nq)) (by have := HK.out; omega))
set_option maxHeartbeats 4000000 in
theorem dscan_in1 (h : Da g s w) (ho : s.Ok) (q : F8) (h1 : q.b5.toNat ≠ 128) (h2 : q.b5.toNat ≤ 31) (h3 : q.b6.toNat = 1) (h5 : s.lk = 1) (h4 : q.b7.toNat ≤ 3) : Calls Try.prog 31 #[.pointer (some ⟨g, 0, none⟩), .agg q.arr, .int .u32 (numq q : Nat)] w (PostD g (s.scanS q) (s.scanA q) w) := by
  obtain ⟨W, k, hW, hk, q0, z0, b0, hkl⟩ := Qb.fresh2 w q
  have hgk : g < k := by rw [← hk]; exact h.lt
  have T0 : Two g g w W := by rw [← hW]; exact ((Two.refl _ _ _).alloc _).alloc _
  have S0 : Da g s W := h.below b0
  have u5 := q0.c5
  have u6 := q0.c6
  have u7 := q0.c7
  have l5 := q.b5.toNat_lt
  have l6 := q.b6.toNat_lt
  have l7 := q.b7.toNat_lt
  have hN0 := numq_lt q
  obtain ⟨c0, c1, c2, c3, _, _, _, _, _, _, _, _, c12, _, c14, hf⟩ := S0.cells
  have f12 := hf 12
  have f14 := hf 14
  have hR : s.scanQ q = hiE s.a.x1 (numq q) q.b5.toNat := by
    unfold Ld.scanQ
    rw [h5, h3]
    simp [h2, h4]
    rfl
  have hax : s.a.x1 < 4294967296 := by have := ho.a; obtain ⟨x0, x1, x2, x3⟩ := this; assumption
  have hI := hiE_iff s.a.x1 (numq q) q.b5.toNat hax hN0
  rw [← hR] at hI
  have HH : Hid (s.scanA q = if s.scanQ q then (ordF 79 0, true) else (F8.nul, false)) := by show _ = _; simp [Ld.scanA, Ld.scanB, h1]
  have HSS : Hid (s.scanS q = if s.scanQ q then (if q.b5.toNat = 0 then (if q.b7.toNat < 1 then { s with lk := 0, mode := 1 } else { s with lk := (q.b7.toNat : Int) }) else s) else s) := by show _ = _; unfold Ld.scanS; rw [if_neg h1, h3]
  have e128 : ((q.b5.toNat : Int) == 128) = false := by simp; omega
  have wr5 := wrapI q.b5.toNat (by omega)
  have wr7 := wrapI q.b7.toNat (by omega)
  have d1 : decide ((31 : Int) < (q.b5.toNat : Int)) = false := by simp; omega
  have d3 : decide ((3 : Int) < (q.b7.toNat : Int)) = false := by simp; omega
  rw [h3] at u6
  rw [h5] at c14
  have HO : Hid (∀ x, Calls Try.prog 14 #[.int .u8 79, .int .u32 0] x fun e w' => e = .returned (.agg (ordF 79 0).arr) ∧ Below x.heap.size x w') := fun x => dorder_any 79 0 x (by omega) (by omega)
  obtain ⟨AJ, hAJ⟩ : ∃ a, s.a.x1 = a := ⟨_, rfl⟩
  rw [hAJ] at hI c1
  obtain ⟨r, hr⟩ : ∃ r, s.scanA q = r := ⟨_, rfl⟩
  obtain ⟨ts, ht⟩ : ∃ r, s.scanS q = r := ⟨_, rfl⟩
  rw [hr] at HH ⊢
  rw [ht] at HSS ⊢
  generalize s.scanQ q = OQ at *
  generalize numq q = N0 at *
  generalize ordF 79 0 = F at *
  have hb32 : q.b5.toNat ≤ 32 := by omega
  generalize q.b5.toNat = Q5 at *
  generalize q.b7.toNat = Q7 at *
  have HS := hidOf2 S0
  have HT := hidOf2 T0
  have HZ := hidOf2 z0
  have HK : Hid (w.heap.size = k ∧ g < k ∧ k + 1 < W.heap.size) := ⟨hk, hgk, hkl⟩
  have HI := hidOf2 hI
  have HB := hidOf2 hb32
  clear h hf h1 S0 q0 b0 T0 z0 hgk hkl ho hR hax hI hAJ hr ht h2 h4 hN0 hb32 l5 l6 l7
  go_enter Try.func31, Try.ntmps31
  go_upto_region 1 with fail
  change Code.wp Try.prog _ _ _ ((w.alloc (.cells q.arr 34)).alloc (.cells zA8 34))
  rw [hW]
  go_wp2_with fail
  go_quiet (fail)
  go_wp2_with fail
  go_loopw [8] (fun i y => ∃ (m t : Nat), Q5 ≤ m ∧ m ≤ 32 ∧ i = .int .i64 m ∧ y = W.drewN t ∧ Hid (∀ j, Q5 ≤ j → j < m → AJ / 2 ^ j % 2 = N0 / 2 ^ j % 2)) (fun i _ => (32 - intOf i).toNat)
  case atStart => exact ⟨Q5, nq, by omega, HB.out, rfl, rfl, fun j h1 h2 => absurd h1 (by omega)⟩
  case round =>
    obtain ⟨m, t, hm1, hm2, rfl, rfl, HJ⟩ := hrel
    by_cases hm : m = 32
    · subst hm
      have hQ : OQ = true := HI.out.2 HJ.out
      subst hQ
      have Hr : Hid (r = (F, true)) := HH.out
      have z1 := hidOf2 (Qb.drawn HZ.out t)
      have s1 := hidOf2 (Da.drawn HS.out t)
      have t1 := hidOf2 (Two.drawn HT.out t)
      clear HJ HI HB HZ HS HT HH hm1 hm2
      by_cases h5 : Q5 = 0
      · subst h5
        by_cases h7 : Q7 < 1
        · have Hs : Hid (ts = { s with lk := 0, mode := 1 }) := by show _ = _; rw [HSS.out, if_pos rfl, if_pos rfl, if_pos h7]
          have d7 : decide ((Q7 : Int) < 1) = true := by simp only [decide_eq_true_eq]; omega
          have K := HK.out
          obtain ⟨V, hV⟩ : ∃ V, (((W.drewN t).setCell ⟨g, 14, none⟩ (.int .i64 (Q7 : Int))).setCell ⟨g, 14, none⟩ (.int .i64 0)).setCell ⟨g, 12, none⟩ (.int .i64 1) = V := ⟨_, rfl⟩
          have H2 : Hid (Da g { s with lk := 0, mode := 1 } V ∧ Two g g w V ∧ Qb (k + 1) F8.nul V) := by
            rw [← hV]
            exact ⟨Da.set (s := { s with lk := 0 }) (s' := { s with lk := 0, mode := 1 }) (Da.set (s := { s with lk := (Q7 : Int) }) (s' := { s with lk := 0 }) (Da.set s1.out rfl) rfl) rfl, ((t1.out.at0 _ _).at0 _ _).at0 _ _, z1.out.two ((((Two.refl g g _).at0 14 _).at0 14 _).at0 12 _) (by omega) (by omega)⟩
          have HVV := hidOf2 hV
          clear HSS h7 s1 t1 z1 K hV
          go_wp2_with fail
          rw [HVV.out]
          refine (HO.out _).mono ?_
          rintro e w2 ⟨rfl, B2⟩
          obtain ⟨e1, e2, e3⟩ := H2.out
          have z2 := e3.below B2
          go_wp2_with (first | (refine sdF (g := F) z2 rfl _ _ rfl rfl rfl ?_))
          exact bodyPost_ret (dscan_results (z2.row F) _ rfl rfl) rfl (PostD.mk Hr.out (by rw [Hs.out]; exact e1.below B2) z2 (two_below e2 B2) (by have := HK.out; omega))
        · have Hs : Hid (ts = { s with lk := (Q7 : Int) }) := by show _ = _; rw [HSS.out, if_pos rfl, if_pos rfl, if_neg h7]
          have d7 : decide ((Q7 : Int) < 1) = false := by simp only [decide_eq_false_iff_not]; omega
          have K := HK.out
          obtain ⟨V, hV⟩ : ∃ V, (W.drewN t).setCell ⟨g, 14, none⟩ (.int .i64 (Q7 : Int)) = V := ⟨_, rfl⟩
          have H2 : Hid (Da g { s with lk := (Q7 : Int) } V ∧ Two g g w V ∧ Qb (k + 1) F8.nul V) := by
            rw [← hV]
            exact ⟨Da.set s1.out rfl, t1.out.at0 _ _, z1.out.two ((Two.refl g g _).at0 14 _) (by omega) (by omega)⟩
          have HVV := hidOf2 hV
          clear HSS h7 s1 t1 z1 K hV
          go_wp2_with fail
          rw [HVV.out]
          refine (HO.out _).mono ?_
          rintro e w2 ⟨rfl, B2⟩
          obtain ⟨e1, e2, e3⟩ := H2.out
          have z2 := e3.below B2
          go_wp2_with (first | (refine sdF (g := F) z2 rfl _ _ rfl rfl rfl ?_))
          exact bodyPost_ret (dscan_results (z2.row F) _ rfl rfl) rfl (PostD.mk Hr.out (by rw [Hs.out]; exact e1.below B2) z2 (two_below e2 B2) (by have := HK.out; omega))
      · have Hs : Hid (ts = s) := by show _ = _; rw [HSS.out, if_pos rfl, if_neg h5]
        have d5 : ((Q5 : Int) == 0) = false := by simp; omega
        clear HSS h5
        go_wp2_with fail
        refine (HO.out _).mono ?_
        rintro e w2 ⟨rfl, B2⟩
        have z2 := z1.out.below B2
        go_wp2_with (first | (refine sdF (g := F) z2 rfl _ _ rfl rfl rfl ?_))
        exact bodyPost_ret (dscan_results (z2.row F) _ rfl rfl) rfl (PostD.mk Hr.out (by rw [Hs.out]; exact s1.out.below B2) z2 (two_below t1.out B2) (by have := HK.out; omega))
    · have dm : decide ((m : Int) < 32) = true := by simp; omega
      have wm : IntKind.u64.wrap (m : Int) = (m : Int) := by simp only [IntKind.wrap, IntKind.bits, IntKind.signed]; simp; omega
      by_cases he : AJ / 2 ^ m % 2 = N0 / 2 ^ m % 2
      · have HJ2 : Hid (∀ j, Q5 ≤ j → j < m + 1 → AJ / 2 ^ j % 2 = N0 / 2 ^ j % 2) := fun j h1 h2 => by
          by_cases e : j = m
          · rw [e]; exact he
          · exact HJ.out j h1 (by omega)
        have HM : Hid (Q5 ≤ m ∧ m < 32 ∧ AJ / 2 ^ m % 2 = N0 / 2 ^ m % 2) := ⟨hm1, by omega, he⟩
        clear HJ hm hm1 hm2 he
        have dx : Hid ((((AJ : Int) / 2 ^ min m 32).tmod 2 != ((N0 : Int) / 2 ^ min m 32).tmod 2) = false) := by
          have M := HM.out
          show _ = _
          rw [Nat.min_eq_left (by omega : m ≤ 32), show (2 : Int) ^ m = ((2 ^ m : Nat) : Int) by simp]
          rw [tmod2 AJ m, tmod2 N0 m, bne_eq_false_iff_eq, M.2.2]
        go_wp2_with fail
        go_quiet (fail)
        rw [dx.out]
        have M := HM.out
        have t1 := hidOf2 (Two.drawn HT.out t)
        clear dx HM
        go_wp2
        go_roundw
        case rel => exact ⟨m + 1, t + nq, by omega, by omega, by go_num, by simp [World.drewN, Nat.add_assoc], HJ2.out⟩
        case measure => simp [intOf]; omega
      · have hQ : OQ = false := by
          rw [Bool.eq_false_iff]
          intro h
          exact he (HI.out.1 h m hm1 (by omega))
        subst hQ
        have Hr : Hid (r = (F8.nul, false)) := HH.out
        have Hs : Hid (ts = s) := HSS.out
        have dx : Hid ((((AJ : Int) / 2 ^ min m 32).tmod 2 != ((N0 : Int) / 2 ^ min m 32).tmod 2) = true) := by
          show _ = _
          rw [Nat.min_eq_left hm2, show (2 : Int) ^ m = ((2 ^ m : Nat) : Int) by simp]
          rw [tmod2 AJ m, tmod2 N0 m, bne_iff_ne]
          intro e
          exact he (Int.ofNat.inj e)
        clear HJ hm hm1 hm2 he HI HH HSS HO
        go_wp2_with fail
        go_quiet (fail)
        rw [dx.out]
        have z2 : Qb (k + 1) F8.nul (W.drewN (t + nq)) := Qb.drawn HZ.out (t + nq)
        go_wp2_with (first | (refine sdF (g := F8.nul) z2 rfl _ _ rfl rfl rfl ?_))
        exact bodyPost_ret (dscan_results (z2.row F8.nul) _ rfl rfl) rfl (PostD.mk Hr.out (by rw [Hs.out]; exact (Da.drawn HS.out (t + nq))) z2 (HT.out.drawn (t + nq)) (by have := HK.out; omega))
set_option maxHeartbeats 4000000 in
theorem dscan_in2 (h : Da g s w) (ho : s.Ok) (q : F8) (h1 : q.b5.toNat ≠ 128) (h2 : q.b5.toNat ≤ 31) (h3 : q.b6.toNat = 2) (h5 : s.lk = 2) (h4 : q.b7.toNat ≤ 3) : Calls Try.prog 31 #[.pointer (some ⟨g, 0, none⟩), .agg q.arr, .int .u32 (numq q : Nat)] w (PostD g (s.scanS q) (s.scanA q) w) := by
  obtain ⟨W, k, hW, hk, q0, z0, b0, hkl⟩ := Qb.fresh2 w q
  have hgk : g < k := by rw [← hk]; exact h.lt
  have T0 : Two g g w W := by rw [← hW]; exact ((Two.refl _ _ _).alloc _).alloc _
  have S0 : Da g s W := h.below b0
  have u5 := q0.c5
  have u6 := q0.c6
  have u7 := q0.c7
  have l5 := q.b5.toNat_lt
  have l6 := q.b6.toNat_lt
  have l7 := q.b7.toNat_lt
  have hN0 := numq_lt q
  obtain ⟨c0, c1, c2, c3, _, _, _, _, _, _, _, _, c12, _, c14, hf⟩ := S0.cells
  have f12 := hf 12
  have f14 := hf 14
  have hR : s.scanQ q = hiE s.a.x2 (numq q) q.b5.toNat := by
    unfold Ld.scanQ
    rw [h5, h3]
    simp [h2, h4]
    rfl
  have hax : s.a.x2 < 4294967296 := by have := ho.a; obtain ⟨x0, x1, x2, x3⟩ := this; assumption
  have hI := hiE_iff s.a.x2 (numq q) q.b5.toNat hax hN0
  rw [← hR] at hI
  have HH : Hid (s.scanA q = if s.scanQ q then (ordF 79 0, true) else (F8.nul, false)) := by show _ = _; simp [Ld.scanA, Ld.scanB, h1]
  have HSS : Hid (s.scanS q = if s.scanQ q then (if q.b5.toNat = 0 then (if q.b7.toNat < 2 then { s with lk := 0, mode := 1 } else { s with lk := (q.b7.toNat : Int) }) else s) else s) := by show _ = _; unfold Ld.scanS; rw [if_neg h1, h3]
  have e128 : ((q.b5.toNat : Int) == 128) = false := by simp; omega
  have wr5 := wrapI q.b5.toNat (by omega)
  have wr7 := wrapI q.b7.toNat (by omega)
  have d1 : decide ((31 : Int) < (q.b5.toNat : Int)) = false := by simp; omega
  have d3 : decide ((3 : Int) < (q.b7.toNat : Int)) = false := by simp; omega
  rw [h3] at u6
  rw [h5] at c14
  have HO : Hid (∀ x, Calls Try.prog 14 #[.int .u8 79, .int .u32 0] x fun e w' => e = .returned (.agg (ordF 79 0).arr) ∧ Below x.heap.size x w') := fun x => dorder_any 79 0 x (by omega) (by omega)
  obtain ⟨AJ, hAJ⟩ : ∃ a, s.a.x2 = a := ⟨_, rfl⟩
  rw [hAJ] at hI c2
  obtain ⟨r, hr⟩ : ∃ r, s.scanA q = r := ⟨_, rfl⟩
  obtain ⟨ts, ht⟩ : ∃ r, s.scanS q = r := ⟨_, rfl⟩
  rw [hr] at HH ⊢
  rw [ht] at HSS ⊢
  generalize s.scanQ q = OQ at *
  generalize numq q = N0 at *
  generalize ordF 79 0 = F at *
  have hb32 : q.b5.toNat ≤ 32 := by omega
  generalize q.b5.toNat = Q5 at *
  generalize q.b7.toNat = Q7 at *
  have HS := hidOf2 S0
  have HT := hidOf2 T0
  have HZ := hidOf2 z0
  have HK : Hid (w.heap.size = k ∧ g < k ∧ k + 1 < W.heap.size) := ⟨hk, hgk, hkl⟩
  have HI := hidOf2 hI
  have HB := hidOf2 hb32
  clear h hf h1 S0 q0 b0 T0 z0 hgk hkl ho hR hax hI hAJ hr ht h2 h4 hN0 hb32 l5 l6 l7
  go_enter Try.func31, Try.ntmps31
  go_upto_region 1 with fail
  change Code.wp Try.prog _ _ _ ((w.alloc (.cells q.arr 34)).alloc (.cells zA8 34))
  rw [hW]
  go_wp2_with fail
  go_quiet (fail)
  go_wp2_with fail
  go_loopw [8] (fun i y => ∃ (m t : Nat), Q5 ≤ m ∧ m ≤ 32 ∧ i = .int .i64 m ∧ y = W.drewN t ∧ Hid (∀ j, Q5 ≤ j → j < m → AJ / 2 ^ j % 2 = N0 / 2 ^ j % 2)) (fun i _ => (32 - intOf i).toNat)
  case atStart => exact ⟨Q5, nq, by omega, HB.out, rfl, rfl, fun j h1 h2 => absurd h1 (by omega)⟩
  case round =>
    obtain ⟨m, t, hm1, hm2, rfl, rfl, HJ⟩ := hrel
    by_cases hm : m = 32
    · subst hm
      have hQ : OQ = true := HI.out.2 HJ.out
      subst hQ
      have Hr : Hid (r = (F, true)) := HH.out
      have z1 := hidOf2 (Qb.drawn HZ.out t)
      have s1 := hidOf2 (Da.drawn HS.out t)
      have t1 := hidOf2 (Two.drawn HT.out t)
      clear HJ HI HB HZ HS HT HH hm1 hm2
      by_cases h5 : Q5 = 0
      · subst h5
        by_cases h7 : Q7 < 2
        · have Hs : Hid (ts = { s with lk := 0, mode := 1 }) := by show _ = _; rw [HSS.out, if_pos rfl, if_pos rfl, if_pos h7]
          have d7 : decide ((Q7 : Int) < 2) = true := by simp only [decide_eq_true_eq]; omega
          have K := HK.out
          obtain ⟨V, hV⟩ : ∃ V, (((W.drewN t).setCell ⟨g, 14, none⟩ (.int .i64 (Q7 : Int))).setCell ⟨g, 14, none⟩ (.int .i64 0)).setCell ⟨g, 12, none⟩ (.int .i64 1) = V := ⟨_, rfl⟩
          have H2 : Hid (Da g { s with lk := 0, mode := 1 } V ∧ Two g g w V ∧ Qb (k + 1) F8.nul V) := by
            rw [← hV]
            exact ⟨Da.set (s := { s with lk := 0 }) (s' := { s with lk := 0, mode := 1 }) (Da.set (s := { s with lk := (Q7 : Int) }) (s' := { s with lk := 0 }) (Da.set s1.out rfl) rfl) rfl, ((t1.out.at0 _ _).at0 _ _).at0 _ _, z1.out.two ((((Two.refl g g _).at0 14 _).at0 14 _).at0 12 _) (by omega) (by omega)⟩
          have HVV := hidOf2 hV
          clear HSS h7 s1 t1 z1 K hV
          go_wp2_with fail
          rw [HVV.out]
          refine (HO.out _).mono ?_
          rintro e w2 ⟨rfl, B2⟩
          obtain ⟨e1, e2, e3⟩ := H2.out
          have z2 := e3.below B2
          go_wp2_with (first | (refine sdF (g := F) z2 rfl _ _ rfl rfl rfl ?_))
          exact bodyPost_ret (dscan_results (z2.row F) _ rfl rfl) rfl (PostD.mk Hr.out (by rw [Hs.out]; exact e1.below B2) z2 (two_below e2 B2) (by have := HK.out; omega))
        · have Hs : Hid (ts = { s with lk := (Q7 : Int) }) := by show _ = _; rw [HSS.out, if_pos rfl, if_pos rfl, if_neg h7]
          have d7 : decide ((Q7 : Int) < 2) = false := by simp only [decide_eq_false_iff_not]; omega
          have K := HK.out
          obtain ⟨V, hV⟩ : ∃ V, (W.drewN t).setCell ⟨g, 14, none⟩ (.int .i64 (Q7 : Int)) = V := ⟨_, rfl⟩
          have H2 : Hid (Da g { s with lk := (Q7 : Int) } V ∧ Two g g w V ∧ Qb (k + 1) F8.nul V) := by
            rw [← hV]
            exact ⟨Da.set s1.out rfl, t1.out.at0 _ _, z1.out.two ((Two.refl g g _).at0 14 _) (by omega) (by omega)⟩
          have HVV := hidOf2 hV
          clear HSS h7 s1 t1 z1 K hV
          go_wp2_with fail
          rw [HVV.out]
          refine (HO.out _).mono ?_
          rintro e w2 ⟨rfl, B2⟩
          obtain ⟨e1, e2, e3⟩ := H2.out
          have z2 := e3.below B2
          go_wp2_with (first | (refine sdF (g := F) z2 rfl _ _ rfl rfl rfl ?_))
          exact bodyPost_ret (dscan_results (z2.row F) _ rfl rfl) rfl (PostD.mk Hr.out (by rw [Hs.out]; exact e1.below B2) z2 (two_below e2 B2) (by have := HK.out; omega))
      · have Hs : Hid (ts = s) := by show _ = _; rw [HSS.out, if_pos rfl, if_neg h5]
        have d5 : ((Q5 : Int) == 0) = false := by simp; omega
        clear HSS h5
        go_wp2_with fail
        refine (HO.out _).mono ?_
        rintro e w2 ⟨rfl, B2⟩
        have z2 := z1.out.below B2
        go_wp2_with (first | (refine sdF (g := F) z2 rfl _ _ rfl rfl rfl ?_))
        exact bodyPost_ret (dscan_results (z2.row F) _ rfl rfl) rfl (PostD.mk Hr.out (by rw [Hs.out]; exact s1.out.below B2) z2 (two_below t1.out B2) (by have := HK.out; omega))
    · have dm : decide ((m : Int) < 32) = true := by simp; omega
      have wm : IntKind.u64.wrap (m : Int) = (m : Int) := by simp only [IntKind.wrap, IntKind.bits, IntKind.signed]; simp; omega
      by_cases he : AJ / 2 ^ m % 2 = N0 / 2 ^ m % 2
      · have HJ2 : Hid (∀ j, Q5 ≤ j → j < m + 1 → AJ / 2 ^ j % 2 = N0 / 2 ^ j % 2) := fun j h1 h2 => by
          by_cases e : j = m
          · rw [e]; exact he
          · exact HJ.out j h1 (by omega)
        have HM : Hid (Q5 ≤ m ∧ m < 32 ∧ AJ / 2 ^ m % 2 = N0 / 2 ^ m % 2) := ⟨hm1, by omega, he⟩
        clear HJ hm hm1 hm2 he
        have dx : Hid ((((AJ : Int) / 2 ^ min m 32).tmod 2 != ((N0 : Int) / 2 ^ min m 32).tmod 2) = false) := by
          have M := HM.out
          show _ = _
          rw [Nat.min_eq_left (by omega : m ≤ 32), show (2 : Int) ^ m = ((2 ^ m : Nat) : Int) by simp]
          rw [tmod2 AJ m, tmod2 N0 m, bne_eq_false_iff_eq, M.2.2]
        go_wp2_with fail
        go_quiet (fail)
        rw [dx.out]
        have M := HM.out
        have t1 := hidOf2 (Two.drawn HT.out t)
        clear dx HM
        go_wp2
        go_roundw
        case rel => exact ⟨m + 1, t + nq, by omega, by omega, by go_num, by simp [World.drewN, Nat.add_assoc], HJ2.out⟩
        case measure => simp [intOf]; omega
      · have hQ : OQ = false := by
          rw [Bool.eq_false_iff]
          intro h
          exact he (HI.out.1 h m hm1 (by omega))
        subst hQ
        have Hr : Hid (r = (F8.nul, false)) := HH.out
        have Hs : Hid (ts = s) := HSS.out
        have dx : Hid ((((AJ : Int) / 2 ^ min m 32).tmod 2 != ((N0 : Int) / 2 ^ min m 32).tmod 2) = true) := by
          show _ = _
          rw [Nat.min_eq_left hm2, show (2 : Int) ^ m = ((2 ^ m : Nat) : Int) by simp]
          rw [tmod2 AJ m, tmod2 N0 m, bne_iff_ne]
          intro e
          exact he (Int.ofNat.inj e)
        clear HJ hm hm1 hm2 he HI HH HSS HO
        go_wp2_with fail
        go_quiet (fail)
        rw [dx.out]
        have z2 : Qb (k + 1) F8.nul (W.drewN (t + nq)) := Qb.drawn HZ.out (t + nq)
        go_wp2_with (first | (refine sdF (g := F8.nul) z2 rfl _ _ rfl rfl rfl ?_))
        exact bodyPost_ret (dscan_results (z2.row F8.nul) _ rfl rfl) rfl (PostD.mk Hr.out (by rw [Hs.out]; exact (Da.drawn HS.out (t + nq))) z2 (HT.out.drawn (t + nq)) (by have := HK.out; omega))
set_option maxHeartbeats 4000000 in
theorem dscan_in3 (h : Da g s w) (ho : s.Ok) (q : F8) (h1 : q.b5.toNat ≠ 128) (h2 : q.b5.toNat ≤ 31) (h3 : q.b6.toNat = 3) (h5 : s.lk = 3) (h4 : q.b7.toNat ≤ 3) : Calls Try.prog 31 #[.pointer (some ⟨g, 0, none⟩), .agg q.arr, .int .u32 (numq q : Nat)] w (PostD g (s.scanS q) (s.scanA q) w) := by
  obtain ⟨W, k, hW, hk, q0, z0, b0, hkl⟩ := Qb.fresh2 w q
  have hgk : g < k := by rw [← hk]; exact h.lt
  have T0 : Two g g w W := by rw [← hW]; exact ((Two.refl _ _ _).alloc _).alloc _
  have S0 : Da g s W := h.below b0
  have u5 := q0.c5
  have u6 := q0.c6
  have u7 := q0.c7
  have l5 := q.b5.toNat_lt
  have l6 := q.b6.toNat_lt
  have l7 := q.b7.toNat_lt
  have hN0 := numq_lt q
  obtain ⟨c0, c1, c2, c3, _, _, _, _, _, _, _, _, c12, _, c14, hf⟩ := S0.cells
  have f12 := hf 12
  have f14 := hf 14
  have hR : s.scanQ q = hiE s.a.x3 (numq q) q.b5.toNat := by
    unfold Ld.scanQ
    rw [h5, h3]
    simp [h2, h4]
    rfl
  have hax : s.a.x3 < 4294967296 := by have := ho.a; obtain ⟨x0, x1, x2, x3⟩ := this; assumption
  have hI := hiE_iff s.a.x3 (numq q) q.b5.toNat hax hN0
  rw [← hR] at hI
  have HH : Hid (s.scanA q = if s.scanQ q then (ordF 79 0, true) else (F8.nul, false)) := by show _ = _; simp [Ld.scanA, Ld.scanB, h1]
  have HSS : Hid (s.scanS q = if s.scanQ q then (if q.b5.toNat = 0 then (if q.b7.toNat < 3 then { s with lk := 0, mode := 1 } else { s with lk := (q.b7.toNat : Int) }) else s) else s) := by show _ = _; unfold Ld.scanS; rw [if_neg h1, h3]
  have e128 : ((q.b5.toNat : Int) == 128) = false := by simp; omega
  have wr5 := wrapI q.b5.toNat (by omega)
  have wr7 := wrapI q.b7.toNat (by omega)
  have d1 : decide ((31 : Int) < (q.b5.toNat : Int)) = false := by simp; omega
  have d3 : decide ((3 : Int) < (q.b7.toNat : Int)) = false := by simp; omega
  rw [h3] at u6
  rw [h5] at c14
  have HO : Hid (∀ x, Calls Try.prog 14 #[.int .u8 79, .int .u32 0] x fun e w' => e = .returned (.agg (ordF 79 0).arr) ∧ Below x.heap.size x w') := fun x => dorder_any 79 0 x (by omega) (by omega)
  obtain ⟨AJ, hAJ⟩ : ∃ a, s.a.x3 = a := ⟨_, rfl⟩
  rw [hAJ] at hI c3
  obtain ⟨r, hr⟩ : ∃ r, s.scanA q = r := ⟨_, rfl⟩
  obtain ⟨ts, ht⟩ : ∃ r, s.scanS q = r := ⟨_, rfl⟩
  rw [hr] at HH ⊢
  rw [ht] at HSS ⊢
  generalize s.scanQ q = OQ at *
  generalize numq q = N0 at *
  generalize ordF 79 0 = F at *
  have hb32 : q.b5.toNat ≤ 32 := by omega
  generalize q.b5.toNat = Q5 at *
  generalize q.b7.toNat = Q7 at *
  have HS := hidOf2 S0
  have HT := hidOf2 T0
  have HZ := hidOf2 z0
  have HK : Hid (w.heap.size = k ∧ g < k ∧ k + 1 < W.heap.size) := ⟨hk, hgk, hkl⟩
  have HI := hidOf2 hI
  have HB := hidOf2 hb32
  clear h hf h1 S0 q0 b0 T0 z0 hgk hkl ho hR hax hI hAJ hr ht h2 h4 hN0 hb32 l5 l6 l7
  go_enter Try.func31, Try.ntmps31
  go_upto_region 1 with fail
  change Code.wp Try.prog _ _ _ ((w.alloc (.cells q.arr 34)).alloc (.cells zA8 34))
  rw [hW]
  go_wp2_with fail
  go_quiet (fail)
  go_wp2_with fail
  go_loopw [8] (fun i y => ∃ (m t : Nat), Q5 ≤ m ∧ m ≤ 32 ∧ i = .int .i64 m ∧ y = W.drewN t ∧ Hid (∀ j, Q5 ≤ j → j < m → AJ / 2 ^ j % 2 = N0 / 2 ^ j % 2)) (fun i _ => (32 - intOf i).toNat)
  case atStart => exact ⟨Q5, nq, by omega, HB.out, rfl, rfl, fun j h1 h2 => absurd h1 (by omega)⟩
  case round =>
    obtain ⟨m, t, hm1, hm2, rfl, rfl, HJ⟩ := hrel
    by_cases hm : m = 32
    · subst hm
      have hQ : OQ = true := HI.out.2 HJ.out
      subst hQ
      have Hr : Hid (r = (F, true)) := HH.out
      have z1 := hidOf2 (Qb.drawn HZ.out t)
      have s1 := hidOf2 (Da.drawn HS.out t)
      have t1 := hidOf2 (Two.drawn HT.out t)
      clear HJ HI HB HZ HS HT HH hm1 hm2
      by_cases h5 : Q5 = 0
      · subst h5
        by_cases h7 : Q7 < 3
        · have Hs : Hid (ts = { s with lk := 0, mode := 1 }) := by show _ = _; rw [HSS.out, if_pos rfl, if_pos rfl, if_pos h7]
          have d7 : decide ((Q7 : Int) < 3) = true := by simp only [decide_eq_true_eq]; omega
          have K := HK.out
          obtain ⟨V, hV⟩ : ∃ V, (((W.drewN t).setCell ⟨g, 14, none⟩ (.int .i64 (Q7 : Int))).setCell ⟨g, 14, none⟩ (.int .i64 0)).setCell ⟨g, 12, none⟩ (.int .i64 1) = V := ⟨_, rfl⟩
          have H2 : Hid (Da g { s with lk := 0, mode := 1 } V ∧ Two g g w V ∧ Qb (k + 1) F8.nul V) := by
            rw [← hV]
            exact ⟨Da.set (s := { s with lk := 0 }) (s' := { s with lk := 0, mode := 1 }) (Da.set (s := { s with lk := (Q7 : Int) }) (s' := { s with lk := 0 }) (Da.set s1.out rfl) rfl) rfl, ((t1.out.at0 _ _).at0 _ _).at0 _ _, z1.out.two ((((Two.refl g g _).at0 14 _).at0 14 _).at0 12 _) (by omega) (by omega)⟩
          have HVV := hidOf2 hV
          clear HSS h7 s1 t1 z1 K hV
          go_wp2_with fail
          rw [HVV.out]
          refine (HO.out _).mono ?_
          rintro e w2 ⟨rfl, B2⟩
          obtain ⟨e1, e2, e3⟩ := H2.out
          have z2 := e3.below B2
          go_wp2_with (first | (refine sdF (g := F) z2 rfl _ _ rfl rfl rfl ?_))
          exact bodyPost_ret (dscan_results (z2.row F) _ rfl rfl) rfl (PostD.mk Hr.out (by rw [Hs.out]; exact e1.below B2) z2 (two_below e2 B2) (by have := HK.out; omega))
        · have Hs : Hid (ts = { s with lk := (Q7 : Int) }) := by show _ = _; rw [HSS.out, if_pos rfl, if_pos rfl, if_neg h7]
          have d7 : decide ((Q7 : Int) < 3) = false := by simp only [decide_eq_false_iff_not]; omega
          have K := HK.out
          obtain ⟨V, hV⟩ : ∃ V, (W.drewN t).setCell ⟨g, 14, none⟩ (.int .i64 (Q7 : Int)) = V := ⟨_, rfl⟩
          have H2 : Hid (Da g { s with lk := (Q7 : Int) } V ∧ Two g g w V ∧ Qb (k + 1) F8.nul V) := by
            rw [← hV]
            exact ⟨Da.set s1.out rfl, t1.out.at0 _ _, z1.out.two ((Two.refl g g _).at0 14 _) (by omega) (by omega)⟩
          have HVV := hidOf2 hV
          clear HSS h7 s1 t1 z1 K hV
          go_wp2_with fail
          rw [HVV.out]
          refine (HO.out _).mono ?_
          rintro e w2 ⟨rfl, B2⟩
          obtain ⟨e1, e2, e3⟩ := H2.out
          have z2 := e3.below B2
          go_wp2_with (first | (refine sdF (g := F) z2 rfl _ _ rfl rfl rfl ?_))
          exact bodyPost_ret (dscan_results (z2.row F) _ rfl rfl) rfl (PostD.mk Hr.out (by rw [Hs.out]; exact e1.below B2) z2 (two_below e2 B2) (by have := HK.out; omega))
      · have Hs : Hid (ts = s) := by show _ = _; rw [HSS.out, if_pos rfl, if_neg h5]
        have d5 : ((Q5 : Int) == 0) = false := by simp; omega
        clear HSS h5
        go_wp2_with fail
        refine (HO.out _).mono ?_
        rintro e w2 ⟨rfl, B2⟩
        have z2 := z1.out.below B2
        go_wp2_with (first | (refine sdF (g := F) z2 rfl _ _ rfl rfl rfl ?_))
        exact bodyPost_ret (dscan_results (z2.row F) _ rfl rfl) rfl (PostD.mk Hr.out (by rw [Hs.out]; exact s1.out.below B2) z2 (two_below t1.out B2) (by have := HK.out; omega))
    · have dm : decide ((m : Int) < 32) = true := by simp; omega
      have wm : IntKind.u64.wrap (m : Int) = (m : Int) := by simp only [IntKind.wrap, IntKind.bits, IntKind.signed]; simp; omega
      by_cases he : AJ / 2 ^ m % 2 = N0 / 2 ^ m % 2
      · have HJ2 : Hid (∀ j, Q5 ≤ j → j < m + 1 → AJ / 2 ^ j % 2 = N0 / 2 ^ j % 2) := fun j h1 h2 => by
          by_cases e : j = m
          · rw [e]; exact he
          · exact HJ.out j h1 (by omega)
        have HM : Hid (Q5 ≤ m ∧ m < 32 ∧ AJ / 2 ^ m % 2 = N0 / 2 ^ m % 2) := ⟨hm1, by omega, he⟩
        clear HJ hm hm1 hm2 he
        have dx : Hid ((((AJ : Int) / 2 ^ min m 32).tmod 2 != ((N0 : Int) / 2 ^ min m 32).tmod 2) = false) := by
          have M := HM.out
          show _ = _
          rw [Nat.min_eq_left (by omega : m ≤ 32), show (2 : Int) ^ m = ((2 ^ m : Nat) : Int) by simp]
          rw [tmod2 AJ m, tmod2 N0 m, bne_eq_false_iff_eq, M.2.2]
        go_wp2_with fail
        go_quiet (fail)
        rw [dx.out]
        have M := HM.out
        have t1 := hidOf2 (Two.drawn HT.out t)
        clear dx HM
        go_wp2
        go_roundw
        case rel => exact ⟨m + 1, t + nq, by omega, by omega, by go_num, by simp [World.drewN, Nat.add_assoc], HJ2.out⟩
        case measure => simp [intOf]; omega
      · have hQ : OQ = false := by
          rw [Bool.eq_false_iff]
          intro h
          exact he (HI.out.1 h m hm1 (by omega))
        subst hQ
        have Hr : Hid (r = (F8.nul, false)) := HH.out
        have Hs : Hid (ts = s) := HSS.out
        have dx : Hid ((((AJ : Int) / 2 ^ min m 32).tmod 2 != ((N0 : Int) / 2 ^ min m 32).tmod 2) = true) := by
          show _ = _
          rw [Nat.min_eq_left hm2, show (2 : Int) ^ m = ((2 ^ m : Nat) : Int) by simp]
          rw [tmod2 AJ m, tmod2 N0 m, bne_iff_ne]
          intro e
          exact he (Int.ofNat.inj e)
        clear HJ hm hm1 hm2 he HI HH HSS HO
        go_wp2_with fail
        go_quiet (fail)
        rw [dx.out]
        have z2 : Qb (k + 1) F8.nul (W.drewN (t + nq)) := Qb.drawn HZ.out (t + nq)
        go_wp2_with (first | (refine sdF (g := F8.nul) z2 rfl _ _ rfl rfl rfl ?_))
        exact bodyPost_ret (dscan_results (z2.row F8.nul) _ rfl rfl) rfl (PostD.mk Hr.out (by rw [Hs.out]; exact (Da.drawn HS.out (t + nq))) z2 (HT.out.drawn (t + nq)) (by have := HK.out; omega))
theorem dscan_any (h : Da g s w) (ho : s.Ok) (q : F8) : Calls Try.prog 31 #[.pointer (some ⟨g, 0, none⟩), .agg q.arr, .int .u32 (numq q : Nat)] w (PostD g (s.scanS q) (s.scanA q) w) := by
  by_cases h1 : q.b5.toNat = 128
  · exact dscan_new h ho q h1
  by_cases h2 : q.b5.toNat ≤ 31
  · by_cases h3 : q.b6.toNat ≤ 3
    · by_cases h4 : q.b7.toNat ≤ 3
      · by_cases h5 : (q.b6.toNat : Int) = s.lk
        · obtain e | e | e | e : q.b6.toNat = 0 ∨ q.b6.toNat = 1 ∨ q.b6.toNat = 2 ∨ q.b6.toNat = 3 := by omega
          · exact dscan_in0 h ho q h1 h2 e (by omega) h4
          · exact dscan_in1 h ho q h1 h2 e (by omega) h4
          · exact dscan_in2 h ho q h1 h2 e (by omega) h4
          · exact dscan_in3 h ho q h1 h2 e (by omega) h4
        · exact dscan_b4 h ho q h1 h2 h3 h4 h5
      · exact dscan_b3 h ho q h1 h2 h3 (by omega)
    · exact dscan_b2 h ho q h1 h2 (by omega)
  · exact dscan_b1 h ho q h1 (by omega)
end
end Go.Proofs.Ythbmbabndhpdkaa
