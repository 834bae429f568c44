/- The document's slave takes a command; it begins anew; a new one. -/
import Derived.Test.YthbmbabndhpdkaaLsK
namespace Go.Proofs.Ythbmbabndhpdkaa
open Go.RowKit
set_option linter.unusedVariables false
set_option maxRecDepth 1000000
set_option linter.unusedSimpArgs false
section
variable {g : Nat} {s : Ld} {w x : World}
theorem dtake_results {Q : Nat} {f : F8} {b : Bool} {w : World} (h : Qb Q f w) (tmps : Array Value) (h2 : tmps[4]?.getD undef = .pointer (some ⟨Q, 0, none⟩)) (h3 : tmps[5]?.getD undef = .bool b) :
    (results Try.f22 tmps).run Try.prog w = .ok (.tuple #[.agg f.arr, .bool b]) w := by
  have l0 := h.load
  simp [Go.results, Try.results22, h2, h3, asAddr, l0]
theorem free_cases (s : Ld) : (s.bare = true ∧ s.ip = 0 ∧ s.iu = 0) ∨ (s.bare = false ∧ (s.ip == 0) = false) ∨ (s.bare = false ∧ s.ip = 0 ∧ (s.iu == 0) = false) := by
  unfold Ld.bare
  by_cases h1 : s.ip = 0
  · by_cases h2 : s.iu = 0
    · exact .inl ⟨by simp [h1, h2], h1, h2⟩
    · exact .inr (.inr ⟨by simp [h2], h1, by simp [h2]⟩)
  · exact .inr (.inl ⟨by simp [h1], by simp [h1]⟩)
set_option maxHeartbeats 4000000 in
theorem dt4_a (h : Da g s w) (ho : s.Ok) (q : F8) (h1 : q.b0.toNat = 4) (h2 : q.b1.toNat = 0) (h3 : s.iu = 0) : Calls Try.prog 22 #[.pointer (some ⟨g, 0, none⟩), .agg q.arr] w (PostD g (s.takeS q) (s.takeA q) w) := by
  obtain ⟨W, k, hW, hk, q0, z0, b0, hkl⟩ := Qb.fresh2 w q
  have hgk : g < k := by rw [← hk]; exact h.lt
  have T0 : Two g g w W := by rw [← hW]; exact ((Two.refl _ _ _).alloc _).alloc _
  have S0 : Da g s W := h.below b0
  have u0 := q0.c0
  have u1 := q0.c1
  have u2 := q0.c2
  have u3 := q0.c3
  have u4 := q0.c4
  have l1 := q.b1.toNat_lt
  have l2 := q.b2.toNat_lt
  have l3 := q.b3.toNat_lt
  have l4 := q.b4.toNat_lt
  have lW : ∀ m, (loadVar 34 ⟨k, 0, none⟩).run Try.prog (W.drewN m) = .ok (.agg q.arr) (W.drewN m) := fun m => (Qb.drawn q0 m).load
  have hNq : Hid ((q.b1.toNat : Int) + 256 * (q.b2.toNat : Int) + 65536 * (q.b3.toNat : Int) + 16777216 * (q.b4.toNat : Int) = ((numq q : Nat) : Int)) := by show _ = _; unfold numq; omega
  have w1 : IntKind.u32.wrap (256 * (q.b2.toNat : Int)) = 256 * (q.b2.toNat : Int) := by have := wrapU32 (256 * q.b2.toNat) (by omega); simpa using this
  have w2 : IntKind.u32.wrap ((q.b1.toNat : Int) + 256 * (q.b2.toNat : Int)) = (q.b1.toNat : Int) + 256 * (q.b2.toNat : Int) := by have := wrapU32 (q.b1.toNat + 256 * q.b2.toNat) (by omega); simpa using this
  have w3 : IntKind.u32.wrap (65536 * (q.b3.toNat : Int)) = 65536 * (q.b3.toNat : Int) := by have := wrapU32 (65536 * q.b3.toNat) (by omega); simpa using this
  have w4 : IntKind.u32.wrap ((q.b1.toNat : Int) + 256 * (q.b2.toNat : Int) + 65536 * (q.b3.toNat : Int)) = (q.b1.toNat : Int) + 256 * (q.b2.toNat : Int) + 65536 * (q.b3.toNat : Int) := by have := wrapU32 (q.b1.toNat + 256 * q.b2.toNat + 65536 * q.b3.toNat) (by omega); simpa using this
  have w5 : IntKind.u32.wrap (16777216 * (q.b4.toNat : Int)) = 16777216 * (q.b4.toNat : Int) := by have := wrapU32 (16777216 * q.b4.toNat) (by omega); simpa using this
  have w6 : IntKind.u32.wrap ((q.b1.toNat : Int) + 256 * (q.b2.toNat : Int) + 65536 * (q.b3.toNat : Int) + 16777216 * (q.b4.toNat : Int)) = (q.b1.toNat : Int) + 256 * (q.b2.toNat : Int) + 65536 * (q.b3.toNat : Int) + 16777216 * (q.b4.toNat : Int) := by have := wrapU32 (q.b1.toNat + 256 * q.b2.toNat + 65536 * q.b3.toNat + 16777216 * q.b4.toNat) (by omega); simpa using this
  obtain ⟨_, _, _, _, c4, _, c6, _, _, _, _, _, c12, _, _, hf⟩ := S0.cells
  have f6 := hf 6
  have f12 := hf 12
  have HS := hidOf2 S0
  have HT := hidOf2 T0
  have HZ := hidOf2 z0
  have HK : Hid (w.heap.size = k ∧ g < k ∧ k + 1 < W.heap.size) := ⟨hk, hgk, hkl⟩
  have eS : s.takeS q = { s with mode := 0, iu := s.ip } := by unfold Ld.takeS; rw [if_pos h1]; rw [h2]; simp [Ld.set, h3]
  have eA : s.takeA q = (F8.nul, false) := by unfold Ld.takeA; rw [if_pos h1]
  rw [eS, eA]
  have HH : Hid (∀ nq, Da g { s with mode := 0, iu := s.ip } (((W.drewN nq).setCell ⟨g, 12, none⟩ (.int .i64 0)).setCell ⟨g, 6, none⟩ (.int .i64 s.ip)) ∧ Two g g w (((W.drewN nq).setCell ⟨g, 12, none⟩ (.int .i64 0)).setCell ⟨g, 6, none⟩ (.int .i64 s.ip)) ∧ Qb (k + 1) F8.nul (((W.drewN nq).setCell ⟨g, 12, none⟩ (.int .i64 0)).setCell ⟨g, 6, none⟩ (.int .i64 s.ip))) := fun nq => ⟨Da.set (s := { s with mode := 0 }) (s' := { s with mode := 0, iu := s.ip }) (Da.set (S0.drawn nq) rfl) rfl, ((T0.drawn nq).at0 _ _).at0 _ _, (z0.drawn nq).two (((Two.refl g g _).at0 12 _).at0 6 _) (by omega) (by omega)⟩
  rw [h1] at u0
  rw [h2] at u1
  rw [h3] at c6
  generalize q.b1.toNat = B1 at *
  generalize q.b2.toNat = B2 at *
  generalize q.b3.toNat = B3 at *
  generalize q.b4.toNat = B4 at *
  generalize hN0 : numq q = N0 at *
  clear hN0 h S0 T0 z0 q0 b0 hf hgk hkl ho h1 eS eA h2 h3
  go_enter Try.func22, Try.ntmps22
  go_upto_region 1 with fail
  change Code.wp Try.prog _ _ _ ((w.alloc (.cells q.arr 34)).alloc (.cells zA8 34))
  rw [hW]
  go_quiet (fail)
  try rw [hNq.out]
  have z2 := (HH.out nq).2.2
  go_wp2_with (first | (refine sdF (g := F8.nul) z2 rfl _ _ rfl rfl rfl ?_))
  exact bodyPost_ret (dtake_results (z2.row F8.nul) _ rfl rfl) rfl (PostD.mk rfl (HH.out nq).1 z2 (HH.out nq).2.1 (by have := HK.out; omega))
set_option maxHeartbeats 4000000 in
theorem dt4_b (h : Da g s w) (ho : s.Ok) (q : F8) (h1 : q.b0.toNat = 4) (h2 : q.b1.toNat = 0) (h3 : s.iu ≠ 0) : Calls Try.prog 22 #[.pointer (some ⟨g, 0, none⟩), .agg q.arr] w (PostD g (s.takeS q) (s.takeA q) w) := by
  obtain ⟨W, k, hW, hk, q0, z0, b0, hkl⟩ := Qb.fresh2 w q
  have hgk : g < k := by rw [← hk]; exact h.lt
  have T0 : Two g g w W := by rw [← hW]; exact ((Two.refl _ _ _).alloc _).alloc _
  have S0 : Da g s W := h.below b0
  have u0 := q0.c0
  have u1 := q0.c1
  have u2 := q0.c2
  have u3 := q0.c3
  have u4 := q0.c4
  have l1 := q.b1.toNat_lt
  have l2 := q.b2.toNat_lt
  have l3 := q.b3.toNat_lt
  have l4 := q.b4.toNat_lt
  have lW : ∀ m, (loadVar 34 ⟨k, 0, none⟩).run Try.prog (W.drewN m) = .ok (.agg q.arr) (W.drewN m) := fun m => (Qb.drawn q0 m).load
  have hNq : Hid ((q.b1.toNat : Int) + 256 * (q.b2.toNat : Int) + 65536 * (q.b3.toNat : Int) + 16777216 * (q.b4.toNat : Int) = ((numq q : Nat) : Int)) := by show _ = _; unfold numq; omega
  have w1 : IntKind.u32.wrap (256 * (q.b2.toNat : Int)) = 256 * (q.b2.toNat : Int) := by have := wrapU32 (256 * q.b2.toNat) (by omega); simpa using this
  have w2 : IntKind.u32.wrap ((q.b1.toNat : Int) + 256 * (q.b2.toNat : Int)) = (q.b1.toNat : Int) + 256 * (q.b2.toNat : Int) := by have := wrapU32 (q.b1.toNat + 256 * q.b2.toNat) (by omega); simpa using this
  have w3 : IntKind.u32.wrap (65536 * (q.b3.toNat : Int)) = 65536 * (q.b3.toNat : Int) := by have := wrapU32 (65536 * q.b3.toNat) (by omega); simpa using this
  have w4 : IntKind.u32.wrap ((q.b1.toNat : Int) + 256 * (q.b2.toNat : Int) + 65536 * (q.b3.toNat : Int)) = (q.b1.toNat : Int) + 256 * (q.b2.toNat : Int) + 65536 * (q.b3.toNat : Int) := by have := wrapU32 (q.b1.toNat + 256 * q.b2.toNat + 65536 * q.b3.toNat) (by omega); simpa using this
  have w5 : IntKind.u32.wrap (16777216 * (q.b4.toNat : Int)) = 16777216 * (q.b4.toNat : Int) := by have := wrapU32 (16777216 * q.b4.toNat) (by omega); simpa using this
  have w6 : IntKind.u32.wrap ((q.b1.toNat : Int) + 256 * (q.b2.toNat : Int) + 65536 * (q.b3.toNat : Int) + 16777216 * (q.b4.toNat : Int)) = (q.b1.toNat : Int) + 256 * (q.b2.toNat : Int) + 65536 * (q.b3.toNat : Int) + 16777216 * (q.b4.toNat : Int) := by have := wrapU32 (q.b1.toNat + 256 * q.b2.toNat + 65536 * q.b3.toNat + 16777216 * q.b4.toNat) (by omega); simpa using this
  obtain ⟨_, _, _, _, c4, _, c6, _, _, _, _, _, c12, _, _, hf⟩ := S0.cells
  have f6 := hf 6
  have f12 := hf 12
  have HS := hidOf2 S0
  have HT := hidOf2 T0
  have HZ := hidOf2 z0
  have HK : Hid (w.heap.size = k ∧ g < k ∧ k + 1 < W.heap.size) := ⟨hk, hgk, hkl⟩
  have eS : s.takeS q = { s with mode := 0 } := by unfold Ld.takeS; rw [if_pos h1]; rw [h2]; simp [Ld.set, h3]
  have eA : s.takeA q = (F8.nul, false) := by unfold Ld.takeA; rw [if_pos h1]
  rw [eS, eA]
  have HH : Hid (∀ nq, Da g { s with mode := 0 } ((W.drewN nq).setCell ⟨g, 12, none⟩ (.int .i64 0)) ∧ Two g g w ((W.drewN nq).setCell ⟨g, 12, none⟩ (.int .i64 0)) ∧ Qb (k + 1) F8.nul ((W.drewN nq).setCell ⟨g, 12, none⟩ (.int .i64 0))) := fun nq => ⟨Da.set (S0.drawn nq) rfl, (T0.drawn nq).at0 _ _, (z0.drawn nq).two ((Two.refl g g _).at0 12 _) (by omega) (by omega)⟩
  rw [h1] at u0
  rw [h2] at u1
  have d3 : (s.iu == 0) = false := by simp [h3]
  generalize q.b1.toNat = B1 at *
  generalize q.b2.toNat = B2 at *
  generalize q.b3.toNat = B3 at *
  generalize q.b4.toNat = B4 at *
  generalize hN0 : numq q = N0 at *
  clear hN0 h S0 T0 z0 q0 b0 hf hgk hkl ho h1 eS eA h2 h3
  go_enter Try.func22, Try.ntmps22
  go_upto_region 1 with fail
  change Code.wp Try.prog _ _ _ ((w.alloc (.cells q.arr 34)).alloc (.cells zA8 34))
  rw [hW]
  go_quiet (fail)
  try rw [hNq.out]
  have z2 := (HH.out nq).2.2
  go_wp2_with (first | (refine sdF (g := F8.nul) z2 rfl _ _ rfl rfl rfl ?_))
  exact bodyPost_ret (dtake_results (z2.row F8.nul) _ rfl rfl) rfl (PostD.mk rfl (HH.out nq).1 z2 (HH.out nq).2.1 (by have := HK.out; omega))
set_option maxHeartbeats 4000000 in
theorem dt4_c (h : Da g s w) (ho : s.Ok) (q : F8) (h1 : q.b0.toNat = 4) (h2 : q.b1.toNat = 1) : Calls Try.prog 22 #[.pointer (some ⟨g, 0, none⟩), .agg q.arr] w (PostD g (s.takeS q) (s.takeA q) w) := by
  obtain ⟨W, k, hW, hk, q0, z0, b0, hkl⟩ := Qb.fresh2 w q
  have hgk : g < k := by rw [← hk]; exact h.lt
  have T0 : Two g g w W := by rw [← hW]; exact ((Two.refl _ _ _).alloc _).alloc _
  have S0 : Da g s W := h.below b0
  have u0 := q0.c0
  have u1 := q0.c1
  have u2 := q0.c2
  have u3 := q0.c3
  have u4 := q0.c4
  have l1 := q.b1.toNat_lt
  have l2 := q.b2.toNat_lt
  have l3 := q.b3.toNat_lt
  have l4 := q.b4.toNat_lt
  have lW : ∀ m, (loadVar 34 ⟨k, 0, none⟩).run Try.prog (W.drewN m) = .ok (.agg q.arr) (W.drewN m) := fun m => (Qb.drawn q0 m).load
  have hNq : Hid ((q.b1.toNat : Int) + 256 * (q.b2.toNat : Int) + 65536 * (q.b3.toNat : Int) + 16777216 * (q.b4.toNat : Int) = ((numq q : Nat) : Int)) := by show _ = _; unfold numq; omega
  have w1 : IntKind.u32.wrap (256 * (q.b2.toNat : Int)) = 256 * (q.b2.toNat : Int) := by have := wrapU32 (256 * q.b2.toNat) (by omega); simpa using this
  have w2 : IntKind.u32.wrap ((q.b1.toNat : Int) + 256 * (q.b2.toNat : Int)) = (q.b1.toNat : Int) + 256 * (q.b2.toNat : Int) := by have := wrapU32 (q.b1.toNat + 256 * q.b2.toNat) (by omega); simpa using this
  have w3 : IntKind.u32.wrap (65536 * (q.b3.toNat : Int)) = 65536 * (q.b3.toNat : Int) := by have := wrapU32 (65536 * q.b3.toNat) (by omega); simpa using this
  have w4 : IntKind.u32.wrap ((q.b1.toNat : Int) + 256 * (q.b2.toNat : Int) + 65536 * (q.b3.toNat : Int)) = (q.b1.toNat : Int) + 256 * (q.b2.toNat : Int) + 65536 * (q.b3.toNat : Int) := by have := wrapU32 (q.b1.toNat + 256 * q.b2.toNat + 65536 * q.b3.toNat) (by omega); simpa using this
  have w5 : IntKind.u32.wrap (16777216 * (q.b4.toNat : Int)) = 16777216 * (q.b4.toNat : Int) := by have := wrapU32 (16777216 * q.b4.toNat) (by omega); simpa using this
  have w6 : IntKind.u32.wrap ((q.b1.toNat : Int) + 256 * (q.b2.toNat : Int) + 65536 * (q.b3.toNat : Int) + 16777216 * (q.b4.toNat : Int)) = (q.b1.toNat : Int) + 256 * (q.b2.toNat : Int) + 65536 * (q.b3.toNat : Int) + 16777216 * (q.b4.toNat : Int) := by have := wrapU32 (q.b1.toNat + 256 * q.b2.toNat + 65536 * q.b3.toNat + 16777216 * q.b4.toNat) (by omega); simpa using this
  obtain ⟨_, _, _, _, c4, _, c6, _, _, _, _, _, c12, _, _, hf⟩ := S0.cells
  have f6 := hf 6
  have f12 := hf 12
  have HS := hidOf2 S0
  have HT := hidOf2 T0
  have HZ := hidOf2 z0
  have HK : Hid (w.heap.size = k ∧ g < k ∧ k + 1 < W.heap.size) := ⟨hk, hgk, hkl⟩
  have eS : s.takeS q = { s with mode := 1 } := by unfold Ld.takeS; rw [if_pos h1]; rw [h2]; rfl
  have eA : s.takeA q = (F8.nul, false) := by unfold Ld.takeA; rw [if_pos h1]
  rw [eS, eA]
  have HH : Hid (∀ nq, Da g { s with mode := 1 } ((W.drewN nq).setCell ⟨g, 12, none⟩ (.int .i64 1)) ∧ Two g g w ((W.drewN nq).setCell ⟨g, 12, none⟩ (.int .i64 1)) ∧ Qb (k + 1) F8.nul ((W.drewN nq).setCell ⟨g, 12, none⟩ (.int .i64 1))) := fun nq => ⟨Da.set (S0.drawn nq) rfl, (T0.drawn nq).at0 _ _, (z0.drawn nq).two ((Two.refl g g _).at0 12 _) (by omega) (by omega)⟩
  rw [h1] at u0
  rw [h2] at u1
  generalize q.b1.toNat = B1 at *
  generalize q.b2.toNat = B2 at *
  generalize q.b3.toNat = B3 at *
  generalize q.b4.toNat = B4 at *
  generalize hN0 : numq q = N0 at *
  clear hN0 h S0 T0 z0 q0 b0 hf hgk hkl ho h1 eS eA h2
  go_enter Try.func22, Try.ntmps22
  go_upto_region 1 with fail
  change Code.wp Try.prog _ _ _ ((w.alloc (.cells q.arr 34)).alloc (.cells zA8 34))
  rw [hW]
  go_quiet (fail)
  try rw [hNq.out]
  have z2 := (HH.out nq).2.2
  go_wp2_with (first | (refine sdF (g := F8.nul) z2 rfl _ _ rfl rfl rfl ?_))
  exact bodyPost_ret (dtake_results (z2.row F8.nul) _ rfl rfl) rfl (PostD.mk rfl (HH.out nq).1 z2 (HH.out nq).2.1 (by have := HK.out; omega))
set_option maxHeartbeats 4000000 in
theorem dt4_d (h : Da g s w) (ho : s.Ok) (q : F8) (h1 : q.b0.toNat = 4) (h2 : q.b1.toNat ≠ 0) (h3 : q.b1.toNat ≠ 1) : Calls Try.prog 22 #[.pointer (some ⟨g, 0, none⟩), .agg q.arr] w (PostD g (s.takeS q) (s.takeA q) w) := by
  obtain ⟨W, k, hW, hk, q0, z0, b0, hkl⟩ := Qb.fresh2 w q
  have hgk : g < k := by rw [← hk]; exact h.lt
  have T0 : Two g g w W := by rw [← hW]; exact ((Two.refl _ _ _).alloc _).alloc _
  have S0 : Da g s W := h.below b0
  have u0 := q0.c0
  have u1 := q0.c1
  have u2 := q0.c2
  have u3 := q0.c3
  have u4 := q0.c4
  have l1 := q.b1.toNat_lt
  have l2 := q.b2.toNat_lt
  have l3 := q.b3.toNat_lt
  have l4 := q.b4.toNat_lt
  have lW : ∀ m, (loadVar 34 ⟨k, 0, none⟩).run Try.prog (W.drewN m) = .ok (.agg q.arr) (W.drewN m) := fun m => (Qb.drawn q0 m).load
  have hNq : Hid ((q.b1.toNat : Int) + 256 * (q.b2.toNat : Int) + 65536 * (q.b3.toNat : Int) + 16777216 * (q.b4.toNat : Int) = ((numq q : Nat) : Int)) := by show _ = _; unfold numq; omega
  have w1 : IntKind.u32.wrap (256 * (q.b2.toNat : Int)) = 256 * (q.b2.toNat : Int) := by have := wrapU32 (256 * q.b2.toNat) (by omega); simpa using this
  have w2 : IntKind.u32.wrap ((q.b1.toNat : Int) + 256 * (q.b2.toNat : Int)) = (q.b1.toNat : Int) + 256 * (q.b2.toNat : Int) := by have := wrapU32 (q.b1.toNat + 256 * q.b2.toNat) (by omega); simpa using this
  have w3 : IntKind.u32.wrap (65536 * (q.b3.toNat : Int)) = 65536 * (q.b3.toNat : Int) := by have := wrapU32 (65536 * q.b3.toNat) (by omega); simpa using this
  have w4 : IntKind.u32.wrap ((q.b1.toNat : Int) + 256 * (q.b2.toNat : Int) + 65536 * (q.b3.toNat : Int)) = (q.b1.toNat : Int) + 256 * (q.b2.toNat : Int) + 65536 * (q.b3.toNat : Int) := by have := wrapU32 (q.b1.toNat + 256 * q.b2.toNat + 65536 * q.b3.toNat) (by omega); simpa using this
  have w5 : IntKind.u32.wrap (16777216 * (q.b4.toNat : Int)) = 16777216 * (q.b4.toNat : Int) := by have := wrapU32 (16777216 * q.b4.toNat) (by omega); simpa using this
  have w6 : IntKind.u32.wrap ((q.b1.toNat : Int) + 256 * (q.b2.toNat : Int) + 65536 * (q.b3.toNat : Int) + 16777216 * (q.b4.toNat : Int)) = (q.b1.toNat : Int) + 256 * (q.b2.toNat : Int) + 65536 * (q.b3.toNat : Int) + 16777216 * (q.b4.toNat : Int) := by have := wrapU32 (q.b1.toNat + 256 * q.b2.toNat + 65536 * q.b3.toNat + 16777216 * q.b4.toNat) (by omega); simpa using this
  obtain ⟨_, _, _, _, c4, _, c6, _, _, _, _, _, c12, _, _, hf⟩ := S0.cells
  have f6 := hf 6
  have f12 := hf 12
  have HS := hidOf2 S0
  have HT := hidOf2 T0
  have HZ := hidOf2 z0
  have HK : Hid (w.heap.size = k ∧ g < k ∧ k + 1 < W.heap.size) := ⟨hk, hgk, hkl⟩
  have eS : s.takeS q = s := by unfold Ld.takeS; rw [if_pos h1]; simp [Ld.set, h2, h3]
  have eA : s.takeA q = (F8.nul, false) := by unfold Ld.takeA; rw [if_pos h1]
  rw [eS, eA]
  have HH : Hid (∀ nq, Da g s (W.drewN nq) ∧ Two g g w (W.drewN nq) ∧ Qb (k + 1) F8.nul (W.drewN nq)) := fun nq => ⟨S0.drawn nq, T0.drawn nq, z0.drawn nq⟩
  rw [h1] at u0
  have d0 : ((q.b1.toNat : Int) == 0) = false := by simp; omega
  have d1 : ((q.b1.toNat : Int) == 1) = false := by simp; omega
  generalize q.b1.toNat = B1 at *
  generalize q.b2.toNat = B2 at *
  generalize q.b3.toNat = B3 at *
  generalize q.b4.toNat = B4 at *
  generalize hN0 : numq q = N0 at *
  clear hN0 h S0 T0 z0 q0 b0 hf hgk hkl ho h1 eS eA h2 h3
  go_enter Try.func22, Try.ntmps22
  go_upto_region 1 with fail
  change Code.wp Try.prog _ _ _ ((w.alloc (.cells q.arr 34)).alloc (.cells zA8 34))
  rw [hW]
  go_quiet (fail)
  try rw [hNq.out]
  have z2 := (HH.out nq).2.2
  go_wp2_with (first | (refine sdF (g := F8.nul) z2 rfl _ _ rfl rfl rfl ?_))
  exact bodyPost_ret (dtake_results (z2.row F8.nul) _ rfl rfl) rfl (PostD.mk rfl (HH.out nq).1 z2 (HH.out nq).2.1 (by have := HK.out; omega))
set_option maxHeartbeats 4000000 in
theorem dt76 (h : Da g s w) (ho : s.Ok) (q : F8) (h1 : q.b0.toNat = 76) (h2 : s.bare = true) : Calls Try.prog 22 #[.pointer (some ⟨g, 0, none⟩), .agg q.arr] w (PostD g (s.takeS q) (s.takeA q) w) := by
  obtain ⟨W, k, hW, hk, q0, z0, b0, hkl⟩ := Qb.fresh2 w q
  have hgk : g < k := by rw [← hk]; exact h.lt
  have T0 : Two g g w W := by rw [← hW]; exact ((Two.refl _ _ _).alloc _).alloc _
  have S0 : Da g s W := h.below b0
  have u0 := q0.c0
  have u1 := q0.c1
  have u2 := q0.c2
  have u3 := q0.c3
  have u4 := q0.c4
  have l1 := q.b1.toNat_lt
  have l2 := q.b2.toNat_lt
  have l3 := q.b3.toNat_lt
  have l4 := q.b4.toNat_lt
  have lW : ∀ m, (loadVar 34 ⟨k, 0, none⟩).run Try.prog (W.drewN m) = .ok (.agg q.arr) (W.drewN m) := fun m => (Qb.drawn q0 m).load
  have hNq : Hid ((q.b1.toNat : Int) + 256 * (q.b2.toNat : Int) + 65536 * (q.b3.toNat : Int) + 16777216 * (q.b4.toNat : Int) = ((numq q : Nat) : Int)) := by show _ = _; unfold numq; omega
  have w1 : IntKind.u32.wrap (256 * (q.b2.toNat : Int)) = 256 * (q.b2.toNat : Int) := by have := wrapU32 (256 * q.b2.toNat) (by omega); simpa using this
  have w2 : IntKind.u32.wrap ((q.b1.toNat : Int) + 256 * (q.b2.toNat : Int)) = (q.b1.toNat : Int) + 256 * (q.b2.toNat : Int) := by have := wrapU32 (q.b1.toNat + 256 * q.b2.toNat) (by omega); simpa using this
  have w3 : IntKind.u32.wrap (65536 * (q.b3.toNat : Int)) = 65536 * (q.b3.toNat : Int) := by have := wrapU32 (65536 * q.b3.toNat) (by omega); simpa using this
  have w4 : IntKind.u32.wrap ((q.b1.toNat : Int) + 256 * (q.b2.toNat : Int) + 65536 * (q.b3.toNat : Int)) = (q.b1.toNat : Int) + 256 * (q.b2.toNat : Int) + 65536 * (q.b3.toNat : Int) := by have := wrapU32 (q.b1.toNat + 256 * q.b2.toNat + 65536 * q.b3.toNat) (by omega); simpa using this
  have w5 : IntKind.u32.wrap (16777216 * (q.b4.toNat : Int)) = 16777216 * (q.b4.toNat : Int) := by have := wrapU32 (16777216 * q.b4.toNat) (by omega); simpa using this
  have w6 : IntKind.u32.wrap ((q.b1.toNat : Int) + 256 * (q.b2.toNat : Int) + 65536 * (q.b3.toNat : Int) + 16777216 * (q.b4.toNat : Int)) = (q.b1.toNat : Int) + 256 * (q.b2.toNat : Int) + 65536 * (q.b3.toNat : Int) + 16777216 * (q.b4.toNat : Int) := by have := wrapU32 (q.b1.toNat + 256 * q.b2.toNat + 65536 * q.b3.toNat + 16777216 * q.b4.toNat) (by omega); simpa using this
  obtain ⟨_, _, _, _, c4, _, c6, _, _, _, _, _, c12, _, _, hf⟩ := S0.cells
  have f6 := hf 6
  have f12 := hf 12
  have HS := hidOf2 S0
  have HT := hidOf2 T0
  have HZ := hidOf2 z0
  have HK : Hid (w.heap.size = k ∧ g < k ∧ k + 1 < W.heap.size) := ⟨hk, hgk, hkl⟩
  have eS : s.takeS q = s := by unfold Ld.takeS; rw [if_neg (by omega), if_pos ⟨h1, h2⟩]
  have eA : s.takeA q = (ordF 80 0, true) := by unfold Ld.takeA; rw [if_neg (by omega), if_pos ⟨h1, h2⟩]
  rw [eS, eA]
  have hb : s.ip = 0 ∧ s.iu = 0 := by simpa [Ld.bare] using h2
  rw [h1] at u0
  rw [hb.1] at c4
  rw [hb.2] at c6
  have hO : Hid (∀ x, Calls Try.prog 14 #[.int .u8 80, .int .u32 0] x fun e w' => e = .returned (.agg (ordF 80 0).arr) ∧ Below x.heap.size x w') := fun x => dorder_any 80 0 x (by omega) (by omega)
  generalize ordF 80 0 = F at *
  generalize q.b1.toNat = B1 at *
  generalize q.b2.toNat = B2 at *
  generalize q.b3.toNat = B3 at *
  generalize q.b4.toNat = B4 at *
  generalize hN0 : numq q = N0 at *
  clear hN0 h S0 T0 z0 q0 b0 hf hgk hkl ho h1 h2 hb eS eA
  go_enter Try.func22, Try.ntmps22
  go_upto_region 1 with fail
  change Code.wp Try.prog _ _ _ ((w.alloc (.cells q.arr 34)).alloc (.cells zA8 34))
  rw [hW]
  go_quiet (fail)
  try rw [hNq.out]
  go_wp2_with fail
  refine (hO.out _).mono ?_
  rintro e w2 ⟨rfl, B2⟩
  have z2 := (Qb.drawn HZ.out nq).below B2
  go_wp2_with (first | (refine sdF (g := F) z2 rfl _ _ rfl rfl rfl ?_))
  exact bodyPost_ret (dtake_results (z2.row F) _ rfl rfl) rfl (PostD.mk rfl ((HS.out.drawn nq).below B2) z2 (two_below (HT.out.drawn nq) B2) (by have := HK.out; omega))
set_option maxHeartbeats 4000000 in
theorem dtc_o_y (h : Da g s w) (ho : s.Ok) (q : F8) (h4 : q.b0.toNat ≠ 4) (h76 : q.b0.toNat ≠ 76) (hm : s.mode = 1) (hb : s.bare = true) : Calls Try.prog 22 #[.pointer (some ⟨g, 0, none⟩), .agg q.arr] w (PostD g (s.takeS q) (s.takeA q) w) := by
  obtain ⟨W, k, hW, hk, q0, z0, b0, hkl⟩ := Qb.fresh2 w q
  have hgk : g < k := by rw [← hk]; exact h.lt
  have T0 : Two g g w W := by rw [← hW]; exact ((Two.refl _ _ _).alloc _).alloc _
  have S0 : Da g s W := h.below b0
  have u0 := q0.c0
  have u1 := q0.c1
  have u2 := q0.c2
  have u3 := q0.c3
  have u4 := q0.c4
  have l1 := q.b1.toNat_lt
  have l2 := q.b2.toNat_lt
  have l3 := q.b3.toNat_lt
  have l4 := q.b4.toNat_lt
  have lW : ∀ m, (loadVar 34 ⟨k, 0, none⟩).run Try.prog (W.drewN m) = .ok (.agg q.arr) (W.drewN m) := fun m => (Qb.drawn q0 m).load
  have hNq : Hid ((q.b1.toNat : Int) + 256 * (q.b2.toNat : Int) + 65536 * (q.b3.toNat : Int) + 16777216 * (q.b4.toNat : Int) = ((numq q : Nat) : Int)) := by show _ = _; unfold numq; omega
  have w1 : IntKind.u32.wrap (256 * (q.b2.toNat : Int)) = 256 * (q.b2.toNat : Int) := by have := wrapU32 (256 * q.b2.toNat) (by omega); simpa using this
  have w2 : IntKind.u32.wrap ((q.b1.toNat : Int) + 256 * (q.b2.toNat : Int)) = (q.b1.toNat : Int) + 256 * (q.b2.toNat : Int) := by have := wrapU32 (q.b1.toNat + 256 * q.b2.toNat) (by omega); simpa using this
  have w3 : IntKind.u32.wrap (65536 * (q.b3.toNat : Int)) = 65536 * (q.b3.toNat : Int) := by have := wrapU32 (65536 * q.b3.toNat) (by omega); simpa using this
  have w4 : IntKind.u32.wrap ((q.b1.toNat : Int) + 256 * (q.b2.toNat : Int) + 65536 * (q.b3.toNat : Int)) = (q.b1.toNat : Int) + 256 * (q.b2.toNat : Int) + 65536 * (q.b3.toNat : Int) := by have := wrapU32 (q.b1.toNat + 256 * q.b2.toNat + 65536 * q.b3.toNat) (by omega); simpa using this
  have w5 : IntKind.u32.wrap (16777216 * (q.b4.toNat : Int)) = 16777216 * (q.b4.toNat : Int) := by have := wrapU32 (16777216 * q.b4.toNat) (by omega); simpa using this
  have w6 : IntKind.u32.wrap ((q.b1.toNat : Int) + 256 * (q.b2.toNat : Int) + 65536 * (q.b3.toNat : Int) + 16777216 * (q.b4.toNat : Int)) = (q.b1.toNat : Int) + 256 * (q.b2.toNat : Int) + 65536 * (q.b3.toNat : Int) + 16777216 * (q.b4.toNat : Int) := by have := wrapU32 (q.b1.toNat + 256 * q.b2.toNat + 65536 * q.b3.toNat + 16777216 * q.b4.toNat) (by omega); simpa using this
  obtain ⟨_, _, _, _, c4, _, c6, _, _, _, _, _, c12, _, _, hf⟩ := S0.cells
  have f6 := hf 6
  have f12 := hf 12
  have HS := hidOf2 S0
  have HT := hidOf2 T0
  have HZ := hidOf2 z0
  have HK : Hid (w.heap.size = k ∧ g < k ∧ k + 1 < W.heap.size) := ⟨hk, hgk, hkl⟩
  have eS : s.takeS q = s.confS q := by unfold Ld.takeS; rw [if_neg h4, if_neg (fun x => h76 x.1), if_pos hm]
  have eA : s.takeA q = s.confA q := by unfold Ld.takeA; rw [if_neg h4, if_neg (fun x => h76 x.1), if_pos hm]
  rw [eS, eA]
  have hP : Hid (∀ m, Calls Try.prog 29 #[.pointer (some ⟨g, 0, none⟩), .agg q.arr] (W.drewN m) (PostD g (s.confS q) (s.confA q) (W.drewN m))) := fun m => dset_any (S0.drawn m) ho q
  obtain ⟨⟨F, b⟩, hF⟩ : ∃ f, s.confA q = f := ⟨_, rfl⟩
  rw [hF] at hP ⊢
  generalize s.confS q = PS at *
  rw [hm] at c12
  have hbb : s.ip = 0 ∧ s.iu = 0 := by simpa [Ld.bare] using hb
  rw [hbb.1] at c4
  rw [hbb.2] at c6
  clear hbb
  have d4 : ((q.b0.toNat : Int) == 4) = false := by simp; omega
  have d76 : ((q.b0.toNat : Int) == 76) = false := by simp; omega
  generalize q.b0.toNat = M at *
  generalize q.b1.toNat = B1 at *
  generalize q.b2.toNat = B2 at *
  generalize q.b3.toNat = B3 at *
  generalize q.b4.toNat = B4 at *
  generalize hN0 : numq q = N0 at *
  clear hN0 h S0 T0 z0 q0 b0 hf hgk hkl ho eS eA hF h4 h76 hm hb
  go_enter Try.func22, Try.ntmps22
  go_upto_region 1 with fail
  change Code.wp Try.prog _ _ _ ((w.alloc (.cells q.arr 34)).alloc (.cells zA8 34))
  rw [hW]
  go_quiet (fail)
  try rw [hNq.out]
  go_wp2_with (first | (refine ldG (lW nq) rfl _ rfl rfl ?_))
  refine (hP.out nq).mono ?_
  rintro e w2 ⟨rfl, S2, T2⟩
  have K := HK.out
  have z2 : Qb (k + 1) F8.nul w2 := (Qb.drawn HZ.out nq).two T2 (by omega) (by omega)
  go_wp2_with (first | (refine sdF (g := F) z2 rfl _ _ rfl rfl rfl ?_))
  exact bodyPost_ret (dtake_results (z2.row F) _ rfl rfl) rfl (PostD.mk rfl S2 z2 ((HT.out.drawn nq).trans T2) (by have := HK.out; omega))
set_option maxHeartbeats 4000000 in
theorem dtp64_y (h : Da g s w) (ho : s.Ok) (q : F8) (h1 : q.b0.toNat = 64) (hm : s.mode ≠ 1) (hb : s.bare = true) : Calls Try.prog 22 #[.pointer (some ⟨g, 0, none⟩), .agg q.arr] w (PostD g (s.takeS q) (s.takeA q) w) := by
  obtain ⟨W, k, hW, hk, q0, z0, b0, hkl⟩ := Qb.fresh2 w q
  have hgk : g < k := by rw [← hk]; exact h.lt
  have T0 : Two g g w W := by rw [← hW]; exact ((Two.refl _ _ _).alloc _).alloc _
  have S0 : Da g s W := h.below b0
  have u0 := q0.c0
  have u1 := q0.c1
  have u2 := q0.c2
  have u3 := q0.c3
  have u4 := q0.c4
  have l1 := q.b1.toNat_lt
  have l2 := q.b2.toNat_lt
  have l3 := q.b3.toNat_lt
  have l4 := q.b4.toNat_lt
  have lW : ∀ m, (loadVar 34 ⟨k, 0, none⟩).run Try.prog (W.drewN m) = .ok (.agg q.arr) (W.drewN m) := fun m => (Qb.drawn q0 m).load
  have hNq : Hid ((q.b1.toNat : Int) + 256 * (q.b2.toNat : Int) + 65536 * (q.b3.toNat : Int) + 16777216 * (q.b4.toNat : Int) = ((numq q : Nat) : Int)) := by show _ = _; unfold numq; omega
  have w1 : IntKind.u32.wrap (256 * (q.b2.toNat : Int)) = 256 * (q.b2.toNat : Int) := by have := wrapU32 (256 * q.b2.toNat) (by omega); simpa using this
  have w2 : IntKind.u32.wrap ((q.b1.toNat : Int) + 256 * (q.b2.toNat : Int)) = (q.b1.toNat : Int) + 256 * (q.b2.toNat : Int) := by have := wrapU32 (q.b1.toNat + 256 * q.b2.toNat) (by omega); simpa using this
  have w3 : IntKind.u32.wrap (65536 * (q.b3.toNat : Int)) = 65536 * (q.b3.toNat : Int) := by have := wrapU32 (65536 * q.b3.toNat) (by omega); simpa using this
  have w4 : IntKind.u32.wrap ((q.b1.toNat : Int) + 256 * (q.b2.toNat : Int) + 65536 * (q.b3.toNat : Int)) = (q.b1.toNat : Int) + 256 * (q.b2.toNat : Int) + 65536 * (q.b3.toNat : Int) := by have := wrapU32 (q.b1.toNat + 256 * q.b2.toNat + 65536 * q.b3.toNat) (by omega); simpa using this
  have w5 : IntKind.u32.wrap (16777216 * (q.b4.toNat : Int)) = 16777216 * (q.b4.toNat : Int) := by have := wrapU32 (16777216 * q.b4.toNat) (by omega); simpa using this
  have w6 : IntKind.u32.wrap ((q.b1.toNat : Int) + 256 * (q.b2.toNat : Int) + 65536 * (q.b3.toNat : Int) + 16777216 * (q.b4.toNat : Int)) = (q.b1.toNat : Int) + 256 * (q.b2.toNat : Int) + 65536 * (q.b3.toNat : Int) + 16777216 * (q.b4.toNat : Int) := by have := wrapU32 (q.b1.toNat + 256 * q.b2.toNat + 65536 * q.b3.toNat + 16777216 * q.b4.toNat) (by omega); simpa using this
  obtain ⟨_, _, _, _, c4, _, c6, _, _, _, _, _, c12, _, _, hf⟩ := S0.cells
  have f6 := hf 6
  have f12 := hf 12
  have HS := hidOf2 S0
  have HT := hidOf2 T0
  have HZ := hidOf2 z0
  have HK : Hid (w.heap.size = k ∧ g < k ∧ k + 1 < W.heap.size) := ⟨hk, hgk, hkl⟩
  have eS : s.takeS q = s.pickS 0 (numq q) := by unfold Ld.takeS; rw [if_neg (by omega), if_neg (by omega), if_neg hm, if_pos (by omega), h1]; rfl
  have eA : s.takeA q = s.pickA 0 (numq q) := by unfold Ld.takeA; rw [if_neg (by omega), if_neg (by omega), if_neg hm, if_pos (by omega), h1]; rfl
  rw [eS, eA]
  have hP : Hid (∀ m, Calls Try.prog 30 #[.pointer (some ⟨g, 0, none⟩), .int .i64 0, .int .u32 (numq q : Nat)] (W.drewN m) (PostD g (s.pickS 0 (numq q)) (s.pickA 0 (numq q)) (W.drewN m))) := fun m => dpick_any (S0.drawn m) 0 (by omega) (numq q)
  obtain ⟨⟨F, b⟩, hF⟩ : ∃ f, s.pickA 0 (numq q) = f := ⟨_, rfl⟩
  rw [hF] at hP ⊢
  generalize s.pickS 0 (numq q) = PS at *
  have dm : (s.mode == 1) = false := by simp [hm]
  have hbb : s.ip = 0 ∧ s.iu = 0 := by simpa [Ld.bare] using hb
  rw [hbb.1] at c4
  rw [hbb.2] at c6
  clear hbb
  rw [h1] at u0
  generalize q.b1.toNat = B1 at *
  generalize q.b2.toNat = B2 at *
  generalize q.b3.toNat = B3 at *
  generalize q.b4.toNat = B4 at *
  generalize hN0 : numq q = N0 at *
  clear hN0 h S0 T0 z0 q0 b0 hf hgk hkl ho eS eA hF h1 hm hb
  go_enter Try.func22, Try.ntmps22
  go_upto_region 1 with fail
  change Code.wp Try.prog _ _ _ ((w.alloc (.cells q.arr 34)).alloc (.cells zA8 34))
  rw [hW]
  go_quiet (fail)
  try rw [hNq.out]
  go_wp2_with (first | (refine ldG (lW nq) rfl _ rfl rfl ?_))
  refine (hP.out nq).mono ?_
  rintro e w2 ⟨rfl, S2, T2⟩
  have K := HK.out
  have z2 : Qb (k + 1) F8.nul w2 := (Qb.drawn HZ.out nq).two T2 (by omega) (by omega)
  go_wp2_with (first | (refine sdF (g := F) z2 rfl _ _ rfl rfl rfl ?_))
  exact bodyPost_ret (dtake_results (z2.row F) _ rfl rfl) rfl (PostD.mk rfl S2 z2 ((HT.out.drawn nq).trans T2) (by have := HK.out; omega))
set_option maxHeartbeats 4000000 in
theorem dtp65_y (h : Da g s w) (ho : s.Ok) (q : F8) (h1 : q.b0.toNat = 65) (hm : s.mode ≠ 1) (hb : s.bare = true) : Calls Try.prog 22 #[.pointer (some ⟨g, 0, none⟩), .agg q.arr] w (PostD g (s.takeS q) (s.takeA q) w) := by
  obtain ⟨W, k, hW, hk, q0, z0, b0, hkl⟩ := Qb.fresh2 w q
  have hgk : g < k := by rw [← hk]; exact h.lt
  have T0 : Two g g w W := by rw [← hW]; exact ((Two.refl _ _ _).alloc _).alloc _
  have S0 : Da g s W := h.below b0
  have u0 := q0.c0
  have u1 := q0.c1
  have u2 := q0.c2
  have u3 := q0.c3
  have u4 := q0.c4
  have l1 := q.b1.toNat_lt
  have l2 := q.b2.toNat_lt
  have l3 := q.b3.toNat_lt
  have l4 := q.b4.toNat_lt
  have lW : ∀ m, (loadVar 34 ⟨k, 0, none⟩).run Try.prog (W.drewN m) = .ok (.agg q.arr) (W.drewN m) := fun m => (Qb.drawn q0 m).load
  have hNq : Hid ((q.b1.toNat : Int) + 256 * (q.b2.toNat : Int) + 65536 * (q.b3.toNat : Int) + 16777216 * (q.b4.toNat : Int) = ((numq q : Nat) : Int)) := by show _ = _; unfold numq; omega
  have w1 : IntKind.u32.wrap (256 * (q.b2.toNat : Int)) = 256 * (q.b2.toNat : Int) := by have := wrapU32 (256 * q.b2.toNat) (by omega); simpa using this
  have w2 : IntKind.u32.wrap ((q.b1.toNat : Int) + 256 * (q.b2.toNat : Int)) = (q.b1.toNat : Int) + 256 * (q.b2.toNat : Int) := by have := wrapU32 (q.b1.toNat + 256 * q.b2.toNat) (by omega); simpa using this
  have w3 : IntKind.u32.wrap (65536 * (q.b3.toNat : Int)) = 65536 * (q.b3.toNat : Int) := by have := wrapU32 (65536 * q.b3.toNat) (by omega); simpa using this
  have w4 : IntKind.u32.wrap ((q.b1.toNat : Int) + 256 * (q.b2.toNat : Int) + 65536 * (q.b3.toNat : Int)) = (q.b1.toNat : Int) + 256 * (q.b2.toNat : Int) + 65536 * (q.b3.toNat : Int) := by have := wrapU32 (q.b1.toNat + 256 * q.b2.toNat + 65536 * q.b3.toNat) (by omega); simpa using this
  have w5 : IntKind.u32.wrap (16777216 * (q.b4.toNat : Int)) = 16777216 * (q.b4.toNat : Int) := by have := wrapU32 (16777216 * q.b4.toNat) (by omega); simpa using this
  have w6 : IntKind.u32.wrap ((q.b1.toNat : Int) + 256 * (q.b2.toNat : Int) + 65536 * (q.b3.toNat : Int) + 16777216 * (q.b4.toNat : Int)) = (q.b1.toNat : Int) + 256 * (q.b2.toNat : Int) + 65536 * (q.b3.toNat : Int) + 16777216 * (q.b4.toNat : Int) := by have := wrapU32 (q.b1.toNat + 256 * q.b2.toNat + 65536 * q.b3.toNat + 16777216 * q.b4.toNat) (by omega); simpa using this
  obtain ⟨_, _, _, _, c4, _, c6, _, _, _, _, _, c12, _, _, hf⟩ := S0.cells
  have f6 := hf 6
  have f12 := hf 12
  have HS := hidOf2 S0
  have HT := hidOf2 T0
  have HZ := hidOf2 z0
  have HK : Hid (w.heap.size = k ∧ g < k ∧ k + 1 < W.heap.size) := ⟨hk, hgk, hkl⟩
  have eS : s.takeS q = s.pickS 1 (numq q) := by unfold Ld.takeS; rw [if_neg (by omega), if_neg (by omega), if_neg hm, if_pos (by omega), h1]; rfl
  have eA : s.takeA q = s.pickA 1 (numq q) := by unfold Ld.takeA; rw [if_neg (by omega), if_neg (by omega), if_neg hm, if_pos (by omega), h1]; rfl
  rw [eS, eA]
  have hP : Hid (∀ m, Calls Try.prog 30 #[.pointer (some ⟨g, 0, none⟩), .int .i64 1, .int .u32 (numq q : Nat)] (W.drewN m) (PostD g (s.pickS 1 (numq q)) (s.pickA 1 (numq q)) (W.drewN m))) := fun m => dpick_any (S0.drawn m) 1 (by omega) (numq q)
  obtain ⟨⟨F, b⟩, hF⟩ : ∃ f, s.pickA 1 (numq q) = f := ⟨_, rfl⟩
  rw [hF] at hP ⊢
  generalize s.pickS 1 (numq q) = PS at *
  have dm : (s.mode == 1) = false := by simp [hm]
  have hbb : s.ip = 0 ∧ s.iu = 0 := by simpa [Ld.bare] using hb
  rw [hbb.1] at c4
  rw [hbb.2] at c6
  clear hbb
  rw [h1] at u0
  generalize q.b1.toNat = B1 at *
  generalize q.b2.toNat = B2 at *
  generalize q.b3.toNat = B3 at *
  generalize q.b4.toNat = B4 at *
  generalize hN0 : numq q = N0 at *
  clear hN0 h S0 T0 z0 q0 b0 hf hgk hkl ho eS eA hF h1 hm hb
  go_enter Try.func22, Try.ntmps22
  go_upto_region 1 with fail
  change Code.wp Try.prog _ _ _ ((w.alloc (.cells q.arr 34)).alloc (.cells zA8 34))
  rw [hW]
  go_quiet (fail)
  try rw [hNq.out]
  go_wp2_with (first | (refine ldG (lW nq) rfl _ rfl rfl ?_))
  refine (hP.out nq).mono ?_
  rintro e w2 ⟨rfl, S2, T2⟩
  have K := HK.out
  have z2 : Qb (k + 1) F8.nul w2 := (Qb.drawn HZ.out nq).two T2 (by omega) (by omega)
  go_wp2_with (first | (refine sdF (g := F) z2 rfl _ _ rfl rfl rfl ?_))
  exact bodyPost_ret (dtake_results (z2.row F) _ rfl rfl) rfl (PostD.mk rfl S2 z2 ((HT.out.drawn nq).trans T2) (by have := HK.out; omega))
set_option maxHeartbeats 4000000 in
theorem dtp66_y (h : Da g s w) (ho : s.Ok) (q : F8) (h1 : q.b0.toNat = 66) (hm : s.mode ≠ 1) (hb : s.bare = true) : Calls Try.prog 22 #[.pointer (some ⟨g, 0, none⟩), .agg q.arr] w (PostD g (s.takeS q) (s.takeA q) w) := by
  obtain ⟨W, k, hW, hk, q0, z0, b0, hkl⟩ := Qb.fresh2 w q
  have hgk : g < k := by rw [← hk]; exact h.lt
  have T0 : Two g g w W := by rw [← hW]; exact ((Two.refl _ _ _).alloc _).alloc _
  have S0 : Da g s W := h.below b0
  have u0 := q0.c0
  have u1 := q0.c1
  have u2 := q0.c2
  have u3 := q0.c3
  have u4 := q0.c4
  have l1 := q.b1.toNat_lt
  have l2 := q.b2.toNat_lt
  have l3 := q.b3.toNat_lt
  have l4 := q.b4.toNat_lt
  have lW : ∀ m, (loadVar 34 ⟨k, 0, none⟩).run Try.prog (W.drewN m) = .ok (.agg q.arr) (W.drewN m) := fun m => (Qb.drawn q0 m).load
  have hNq : Hid ((q.b1.toNat : Int) + 256 * (q.b2.toNat : Int) + 65536 * (q.b3.toNat : Int) + 16777216 * (q.b4.toNat : Int) = ((numq q : Nat) : Int)) := by show _ = _; unfold numq; omega
  have w1 : IntKind.u32.wrap (256 * (q.b2.toNat : Int)) = 256 * (q.b2.toNat : Int) := by have := wrapU32 (256 * q.b2.toNat) (by omega); simpa using this
  have w2 : IntKind.u32.wrap ((q.b1.toNat : Int) + 256 * (q.b2.toNat : Int)) = (q.b1.toNat : Int) + 256 * (q.b2.toNat : Int) := by have := wrapU32 (q.b1.toNat + 256 * q.b2.toNat) (by omega); simpa using this
  have w3 : IntKind.u32.wrap (65536 * (q.b3.toNat : Int)) = 65536 * (q.b3.toNat : Int) := by have := wrapU32 (65536 * q.b3.toNat) (by omega); simpa using this
  have w4 : IntKind.u32.wrap ((q.b1.toNat : Int) + 256 * (q.b2.toNat : Int) + 65536 * (q.b3.toNat : Int)) = (q.b1.toNat : Int) + 256 * (q.b2.toNat : Int) + 65536 * (q.b3.toNat : Int) := by have := wrapU32 (q.b1.toNat + 256 * q.b2.toNat + 65536 * q.b3.toNat) (by omega); simpa using this
  have w5 : IntKind.u32.wrap (16777216 * (q.b4.toNat : Int)) = 16777216 * (q.b4.toNat : Int) := by have := wrapU32 (16777216 * q.b4.toNat) (by omega); simpa using this
  have w6 : IntKind.u32.wrap ((q.b1.toNat : Int) + 256 * (q.b2.toNat : Int) + 65536 * (q.b3.toNat : Int) + 16777216 * (q.b4.toNat : Int)) = (q.b1.toNat : Int) + 256 * (q.b2.toNat : Int) + 65536 * (q.b3.toNat : Int) + 16777216 * (q.b4.toNat : Int) := by have := wrapU32 (q.b1.toNat + 256 * q.b2.toNat + 65536 * q.b3.toNat + 16777216 * q.b4.toNat) (by omega); simpa using this
  obtain ⟨_, _, _, _, c4, _, c6, _, _, _, _, _, c12, _, _, hf⟩ := S0.cells
  have f6 := hf 6
  have f12 := hf 12
  have HS := hidOf2 S0
  have HT := hidOf2 T0
  have HZ := hidOf2 z0
  have HK : Hid (w.heap.size = k ∧ g < k ∧ k + 1 < W.heap.size) := ⟨hk, hgk, hkl⟩
  have eS : s.takeS q = s.pickS 2 (numq q) := by unfold Ld.takeS; rw [if_neg (by omega), if_neg (by omega), if_neg hm, if_pos (by omega), h1]; rfl
  have eA : s.takeA q = s.pickA 2 (numq q) := by unfold Ld.takeA; rw [if_neg (by omega), if_neg (by omega), if_neg hm, if_pos (by omega), h1]; rfl
  rw [eS, eA]
  have hP : Hid (∀ m, Calls Try.prog 30 #[.pointer (some ⟨g, 0, none⟩), .int .i64 2, .int .u32 (numq q : Nat)] (W.drewN m) (PostD g (s.pickS 2 (numq q)) (s.pickA 2 (numq q)) (W.drewN m))) := fun m => dpick_any (S0.drawn m) 2 (by omega) (numq q)
  obtain ⟨⟨F, b⟩, hF⟩ : ∃ f, s.pickA 2 (numq q) = f := ⟨_, rfl⟩
  rw [hF] at hP ⊢
  generalize s.pickS 2 (numq q) = PS at *
  have dm : (s.mode == 1) = false := by simp [hm]
  have hbb : s.ip = 0 ∧ s.iu = 0 := by simpa [Ld.bare] using hb
  rw [hbb.1] at c4
  rw [hbb.2] at c6
  clear hbb
  rw [h1] at u0
  generalize q.b1.toNat = B1 at *
  generalize q.b2.toNat = B2 at *
  generalize q.b3.toNat = B3 at *
  generalize q.b4.toNat = B4 at *
  generalize hN0 : numq q = N0 at *
  clear hN0 h S0 T0 z0 q0 b0 hf hgk hkl ho eS eA hF h1 hm hb
  go_enter Try.func22, Try.ntmps22
  go_upto_region 1 with fail
  change Code.wp Try.prog _ _ _ ((w.alloc (.cells q.arr 34)).alloc (.cells zA8 34))
  rw [hW]
  go_quiet (fail)
  try rw [hNq.out]
  go_wp2_with (first | (refine ldG (lW nq) rfl _ rfl rfl ?_))
  refine (hP.out nq).mono ?_
  rintro e w2 ⟨rfl, S2, T2⟩
  have K := HK.out
  have z2 : Qb (k + 1) F8.nul w2 := (Qb.drawn HZ.out nq).two T2 (by omega) (by omega)
  go_wp2_with (first | (refine sdF (g := F) z2 rfl _ _ rfl rfl rfl ?_))
  exact bodyPost_ret (dtake_results (z2.row F) _ rfl rfl) rfl (PostD.mk rfl S2 z2 ((HT.out.drawn nq).trans T2) (by have := HK.out; omega))
set_option maxHeartbeats 4000000 in
theorem dtp67_y (h : Da g s w) (ho : s.Ok) (q : F8) (h1 : q.b0.toNat = 67) (hm : s.mode ≠ 1) (hb : s.bare = true) : Calls Try.prog 22 #[.pointer (some ⟨g, 0, none⟩), .agg q.arr] w (PostD g (s.takeS q) (s.takeA q) w) := by
  obtain ⟨W, k, hW, hk, q0, z0, b0, hkl⟩ := Qb.fresh2 w q
  have hgk : g < k := by rw [← hk]; exact h.lt
  have T0 : Two g g w W := by rw [← hW]; exact ((Two.refl _ _ _).alloc _).alloc _
  have S0 : Da g s W := h.below b0
  have u0 := q0.c0
  have u1 := q0.c1
  have u2 := q0.c2
  have u3 := q0.c3
  have u4 := q0.c4
  have l1 := q.b1.toNat_lt
  have l2 := q.b2.toNat_lt
  have l3 := q.b3.toNat_lt
  have l4 := q.b4.toNat_lt
  have lW : ∀ m, (loadVar 34 ⟨k, 0, none⟩).run Try.prog (W.drewN m) = .ok (.agg q.arr) (W.drewN m) := fun m => (Qb.drawn q0 m).load
  have hNq : Hid ((q.b1.toNat : Int) + 256 * (q.b2.toNat : Int) + 65536 * (q.b3.toNat : Int) + 16777216 * (q.b4.toNat : Int) = ((numq q : Nat) : Int)) := by show _ = _; unfold numq; omega
  have w1 : IntKind.u32.wrap (256 * (q.b2.toNat : Int)) = 256 * (q.b2.toNat : Int) := by have := wrapU32 (256 * q.b2.toNat) (by omega); simpa using this
  have w2 : IntKind.u32.wrap ((q.b1.toNat : Int) + 256 * (q.b2.toNat : Int)) = (q.b1.toNat : Int) + 256 * (q.b2.toNat : Int) := by have := wrapU32 (q.b1.toNat + 256 * q.b2.toNat) (by omega); simpa using this
  have w3 : IntKind.u32.wrap (65536 * (q.b3.toNat : Int)) = 65536 * (q.b3.toNat : Int) := by have := wrapU32 (65536 * q.b3.toNat) (by omega); simpa using this
  have w4 : IntKind.u32.wrap ((q.b1.toNat : Int) + 256 * (q.b2.toNat : Int) + 65536 * (q.b3.toNat : Int)) = (q.b1.toNat : Int) + 256 * (q.b2.toNat : Int) + 65536 * (q.b3.toNat : Int) := by have := wrapU32 (q.b1.toNat + 256 * q.b2.toNat + 65536 * q.b3.toNat) (by omega); simpa using this
  have w5 : IntKind.u32.wrap (16777216 * (q.b4.toNat : Int)) = 16777216 * (q.b4.toNat : Int) := by have := wrapU32 (16777216 * q.b4.toNat) (by omega); simpa using this
  have w6 : IntKind.u32.wrap ((q.b1.toNat : Int) + 256 * (q.b2.toNat : Int) + 65536 * (q.b3.toNat : Int) + 16777216 * (q.b4.toNat : Int)) = (q.b1.toNat : Int) + 256 * (q.b2.toNat : Int) + 65536 * (q.b3.toNat : Int) + 16777216 * (q.b4.toNat : Int) := by have := wrapU32 (q.b1.toNat + 256 * q.b2.toNat + 65536 * q.b3.toNat + 16777216 * q.b4.toNat) (by omega); simpa using this
  obtain ⟨_, _, _, _, c4, _, c6, _, _, _, _, _, c12, _, _, hf⟩ := S0.cells
  have f6 := hf 6
  have f12 := hf 12
  have HS := hidOf2 S0
  have HT := hidOf2 T0
  have HZ := hidOf2 z0
  have HK : Hid (w.heap.size = k ∧ g < k ∧ k + 1 < W.heap.size) := ⟨hk, hgk, hkl⟩
  have eS : s.takeS q = s.pickS 3 (numq q) := by unfold Ld.takeS; rw [if_neg (by omega), if_neg (by omega), if_neg hm, if_pos (by omega), h1]; rfl
  have eA : s.takeA q = s.pickA 3 (numq q) := by unfold Ld.takeA; rw [if_neg (by omega), if_neg (by omega), if_neg hm, if_pos (by omega), h1]; rfl
  rw [eS, eA]
  have hP : Hid (∀ m, Calls Try.prog 30 #[.pointer (some ⟨g, 0, none⟩), .int .i64 3, .int .u32 (numq q : Nat)] (W.drewN m) (PostD g (s.pickS 3 (numq q)) (s.pickA 3 (numq q)) (W.drewN m))) := fun m => dpick_any (S0.drawn m) 3 (by omega) (numq q)
  obtain ⟨⟨F, b⟩, hF⟩ : ∃ f, s.pickA 3 (numq q) = f := ⟨_, rfl⟩
  rw [hF] at hP ⊢
  generalize s.pickS 3 (numq q) = PS at *
  have dm : (s.mode == 1) = false := by simp [hm]
  have hbb : s.ip = 0 ∧ s.iu = 0 := by simpa [Ld.bare] using hb
  rw [hbb.1] at c4
  rw [hbb.2] at c6
  clear hbb
  rw [h1] at u0
  generalize q.b1.toNat = B1 at *
  generalize q.b2.toNat = B2 at *
  generalize q.b3.toNat = B3 at *
  generalize q.b4.toNat = B4 at *
  generalize hN0 : numq q = N0 at *
  clear hN0 h S0 T0 z0 q0 b0 hf hgk hkl ho eS eA hF h1 hm hb
  go_enter Try.func22, Try.ntmps22
  go_upto_region 1 with fail
  change Code.wp Try.prog _ _ _ ((w.alloc (.cells q.arr 34)).alloc (.cells zA8 34))
  rw [hW]
  go_quiet (fail)
  try rw [hNq.out]
  go_wp2_with (first | (refine ldG (lW nq) rfl _ rfl rfl ?_))
  refine (hP.out nq).mono ?_
  rintro e w2 ⟨rfl, S2, T2⟩
  have K := HK.out
  have z2 : Qb (k + 1) F8.nul w2 := (Qb.drawn HZ.out nq).two T2 (by omega) (by omega)
  go_wp2_with (first | (refine sdF (g := F) z2 rfl _ _ rfl rfl rfl ?_))
  exact bodyPost_ret (dtake_results (z2.row F) _ rfl rfl) rfl (PostD.mk rfl S2 z2 ((HT.out.drawn nq).trans T2) (by have := HK.out; omega))
set_option maxHeartbeats 4000000 in
theorem dtc_76_n1 (h : Da g s w) (ho : s.Ok) (q : F8) (h1 : q.b0.toNat = 76) (hm : s.mode = 1) (hb : s.bare = false) (hx : (s.ip == 0) = false) : Calls Try.prog 22 #[.pointer (some ⟨g, 0, none⟩), .agg q.arr] w (PostD g (s.takeS q) (s.takeA q) w) := by
  obtain ⟨W, k, hW, hk, q0, z0, b0, hkl⟩ := Qb.fresh2 w q
  have hgk : g < k := by rw [← hk]; exact h.lt
  have T0 : Two g g w W := by rw [← hW]; exact ((Two.refl _ _ _).alloc _).alloc _
  have S0 : Da g s W := h.below b0
  have u0 := q0.c0
  have u1 := q0.c1
  have u2 := q0.c2
  have u3 := q0.c3
  have u4 := q0.c4
  have l1 := q.b1.toNat_lt
  have l2 := q.b2.toNat_lt
  have l3 := q.b3.toNat_lt
  have l4 := q.b4.toNat_lt
  have lW : ∀ m, (loadVar 34 ⟨k, 0, none⟩).run Try.prog (W.drewN m) = .ok (.agg q.arr) (W.drewN m) := fun m => (Qb.drawn q0 m).load
  have hNq : Hid ((q.b1.toNat : Int) + 256 * (q.b2.toNat : Int) + 65536 * (q.b3.toNat : Int) + 16777216 * (q.b4.toNat : Int) = ((numq q : Nat) : Int)) := by show _ = _; unfold numq; omega
  have w1 : IntKind.u32.wrap (256 * (q.b2.toNat : Int)) = 256 * (q.b2.toNat : Int) := by have := wrapU32 (256 * q.b2.toNat) (by omega); simpa using this
  have w2 : IntKind.u32.wrap ((q.b1.toNat : Int) + 256 * (q.b2.toNat : Int)) = (q.b1.toNat : Int) + 256 * (q.b2.toNat : Int) := by have := wrapU32 (q.b1.toNat + 256 * q.b2.toNat) (by omega); simpa using this
  have w3 : IntKind.u32.wrap (65536 * (q.b3.toNat : Int)) = 65536 * (q.b3.toNat : Int) := by have := wrapU32 (65536 * q.b3.toNat) (by omega); simpa using this
  have w4 : IntKind.u32.wrap ((q.b1.toNat : Int) + 256 * (q.b2.toNat : Int) + 65536 * (q.b3.toNat : Int)) = (q.b1.toNat : Int) + 256 * (q.b2.toNat : Int) + 65536 * (q.b3.toNat : Int) := by have := wrapU32 (q.b1.toNat + 256 * q.b2.toNat + 65536 * q.b3.toNat) (by omega); simpa using this
  have w5 : IntKind.u32.wrap (16777216 * (q.b4.toNat : Int)) = 16777216 * (q.b4.toNat : Int) := by have := wrapU32 (16777216 * q.b4.toNat) (by omega); simpa using this
  have w6 : IntKind.u32.wrap ((q.b1.toNat : Int) + 256 * (q.b2.toNat : Int) + 65536 * (q.b3.toNat : Int) + 16777216 * (q.b4.toNat : Int)) = (q.b1.toNat : Int) + 256 * (q.b2.toNat : Int) + 65536 * (q.b3.toNat : Int) + 16777216 * (q.b4.toNat : Int) := by have := wrapU32 (q.b1.toNat + 256 * q.b2.toNat + 65536 * q.b3.toNat + 16777216 * q.b4.toNat) (by omega); simpa using this
  obtain ⟨_, _, _, _, c4, _, c6, _, _, _, _, _, c12, _, _, hf⟩ := S0.cells
  have f6 := hf 6
  have f12 := hf 12
  have HS := hidOf2 S0
  have HT := hidOf2 T0
  have HZ := hidOf2 z0
  have HK : Hid (w.heap.size = k ∧ g < k ∧ k + 1 < W.heap.size) := ⟨hk, hgk, hkl⟩
  have eS : s.takeS q = s.confS q := by unfold Ld.takeS; rw [if_neg (by omega), if_neg (show ¬ (q.b0.toNat = 76 ∧ s.bare = true) by rw [hb]; simp), if_pos hm]
  have eA : s.takeA q = s.confA q := by unfold Ld.takeA; rw [if_neg (by omega), if_neg (show ¬ (q.b0.toNat = 76 ∧ s.bare = true) by rw [hb]; simp), if_pos hm]
  rw [eS, eA]
  have hP : Hid (∀ m, Calls Try.prog 29 #[.pointer (some ⟨g, 0, none⟩), .agg q.arr] (W.drewN m) (PostD g (s.confS q) (s.confA q) (W.drewN m))) := fun m => dset_any (S0.drawn m) ho q
  obtain ⟨⟨F, b⟩, hF⟩ : ∃ f, s.confA q = f := ⟨_, rfl⟩
  rw [hF] at hP ⊢
  generalize s.confS q = PS at *
  rw [hm] at c12
  rw [h1] at u0
  generalize q.b1.toNat = B1 at *
  generalize q.b2.toNat = B2 at *
  generalize q.b3.toNat = B3 at *
  generalize q.b4.toNat = B4 at *
  generalize hN0 : numq q = N0 at *
  clear hN0 h S0 T0 z0 q0 b0 hf hgk hkl ho eS eA hF h1 hm hb
  go_enter Try.func22, Try.ntmps22
  go_upto_region 1 with fail
  change Code.wp Try.prog _ _ _ ((w.alloc (.cells q.arr 34)).alloc (.cells zA8 34))
  rw [hW]
  go_quiet (fail)
  try rw [hNq.out]
  go_wp2_with (first | (refine ldG (lW nq) rfl _ rfl rfl ?_))
  refine (hP.out nq).mono ?_
  rintro e w2 ⟨rfl, S2, T2⟩
  have K := HK.out
  have z2 : Qb (k + 1) F8.nul w2 := (Qb.drawn HZ.out nq).two T2 (by omega) (by omega)
  go_wp2_with (first | (refine sdF (g := F) z2 rfl _ _ rfl rfl rfl ?_))
  exact bodyPost_ret (dtake_results (z2.row F) _ rfl rfl) rfl (PostD.mk rfl S2 z2 ((HT.out.drawn nq).trans T2) (by have := HK.out; omega))
set_option maxHeartbeats 4000000 in
theorem dtc_o_n1 (h : Da g s w) (ho : s.Ok) (q : F8) (h4 : q.b0.toNat ≠ 4) (h76 : q.b0.toNat ≠ 76) (hm : s.mode = 1) (hb : s.bare = false) (hx : (s.ip == 0) = false) : Calls Try.prog 22 #[.pointer (some ⟨g, 0, none⟩), .agg q.arr] w (PostD g (s.takeS q) (s.takeA q) w) := by
  obtain ⟨W, k, hW, hk, q0, z0, b0, hkl⟩ := Qb.fresh2 w q
  have hgk : g < k := by rw [← hk]; exact h.lt
  have T0 : Two g g w W := by rw [← hW]; exact ((Two.refl _ _ _).alloc _).alloc _
  have S0 : Da g s W := h.below b0
  have u0 := q0.c0
  have u1 := q0.c1
  have u2 := q0.c2
  have u3 := q0.c3
  have u4 := q0.c4
  have l1 := q.b1.toNat_lt
  have l2 := q.b2.toNat_lt
  have l3 := q.b3.toNat_lt
  have l4 := q.b4.toNat_lt
  have lW : ∀ m, (loadVar 34 ⟨k, 0, none⟩).run Try.prog (W.drewN m) = .ok (.agg q.arr) (W.drewN m) := fun m => (Qb.drawn q0 m).load
  have hNq : Hid ((q.b1.toNat : Int) + 256 * (q.b2.toNat : Int) + 65536 * (q.b3.toNat : Int) + 16777216 * (q.b4.toNat : Int) = ((numq q : Nat) : Int)) := by show _ = _; unfold numq; omega
  have w1 : IntKind.u32.wrap (256 * (q.b2.toNat : Int)) = 256 * (q.b2.toNat : Int) := by have := wrapU32 (256 * q.b2.toNat) (by omega); simpa using this
  have w2 : IntKind.u32.wrap ((q.b1.toNat : Int) + 256 * (q.b2.toNat : Int)) = (q.b1.toNat : Int) + 256 * (q.b2.toNat : Int) := by have := wrapU32 (q.b1.toNat + 256 * q.b2.toNat) (by omega); simpa using this
  have w3 : IntKind.u32.wrap (65536 * (q.b3.toNat : Int)) = 65536 * (q.b3.toNat : Int) := by have := wrapU32 (65536 * q.b3.toNat) (by omega); simpa using this
  have w4 : IntKind.u32.wrap ((q.b1.toNat : Int) + 256 * (q.b2.toNat : Int) + 65536 * (q.b3.toNat : Int)) = (q.b1.toNat : Int) + 256 * (q.b2.toNat : Int) + 65536 * (q.b3.toNat : Int) := by have := wrapU32 (q.b1.toNat + 256 * q.b2.toNat + 65536 * q.b3.toNat) (by omega); simpa using this
  have w5 : IntKind.u32.wrap (16777216 * (q.b4.toNat : Int)) = 16777216 * (q.b4.toNat : Int) := by have := wrapU32 (16777216 * q.b4.toNat) (by omega); simpa using this
  have w6 : IntKind.u32.wrap ((q.b1.toNat : Int) + 256 * (q.b2.toNat : Int) + 65536 * (q.b3.toNat : Int) + 16777216 * (q.b4.toNat : Int)) = (q.b1.toNat : Int) + 256 * (q.b2.toNat : Int) + 65536 * (q.b3.toNat : Int) + 16777216 * (q.b4.toNat : Int) := by have := wrapU32 (q.b1.toNat + 256 * q.b2.toNat + 65536 * q.b3.toNat + 16777216 * q.b4.toNat) (by omega); simpa using this
  obtain ⟨_, _, _, _, c4, _, c6, _, _, _, _, _, c12, _, _, hf⟩ := S0.cells
  have f6 := hf 6
  have f12 := hf 12
  have HS := hidOf2 S0
  have HT := hidOf2 T0
  have HZ := hidOf2 z0
  have HK : Hid (w.heap.size = k ∧ g < k ∧ k + 1 < W.heap.size) := ⟨hk, hgk, hkl⟩
  have eS : s.takeS q = s.confS q := by unfold Ld.takeS; rw [if_neg h4, if_neg (fun x => h76 x.1), if_pos hm]
  have eA : s.takeA q = s.confA q := by unfold Ld.takeA; rw [if_neg h4, if_neg (fun x => h76 x.1), if_pos hm]
  rw [eS, eA]
  have hP : Hid (∀ m, Calls Try.prog 29 #[.pointer (some ⟨g, 0, none⟩), .agg q.arr] (W.drewN m) (PostD g (s.confS q) (s.confA q) (W.drewN m))) := fun m => dset_any (S0.drawn m) ho q
  obtain ⟨⟨F, b⟩, hF⟩ : ∃ f, s.confA q = f := ⟨_, rfl⟩
  rw [hF] at hP ⊢
  generalize s.confS q = PS at *
  rw [hm] at c12
  have d4 : ((q.b0.toNat : Int) == 4) = false := by simp; omega
  have d76 : ((q.b0.toNat : Int) == 76) = false := by simp; omega
  generalize q.b0.toNat = M at *
  generalize q.b1.toNat = B1 at *
  generalize q.b2.toNat = B2 at *
  generalize q.b3.toNat = B3 at *
  generalize q.b4.toNat = B4 at *
  generalize hN0 : numq q = N0 at *
  clear hN0 h S0 T0 z0 q0 b0 hf hgk hkl ho eS eA hF h4 h76 hm hb
  go_enter Try.func22, Try.ntmps22
  go_upto_region 1 with fail
  change Code.wp Try.prog _ _ _ ((w.alloc (.cells q.arr 34)).alloc (.cells zA8 34))
  rw [hW]
  go_quiet (fail)
  try rw [hNq.out]
  go_wp2_with (first | (refine ldG (lW nq) rfl _ rfl rfl ?_))
  refine (hP.out nq).mono ?_
  rintro e w2 ⟨rfl, S2, T2⟩
  have K := HK.out
  have z2 : Qb (k + 1) F8.nul w2 := (Qb.drawn HZ.out nq).two T2 (by omega) (by omega)
  go_wp2_with (first | (refine sdF (g := F) z2 rfl _ _ rfl rfl rfl ?_))
  exact bodyPost_ret (dtake_results (z2.row F) _ rfl rfl) rfl (PostD.mk rfl S2 z2 ((HT.out.drawn nq).trans T2) (by have := HK.out; omega))
set_option maxHeartbeats 4000000 in
theorem dtp64_n1 (h : Da g s w) (ho : s.Ok) (q : F8) (h1 : q.b0.toNat = 64) (hm : s.mode ≠ 1) (hb : s.bare = false) (hx : (s.ip == 0) = false) : Calls Try.prog 22 #[.pointer (some ⟨g, 0, none⟩), .agg q.arr] w (PostD g (s.takeS q) (s.takeA q) w) := by
  obtain ⟨W, k, hW, hk, q0, z0, b0, hkl⟩ := Qb.fresh2 w q
  have hgk : g < k := by rw [← hk]; exact h.lt
  have T0 : Two g g w W := by rw [← hW]; exact ((Two.refl _ _ _).alloc _).alloc _
  have S0 : Da g s W := h.below b0
  have u0 := q0.c0
  have u1 := q0.c1
  have u2 := q0.c2
  have u3 := q0.c3
  have u4 := q0.c4
  have l1 := q.b1.toNat_lt
  have l2 := q.b2.toNat_lt
  have l3 := q.b3.toNat_lt
  have l4 := q.b4.toNat_lt
  have lW : ∀ m, (loadVar 34 ⟨k, 0, none⟩).run Try.prog (W.drewN m) = .ok (.agg q.arr) (W.drewN m) := fun m => (Qb.drawn q0 m).load
  have hNq : Hid ((q.b1.toNat : Int) + 256 * (q.b2.toNat : Int) + 65536 * (q.b3.toNat : Int) + 16777216 * (q.b4.toNat : Int) = ((numq q : Nat) : Int)) := by show _ = _; unfold numq; omega
  have w1 : IntKind.u32.wrap (256 * (q.b2.toNat : Int)) = 256 * (q.b2.toNat : Int) := by have := wrapU32 (256 * q.b2.toNat) (by omega); simpa using this
  have w2 : IntKind.u32.wrap ((q.b1.toNat : Int) + 256 * (q.b2.toNat : Int)) = (q.b1.toNat : Int) + 256 * (q.b2.toNat : Int) := by have := wrapU32 (q.b1.toNat + 256 * q.b2.toNat) (by omega); simpa using this
  have w3 : IntKind.u32.wrap (65536 * (q.b3.toNat : Int)) = 65536 * (q.b3.toNat : Int) := by have := wrapU32 (65536 * q.b3.toNat) (by omega); simpa using this
  have w4 : IntKind.u32.wrap ((q.b1.toNat : Int) + 256 * (q.b2.toNat : Int) + 65536 * (q.b3.toNat : Int)) = (q.b1.toNat : Int) + 256 * (q.b2.toNat : Int) + 65536 * (q.b3.toNat : Int) := by have := wrapU32 (q.b1.toNat + 256 * q.b2.toNat + 65536 * q.b3.toNat) (by omega); simpa using this
  have w5 : IntKind.u32.wrap (16777216 * (q.b4.toNat : Int)) = 16777216 * (q.b4.toNat : Int) := by have := wrapU32 (16777216 * q.b4.toNat) (by omega); simpa using this
  have w6 : IntKind.u32.wrap ((q.b1.toNat : Int) + 256 * (q.b2.toNat : Int) + 65536 * (q.b3.toNat : Int) + 16777216 * (q.b4.toNat : Int)) = (q.b1.toNat : Int) + 256 * (q.b2.toNat : Int) + 65536 * (q.b3.toNat : Int) + 16777216 * (q.b4.toNat : Int) := by have := wrapU32 (q.b1.toNat + 256 * q.b2.toNat + 65536 * q.b3.toNat + 16777216 * q.b4.toNat) (by omega); simpa using this
  obtain ⟨_, _, _, _, c4, _, c6, _, _, _, _, _, c12, _, _, hf⟩ := S0.cells
  have f6 := hf 6
  have f12 := hf 12
  have HS := hidOf2 S0
  have HT := hidOf2 T0
  have HZ := hidOf2 z0
  have HK : Hid (w.heap.size = k ∧ g < k ∧ k + 1 < W.heap.size) := ⟨hk, hgk, hkl⟩
  have eS : s.takeS q = s.pickS 0 (numq q) := by unfold Ld.takeS; rw [if_neg (by omega), if_neg (by omega), if_neg hm, if_pos (by omega), h1]; rfl
  have eA : s.takeA q = s.pickA 0 (numq q) := by unfold Ld.takeA; rw [if_neg (by omega), if_neg (by omega), if_neg hm, if_pos (by omega), h1]; rfl
  rw [eS, eA]
  have hP : Hid (∀ m, Calls Try.prog 30 #[.pointer (some ⟨g, 0, none⟩), .int .i64 0, .int .u32 (numq q : Nat)] (W.drewN m) (PostD g (s.pickS 0 (numq q)) (s.pickA 0 (numq q)) (W.drewN m))) := fun m => dpick_any (S0.drawn m) 0 (by omega) (numq q)
  obtain ⟨⟨F, b⟩, hF⟩ : ∃ f, s.pickA 0 (numq q) = f := ⟨_, rfl⟩
  rw [hF] at hP ⊢
  generalize s.pickS 0 (numq q) = PS at *
  have dm : (s.mode == 1) = false := by simp [hm]
  rw [h1] at u0
  generalize q.b1.toNat = B1 at *
  generalize q.b2.toNat = B2 at *
  generalize q.b3.toNat = B3 at *
  generalize q.b4.toNat = B4 at *
  generalize hN0 : numq q = N0 at *
  clear hN0 h S0 T0 z0 q0 b0 hf hgk hkl ho eS eA hF h1 hm hb
  go_enter Try.func22, Try.ntmps22
  go_upto_region 1 with fail
  change Code.wp Try.prog _ _ _ ((w.alloc (.cells q.arr 34)).alloc (.cells zA8 34))
  rw [hW]
  go_quiet (fail)
  try rw [hNq.out]
  go_wp2_with (first | (refine ldG (lW nq) rfl _ rfl rfl ?_))
  refine (hP.out nq).mono ?_
  rintro e w2 ⟨rfl, S2, T2⟩
  have K := HK.out
  have z2 : Qb (k + 1) F8.nul w2 := (Qb.drawn HZ.out nq).two T2 (by omega) (by omega)
  go_wp2_with (first | (refine sdF (g := F) z2 rfl _ _ rfl rfl rfl ?_))
  exact bodyPost_ret (dtake_results (z2.row F) _ rfl rfl) rfl (PostD.mk rfl S2 z2 ((HT.out.drawn nq).trans T2) (by have := HK.out; omega))
set_option maxHeartbeats 4000000 in
theorem dtp65_n1 (h : Da g s w) (ho : s.Ok) (q : F8) (h1 : q.b0.toNat = 65) (hm : s.mode ≠ 1) (hb : s.bare = false) (hx : (s.ip == 0) = false) : Calls Try.prog 22 #[.pointer (some ⟨g, 0, none⟩), .agg q.arr] w (PostD g (s.takeS q) (s.takeA q) w) := by
  obtain ⟨W, k, hW, hk, q0, z0, b0, hkl⟩ := Qb.fresh2 w q
  have hgk : g < k := by rw [← hk]; exact h.lt
  have T0 : Two g g w W := by rw [← hW]; exact ((Two.refl _ _ _).alloc _).alloc _
  have S0 : Da g s W := h.below b0
  have u0 := q0.c0
  have u1 := q0.c1
  have u2 := q0.c2
  have u3 := q0.c3
  have u4 := q0.c4
  have l1 := q.b1.toNat_lt
  have l2 := q.b2.toNat_lt
  have l3 := q.b3.toNat_lt
  have l4 := q.b4.toNat_lt
  have lW : ∀ m, (loadVar 34 ⟨k, 0, none⟩).run Try.prog (W.drewN m) = .ok (.agg q.arr) (W.drewN m) := fun m => (Qb.drawn q0 m).load
  have hNq : Hid ((q.b1.toNat : Int) + 256 * (q.b2.toNat : Int) + 65536 * (q.b3.toNat : Int) + 16777216 * (q.b4.toNat : Int) = ((numq q : Nat) : Int)) := by show _ = _; unfold numq; omega
  have w1 : IntKind.u32.wrap (256 * (q.b2.toNat : Int)) = 256 * (q.b2.toNat : Int) := by have := wrapU32 (256 * q.b2.toNat) (by omega); simpa using this
  have w2 : IntKind.u32.wrap ((q.b1.toNat : Int) + 256 * (q.b2.toNat : Int)) = (q.b1.toNat : Int) + 256 * (q.b2.toNat : Int) := by have := wrapU32 (q.b1.toNat + 256 * q.b2.toNat) (by omega); simpa using this
  have w3 : IntKind.u32.wrap (65536 * (q.b3.toNat : Int)) = 65536 * (q.b3.toNat : Int) := by have := wrapU32 (65536 * q.b3.toNat) (by omega); simpa using this
  have w4 : IntKind.u32.wrap ((q.b1.toNat : Int) + 256 * (q.b2.toNat : Int) + 65536 * (q.b3.toNat : Int)) = (q.b1.toNat : Int) + 256 * (q.b2.toNat : Int) + 65536 * (q.b3.toNat : Int) := by have := wrapU32 (q.b1.toNat + 256 * q.b2.toNat + 65536 * q.b3.toNat) (by omega); simpa using this
  have w5 : IntKind.u32.wrap (16777216 * (q.b4.toNat : Int)) = 16777216 * (q.b4.toNat : Int) := by have := wrapU32 (16777216 * q.b4.toNat) (by omega); simpa using this
  have w6 : IntKind.u32.wrap ((q.b1.toNat : Int) + 256 * (q.b2.toNat : Int) + 65536 * (q.b3.toNat : Int) + 16777216 * (q.b4.toNat : Int)) = (q.b1.toNat : Int) + 256 * (q.b2.toNat : Int) + 65536 * (q.b3.toNat : Int) + 16777216 * (q.b4.toNat : Int) := by have := wrapU32 (q.b1.toNat + 256 * q.b2.toNat + 65536 * q.b3.toNat + 16777216 * q.b4.toNat) (by omega); simpa using this
  obtain ⟨_, _, _, _, c4, _, c6, _, _, _, _, _, c12, _, _, hf⟩ := S0.cells
  have f6 := hf 6
  have f12 := hf 12
  have HS := hidOf2 S0
  have HT := hidOf2 T0
  have HZ := hidOf2 z0
  have HK : Hid (w.heap.size = k ∧ g < k ∧ k + 1 < W.heap.size) := ⟨hk, hgk, hkl⟩
  have eS : s.takeS q = s.pickS 1 (numq q) := by unfold Ld.takeS; rw [if_neg (by omega), if_neg (by omega), if_neg hm, if_pos (by omega), h1]; rfl
  have eA : s.takeA q = s.pickA 1 (numq q) := by unfold Ld.takeA; rw [if_neg (by omega), if_neg (by omega), if_neg hm, if_pos (by omega), h1]; rfl
  rw [eS, eA]
  have hP : Hid (∀ m, Calls Try.prog 30 #[.pointer (some ⟨g, 0, none⟩), .int .i64 1, .int .u32 (numq q : Nat)] (W.drewN m) (PostD g (s.pickS 1 (numq q)) (s.pickA 1 (numq q)) (W.drewN m))) := fun m => dpick_any (S0.drawn m) 1 (by omega) (numq q)
  obtain ⟨⟨F, b⟩, hF⟩ : ∃ f, s.pickA 1 (numq q) = f := ⟨_, rfl⟩
  rw [hF] at hP ⊢
  generalize s.pickS 1 (numq q) = PS at *
  have dm : (s.mode == 1) = false := by simp [hm]
  rw [h1] at u0
  generalize q.b1.toNat = B1 at *
  generalize q.b2.toNat = B2 at *
  generalize q.b3.toNat = B3 at *
  generalize q.b4.toNat = B4 at *
  generalize hN0 : numq q = N0 at *
  clear hN0 h S0 T0 z0 q0 b0 hf hgk hkl ho eS eA hF h1 hm hb
  go_enter Try.func22, Try.ntmps22
  go_upto_region 1 with fail
  change Code.wp Try.prog _ _ _ ((w.alloc (.cells q.arr 34)).alloc (.cells zA8 34))
  rw [hW]
  go_quiet (fail)
  try rw [hNq.out]
  go_wp2_with (first | (refine ldG (lW nq) rfl _ rfl rfl ?_))
  refine (hP.out nq).mono ?_
  rintro e w2 ⟨rfl, S2, T2⟩
  have K := HK.out
  have z2 : Qb (k + 1) F8.nul w2 := (Qb.drawn HZ.out nq).two T2 (by omega) (by omega)
  go_wp2_with (first | (refine sdF (g := F) z2 rfl _ _ rfl rfl rfl ?_))
  exact bodyPost_ret (dtake_results (z2.row F) _ rfl rfl) rfl (PostD.mk rfl S2 z2 ((HT.out.drawn nq).trans T2) (by have := HK.out; omega))
set_option maxHeartbeats 4000000 in
theorem dtp66_n1 (h : Da g s w) (ho : s.Ok) (q : F8) (h1 : q.b0.toNat = 66) (hm : s.mode ≠ 1) (hb : s.bare = false) (hx : (s.ip == 0) = false) : Calls Try.prog 22 #[.pointer (some ⟨g, 0, none⟩), .agg q.arr] w (PostD g (s.takeS q) (s.takeA q) w) := by
  obtain ⟨W, k, hW, hk, q0, z0, b0, hkl⟩ := Qb.fresh2 w q
  have hgk : g < k := by rw [← hk]; exact h.lt
  have T0 : Two g g w W := by rw [← hW]; exact ((Two.refl _ _ _).alloc _).alloc _
  have S0 : Da g s W := h.below b0
  have u0 := q0.c0
  have u1 := q0.c1
  have u2 := q0.c2
  have u3 := q0.c3
  have u4 := q0.c4
  have l1 := q.b1.toNat_lt
  have l2 := q.b2.toNat_lt
  have l3 := q.b3.toNat_lt
  have l4 := q.b4.toNat_lt
  have lW : ∀ m, (loadVar 34 ⟨k, 0, none⟩).run Try.prog (W.drewN m) = .ok (.agg q.arr) (W.drewN m) := fun m => (Qb.drawn q0 m).load
  have hNq : Hid ((q.b1.toNat : Int) + 256 * (q.b2.toNat : Int) + 65536 * (q.b3.toNat : Int) + 16777216 * (q.b4.toNat : Int) = ((numq q : Nat) : Int)) := by show _ = _; unfold numq; omega
  have w1 : IntKind.u32.wrap (256 * (q.b2.toNat : Int)) = 256 * (q.b2.toNat : Int) := by have := wrapU32 (256 * q.b2.toNat) (by omega); simpa using this
  have w2 : IntKind.u32.wrap ((q.b1.toNat : Int) + 256 * (q.b2.toNat : Int)) = (q.b1.toNat : Int) + 256 * (q.b2.toNat : Int) := by have := wrapU32 (q.b1.toNat + 256 * q.b2.toNat) (by omega); simpa using this
  have w3 : IntKind.u32.wrap (65536 * (q.b3.toNat : Int)) = 65536 * (q.b3.toNat : Int) := by have := wrapU32 (65536 * q.b3.toNat) (by omega); simpa using this
  have w4 : IntKind.u32.wrap ((q.b1.toNat : Int) + 256 * (q.b2.toNat : Int) + 65536 * (q.b3.toNat : Int)) = (q.b1.toNat : Int) + 256 * (q.b2.toNat : Int) + 65536 * (q.b3.toNat : Int) := by have := wrapU32 (q.b1.toNat + 256 * q.b2.toNat + 65536 * q.b3.toNat) (by omega); simpa using this
  have w5 : IntKind.u32.wrap (16777216 * (q.b4.toNat : Int)) = 16777216 * (q.b4.toNat : Int) := by have := wrapU32 (16777216 * q.b4.toNat) (by omega); simpa using this
  have w6 : IntKind.u32.wrap ((q.b1.toNat : Int) + 256 * (q.b2.toNat : Int) + 65536 * (q.b3.toNat : Int) + 16777216 * (q.b4.toNat : Int)) = (q.b1.toNat : Int) + 256 * (q.b2.toNat : Int) + 65536 * (q.b3.toNat : Int) + 16777216 * (q.b4.toNat : Int) := by have := wrapU32 (q.b1.toNat + 256 * q.b2.toNat + 65536 * q.b3.toNat + 16777216 * q.b4.toNat) (by omega); simpa using this
  obtain ⟨_, _, _, _, c4, _, c6, _, _, _, _, _, c12, _, _, hf⟩ := S0.cells
  have f6 := hf 6
  have f12 := hf 12
  have HS := hidOf2 S0
  have HT := hidOf2 T0
  have HZ := hidOf2 z0
  have HK : Hid (w.heap.size = k ∧ g < k ∧ k + 1 < W.heap.size) := ⟨hk, hgk, hkl⟩
  have eS : s.takeS q = s.pickS 2 (numq q) := by unfold Ld.takeS; rw [if_neg (by omega), if_neg (by omega), if_neg hm, if_pos (by omega), h1]; rfl
  have eA : s.takeA q = s.pickA 2 (numq q) := by unfold Ld.takeA; rw [if_neg (by omega), if_neg (by omega), if_neg hm, if_pos (by omega), h1]; rfl
  rw [eS, eA]
  have hP : Hid (∀ m, Calls Try.prog 30 #[.pointer (some ⟨g, 0, none⟩), .int .i64 2, .int .u32 (numq q : Nat)] (W.drewN m) (PostD g (s.pickS 2 (numq q)) (s.pickA 2 (numq q)) (W.drewN m))) := fun m => dpick_any (S0.drawn m) 2 (by omega) (numq q)
  obtain ⟨⟨F, b⟩, hF⟩ : ∃ f, s.pickA 2 (numq q) = f := ⟨_, rfl⟩
  rw [hF] at hP ⊢
  generalize s.pickS 2 (numq q) = PS at *
  have dm : (s.mode == 1) = false := by simp [hm]
  rw [h1] at u0
  generalize q.b1.toNat = B1 at *
  generalize q.b2.toNat = B2 at *
  generalize q.b3.toNat = B3 at *
  generalize q.b4.toNat = B4 at *
  generalize hN0 : numq q = N0 at *
  clear hN0 h S0 T0 z0 q0 b0 hf hgk hkl ho eS eA hF h1 hm hb
  go_enter Try.func22, Try.ntmps22
  go_upto_region 1 with fail
  change Code.wp Try.prog _ _ _ ((w.alloc (.cells q.arr 34)).alloc (.cells zA8 34))
  rw [hW]
  go_quiet (fail)
  try rw [hNq.out]
  go_wp2_with (first | (refine ldG (lW nq) rfl _ rfl rfl ?_))
  refine (hP.out nq).mono ?_
  rintro e w2 ⟨rfl, S2, T2⟩
  have K := HK.out
  have z2 : Qb (k + 1) F8.nul w2 := (Qb.drawn HZ.out nq).two T2 (by omega) (by omega)
  go_wp2_with (first | (refine sdF (g := F) z2 rfl _ _ rfl rfl rfl ?_))
  exact bodyPost_ret (dtake_results (z2.row F) _ rfl rfl) rfl (PostD.mk rfl S2 z2 ((HT.out.drawn nq).trans T2) (by have := HK.out; omega))
set_option maxHeartbeats 4000000 in
theorem dtp67_n1 (h : Da g s w) (ho : s.Ok) (q : F8) (h1 : q.b0.toNat = 67) (hm : s.mode ≠ 1) (hb : s.bare = false) (hx : (s.ip == 0) = false) : Calls Try.prog 22 #[.pointer (some ⟨g, 0, none⟩), .agg q.arr] w (PostD g (s.takeS q) (s.takeA q) w) := by
  obtain ⟨W, k, hW, hk, q0, z0, b0, hkl⟩ := Qb.fresh2 w q
  have hgk : g < k := by rw [← hk]; exact h.lt
  have T0 : Two g g w W := by rw [← hW]; exact ((Two.refl _ _ _).alloc _).alloc _
  have S0 : Da g s W := h.below b0
  have u0 := q0.c0
  have u1 := q0.c1
  have u2 := q0.c2
  have u3 := q0.c3
  have u4 := q0.c4
  have l1 := q.b1.toNat_lt
  have l2 := q.b2.toNat_lt
  have l3 := q.b3.toNat_lt
  have l4 := q.b4.toNat_lt
  have lW : ∀ m, (loadVar 34 ⟨k, 0, none⟩).run Try.prog (W.drewN m) = .ok (.agg q.arr) (W.drewN m) := fun m => (Qb.drawn q0 m).load
  have hNq : Hid ((q.b1.toNat : Int) + 256 * (q.b2.toNat : Int) + 65536 * (q.b3.toNat : Int) + 16777216 * (q.b4.toNat : Int) = ((numq q : Nat) : Int)) := by show _ = _; unfold numq; omega
  have w1 : IntKind.u32.wrap (256 * (q.b2.toNat : Int)) = 256 * (q.b2.toNat : Int) := by have := wrapU32 (256 * q.b2.toNat) (by omega); simpa using this
  have w2 : IntKind.u32.wrap ((q.b1.toNat : Int) + 256 * (q.b2.toNat : Int)) = (q.b1.toNat : Int) + 256 * (q.b2.toNat : Int) := by have := wrapU32 (q.b1.toNat + 256 * q.b2.toNat) (by omega); simpa using this
  have w3 : IntKind.u32.wrap (65536 * (q.b3.toNat : Int)) = 65536 * (q.b3.toNat : Int) := by have := wrapU32 (65536 * q.b3.toNat) (by omega); simpa using this
  have w4 : IntKind.u32.wrap ((q.b1.toNat : Int) + 256 * (q.b2.toNat : Int) + 65536 * (q.b3.toNat : Int)) = (q.b1.toNat : Int) + 256 * (q.b2.toNat : Int) + 65536 * (q.b3.toNat : Int) := by have := wrapU32 (q.b1.toNat + 256 * q.b2.toNat + 65536 * q.b3.toNat) (by omega); simpa using this
  have w5 : IntKind.u32.wrap (16777216 * (q.b4.toNat : Int)) = 16777216 * (q.b4.toNat : Int) := by have := wrapU32 (16777216 * q.b4.toNat) (by omega); simpa using this
  have w6 : IntKind.u32.wrap ((q.b1.toNat : Int) + 256 * (q.b2.toNat : Int) + 65536 * (q.b3.toNat : Int) + 16777216 * (q.b4.toNat : Int)) = (q.b1.toNat : Int) + 256 * (q.b2.toNat : Int) + 65536 * (q.b3.toNat : Int) + 16777216 * (q.b4.toNat : Int) := by have := wrapU32 (q.b1.toNat + 256 * q.b2.toNat + 65536 * q.b3.toNat + 16777216 * q.b4.toNat) (by omega); simpa using this
  obtain ⟨_, _, _, _, c4, _, c6, _, _, _, _, _, c12, _, _, hf⟩ := S0.cells
  have f6 := hf 6
  have f12 := hf 12
  have HS := hidOf2 S0
  have HT := hidOf2 T0
  have HZ := hidOf2 z0
  have HK : Hid (w.heap.size = k ∧ g < k ∧ k + 1 < W.heap.size) := ⟨hk, hgk, hkl⟩
  have eS : s.takeS q = s.pickS 3 (numq q) := by unfold Ld.takeS; rw [if_neg (by omega), if_neg (by omega), if_neg hm, if_pos (by omega), h1]; rfl
  have eA : s.takeA q = s.pickA 3 (numq q) := by unfold Ld.takeA; rw [if_neg (by omega), if_neg (by omega), if_neg hm, if_pos (by omega), h1]; rfl
  rw [eS, eA]
  have hP : Hid (∀ m, Calls Try.prog 30 #[.pointer (some ⟨g, 0, none⟩), .int .i64 3, .int .u32 (numq q : Nat)] (W.drewN m) (PostD g (s.pickS 3 (numq q)) (s.pickA 3 (numq q)) (W.drewN m))) := fun m => dpick_any (S0.drawn m) 3 (by omega) (numq q)
  obtain ⟨⟨F, b⟩, hF⟩ : ∃ f, s.pickA 3 (numq q) = f := ⟨_, rfl⟩
  rw [hF] at hP ⊢
  generalize s.pickS 3 (numq q) = PS at *
  have dm : (s.mode == 1) = false := by simp [hm]
  rw [h1] at u0
  generalize q.b1.toNat = B1 at *
  generalize q.b2.toNat = B2 at *
  generalize q.b3.toNat = B3 at *
  generalize q.b4.toNat = B4 at *
  generalize hN0 : numq q = N0 at *
  clear hN0 h S0 T0 z0 q0 b0 hf hgk hkl ho eS eA hF h1 hm hb
  go_enter Try.func22, Try.ntmps22
  go_upto_region 1 with fail
  change Code.wp Try.prog _ _ _ ((w.alloc (.cells q.arr 34)).alloc (.cells zA8 34))
  rw [hW]
  go_quiet (fail)
  try rw [hNq.out]
  go_wp2_with (first | (refine ldG (lW nq) rfl _ rfl rfl ?_))
  refine (hP.out nq).mono ?_
  rintro e w2 ⟨rfl, S2, T2⟩
  have K := HK.out
  have z2 : Qb (k + 1) F8.nul w2 := (Qb.drawn HZ.out nq).two T2 (by omega) (by omega)
  go_wp2_with (first | (refine sdF (g := F) z2 rfl _ _ rfl rfl rfl ?_))
  exact bodyPost_ret (dtake_results (z2.row F) _ rfl rfl) rfl (PostD.mk rfl S2 z2 ((HT.out.drawn nq).trans T2) (by have := HK.out; omega))
set_option maxHeartbeats 4000000 in
theorem dtc_76_n2 (h : Da g s w) (ho : s.Ok) (q : F8) (h1 : q.b0.toNat = 76) (hm : s.mode = 1) (hb : s.bare = false) (hx : s.ip = 0) (hy : (s.iu == 0) = false) : Calls Try.prog 22 #[.pointer (some ⟨g, 0, none⟩), .agg q.arr] w (PostD g (s.takeS q) (s.takeA q) w) := by
  obtain ⟨W, k, hW, hk, q0, z0, b0, hkl⟩ := Qb.fresh2 w q
  have hgk : g < k := by rw [← hk]; exact h.lt
  have T0 : Two g g w W := by rw [← hW]; exact ((Two.refl _ _ _).alloc _).alloc _
  have S0 : Da g s W := h.below b0
  have u0 := q0.c0
  have u1 := q0.c1
  have u2 := q0.c2
  have u3 := q0.c3
  have u4 := q0.c4
  have l1 := q.b1.toNat_lt
  have l2 := q.b2.toNat_lt
  have l3 := q.b3.toNat_lt
  have l4 := q.b4.toNat_lt
  have lW : ∀ m, (loadVar 34 ⟨k, 0, none⟩).run Try.prog (W.drewN m) = .ok (.agg q.arr) (W.drewN m) := fun m => (Qb.drawn q0 m).load
  have hNq : Hid ((q.b1.toNat : Int) + 256 * (q.b2.toNat : Int) + 65536 * (q.b3.toNat : Int) + 16777216 * (q.b4.toNat : Int) = ((numq q : Nat) : Int)) := by show _ = _; unfold numq; omega
  have w1 : IntKind.u32.wrap (256 * (q.b2.toNat : Int)) = 256 * (q.b2.toNat : Int) := by have := wrapU32 (256 * q.b2.toNat) (by omega); simpa using this
  have w2 : IntKind.u32.wrap ((q.b1.toNat : Int) + 256 * (q.b2.toNat : Int)) = (q.b1.toNat : Int) + 256 * (q.b2.toNat : Int) := by have := wrapU32 (q.b1.toNat + 256 * q.b2.toNat) (by omega); simpa using this
  have w3 : IntKind.u32.wrap (65536 * (q.b3.toNat : Int)) = 65536 * (q.b3.toNat : Int) := by have := wrapU32 (65536 * q.b3.toNat) (by omega); simpa using this
  have w4 : IntKind.u32.wrap ((q.b1.toNat : Int) + 256 * (q.b2.toNat : Int) + 65536 * (q.b3.toNat : Int)) = (q.b1.toNat : Int) + 256 * (q.b2.toNat : Int) + 65536 * (q.b3.toNat : Int) := by have := wrapU32 (q.b1.toNat + 256 * q.b2.toNat + 65536 * q.b3.toNat) (by omega); simpa using this
  have w5 : IntKind.u32.wrap (16777216 * (q.b4.toNat : Int)) = 16777216 * (q.b4.toNat : Int) := by have := wrapU32 (16777216 * q.b4.toNat) (by omega); simpa using this
  have w6 : IntKind.u32.wrap ((q.b1.toNat : Int) + 256 * (q.b2.toNat : Int) + 65536 * (q.b3.toNat : Int) + 16777216 * (q.b4.toNat : Int)) = (q.b1.toNat : Int) + 256 * (q.b2.toNat : Int) + 65536 * (q.b3.toNat : Int) + 16777216 * (q.b4.toNat : Int) := by have := wrapU32 (q.b1.toNat + 256 * q.b2.toNat + 65536 * q.b3.toNat + 16777216 * q.b4.toNat) (by omega); simpa using this
  obtain ⟨_, _, _, _, c4, _, c6, _, _, _, _, _, c12, _, _, hf⟩ := S0.cells
  have f6 := hf 6
  have f12 := hf 12
  have HS := hidOf2 S0
  have HT := hidOf2 T0
  have HZ := hidOf2 z0
  have HK : Hid (w.heap.size = k ∧ g < k ∧ k + 1 < W.heap.size) := ⟨hk, hgk, hkl⟩
  have eS : s.takeS q = s.confS q := by unfold Ld.takeS; rw [if_neg (by omega), if_neg (show ¬ (q.b0.toNat = 76 ∧ s.bare = true) by rw [hb]; simp), if_pos hm]
  have eA : s.takeA q = s.confA q := by unfold Ld.takeA; rw [if_neg (by omega), if_neg (show ¬ (q.b0.toNat = 76 ∧ s.bare = true) by rw [hb]; simp), if_pos hm]
  rw [eS, eA]
  have hP : Hid (∀ m, Calls Try.prog 29 #[.pointer (some ⟨g, 0, none⟩), .agg q.arr] (W.drewN m) (PostD g (s.confS q) (s.confA q) (W.drewN m))) := fun m => dset_any (S0.drawn m) ho q
  obtain ⟨⟨F, b⟩, hF⟩ : ∃ f, s.confA q = f := ⟨_, rfl⟩
  rw [hF] at hP ⊢
  generalize s.confS q = PS at *
  rw [hm] at c12
  rw [hx] at c4
  rw [h1] at u0
  generalize q.b1.toNat = B1 at *
  generalize q.b2.toNat = B2 at *
  generalize q.b3.toNat = B3 at *
  generalize q.b4.toNat = B4 at *
  generalize hN0 : numq q = N0 at *
  clear hN0 h S0 T0 z0 q0 b0 hf hgk hkl ho eS eA hF h1 hm hb hx
  go_enter Try.func22, Try.ntmps22
  go_upto_region 1 with fail
  change Code.wp Try.prog _ _ _ ((w.alloc (.cells q.arr 34)).alloc (.cells zA8 34))
  rw [hW]
  go_quiet (fail)
  try rw [hNq.out]
  go_wp2_with (first | (refine ldG (lW nq) rfl _ rfl rfl ?_))
  refine (hP.out nq).mono ?_
  rintro e w2 ⟨rfl, S2, T2⟩
  have K := HK.out
  have z2 : Qb (k + 1) F8.nul w2 := (Qb.drawn HZ.out nq).two T2 (by omega) (by omega)
  go_wp2_with (first | (refine sdF (g := F) z2 rfl _ _ rfl rfl rfl ?_))
  exact bodyPost_ret (dtake_results (z2.row F) _ rfl rfl) rfl (PostD.mk rfl S2 z2 ((HT.out.drawn nq).trans T2) (by have := HK.out; omega))
set_option maxHeartbeats 4000000 in
theorem dtc_o_n2 (h : Da g s w) (ho : s.Ok) (q : F8) (h4 : q.b0.toNat ≠ 4) (h76 : q.b0.toNat ≠ 76) (hm : s.mode = 1) (hb : s.bare = false) (hx : s.ip = 0) (hy : (s.iu == 0) = false) : Calls Try.prog 22 #[.pointer (some ⟨g, 0, none⟩), .agg q.arr] w (PostD g (s.takeS q) (s.takeA q) w) := by
  obtain ⟨W, k, hW, hk, q0, z0, b0, hkl⟩ := Qb.fresh2 w q
  have hgk : g < k := by rw [← hk]; exact h.lt
  have T0 : Two g g w W := by rw [← hW]; exact ((Two.refl _ _ _).alloc _).alloc _
  have S0 : Da g s W := h.below b0
  have u0 := q0.c0
  have u1 := q0.c1
  have u2 := q0.c2
  have u3 := q0.c3
  have u4 := q0.c4
  have l1 := q.b1.toNat_lt
  have l2 := q.b2.toNat_lt
  have l3 := q.b3.toNat_lt
  have l4 := q.b4.toNat_lt
  have lW : ∀ m, (loadVar 34 ⟨k, 0, none⟩).run Try.prog (W.drewN m) = .ok (.agg q.arr) (W.drewN m) := fun m => (Qb.drawn q0 m).load
  have hNq : Hid ((q.b1.toNat : Int) + 256 * (q.b2.toNat : Int) + 65536 * (q.b3.toNat : Int) + 16777216 * (q.b4.toNat : Int) = ((numq q : Nat) : Int)) := by show _ = _; unfold numq; omega
  have w1 : IntKind.u32.wrap (256 * (q.b2.toNat : Int)) = 256 * (q.b2.toNat : Int) := by have := wrapU32 (256 * q.b2.toNat) (by omega); simpa using this
  have w2 : IntKind.u32.wrap ((q.b1.toNat : Int) + 256 * (q.b2.toNat : Int)) = (q.b1.toNat : Int) + 256 * (q.b2.toNat : Int) := by have := wrapU32 (q.b1.toNat + 256 * q.b2.toNat) (by omega); simpa using this
  have w3 : IntKind.u32.wrap (65536 * (q.b3.toNat : Int)) = 65536 * (q.b3.toNat : Int) := by have := wrapU32 (65536 * q.b3.toNat) (by omega); simpa using this
  have w4 : IntKind.u32.wrap ((q.b1.toNat : Int) + 256 * (q.b2.toNat : Int) + 65536 * (q.b3.toNat : Int)) = (q.b1.toNat : Int) + 256 * (q.b2.toNat : Int) + 65536 * (q.b3.toNat : Int) := by have := wrapU32 (q.b1.toNat + 256 * q.b2.toNat + 65536 * q.b3.toNat) (by omega); simpa using this
  have w5 : IntKind.u32.wrap (16777216 * (q.b4.toNat : Int)) = 16777216 * (q.b4.toNat : Int) := by have := wrapU32 (16777216 * q.b4.toNat) (by omega); simpa using this
  have w6 : IntKind.u32.wrap ((q.b1.toNat : Int) + 256 * (q.b2.toNat : Int) + 65536 * (q.b3.toNat : Int) + 16777216 * (q.b4.toNat : Int)) = (q.b1.toNat : Int) + 256 * (q.b2.toNat : Int) + 65536 * (q.b3.toNat : Int) + 16777216 * (q.b4.toNat : Int) := by have := wrapU32 (q.b1.toNat + 256 * q.b2.toNat + 65536 * q.b3.toNat + 16777216 * q.b4.toNat) (by omega); simpa using this
  obtain ⟨_, _, _, _, c4, _, c6, _, _, _, _, _, c12, _, _, hf⟩ := S0.cells
  have f6 := hf 6
  have f12 := hf 12
  have HS := hidOf2 S0
  have HT := hidOf2 T0
  have HZ := hidOf2 z0
  have HK : Hid (w.heap.size = k ∧ g < k ∧ k + 1 < W.heap.size) := ⟨hk, hgk, hkl⟩
  have eS : s.takeS q = s.confS q := by unfold Ld.takeS; rw [if_neg h4, if_neg (fun x => h76 x.1), if_pos hm]
  have eA : s.takeA q = s.confA q := by unfold Ld.takeA; rw [if_neg h4, if_neg (fun x => h76 x.1), if_pos hm]
  rw [eS, eA]
  have hP : Hid (∀ m, Calls Try.prog 29 #[.pointer (some ⟨g, 0, none⟩), .agg q.arr] (W.drewN m) (PostD g (s.confS q) (s.confA q) (W.drewN m))) := fun m => dset_any (S0.drawn m) ho q
  obtain ⟨⟨F, b⟩, hF⟩ : ∃ f, s.confA q = f := ⟨_, rfl⟩
  rw [hF] at hP ⊢
  generalize s.confS q = PS at *
  rw [hm] at c12
  rw [hx] at c4
  have d4 : ((q.b0.toNat : Int) == 4) = false := by simp; omega
  have d76 : ((q.b0.toNat : Int) == 76) = false := by simp; omega
  generalize q.b0.toNat = M at *
  generalize q.b1.toNat = B1 at *
  generalize q.b2.toNat = B2 at *
  generalize q.b3.toNat = B3 at *
  generalize q.b4.toNat = B4 at *
  generalize hN0 : numq q = N0 at *
  clear hN0 h S0 T0 z0 q0 b0 hf hgk hkl ho eS eA hF h4 h76 hm hb hx
  go_enter Try.func22, Try.ntmps22
  go_upto_region 1 with fail
  change Code.wp Try.prog _ _ _ ((w.alloc (.cells q.arr 34)).alloc (.cells zA8 34))
  rw [hW]
  go_quiet (fail)
  try rw [hNq.out]
  go_wp2_with (first | (refine ldG (lW nq) rfl _ rfl rfl ?_))
  refine (hP.out nq).mono ?_
  rintro e w2 ⟨rfl, S2, T2⟩
  have K := HK.out
  have z2 : Qb (k + 1) F8.nul w2 := (Qb.drawn HZ.out nq).two T2 (by omega) (by omega)
  go_wp2_with (first | (refine sdF (g := F) z2 rfl _ _ rfl rfl rfl ?_))
  exact bodyPost_ret (dtake_results (z2.row F) _ rfl rfl) rfl (PostD.mk rfl S2 z2 ((HT.out.drawn nq).trans T2) (by have := HK.out; omega))
set_option maxHeartbeats 4000000 in
theorem dtp64_n2 (h : Da g s w) (ho : s.Ok) (q : F8) (h1 : q.b0.toNat = 64) (hm : s.mode ≠ 1) (hb : s.bare = false) (hx : s.ip = 0) (hy : (s.iu == 0) = false) : Calls Try.prog 22 #[.pointer (some ⟨g, 0, none⟩), .agg q.arr] w (PostD g (s.takeS q) (s.takeA q) w) := by
  obtain ⟨W, k, hW, hk, q0, z0, b0, hkl⟩ := Qb.fresh2 w q
  have hgk : g < k := by rw [← hk]; exact h.lt
  have T0 : Two g g w W := by rw [← hW]; exact ((Two.refl _ _ _).alloc _).alloc _
  have S0 : Da g s W := h.below b0
  have u0 := q0.c0
  have u1 := q0.c1
  have u2 := q0.c2
  have u3 := q0.c3
  have u4 := q0.c4
  have l1 := q.b1.toNat_lt
  have l2 := q.b2.toNat_lt
  have l3 := q.b3.toNat_lt
  have l4 := q.b4.toNat_lt
  have lW : ∀ m, (loadVar 34 ⟨k, 0, none⟩).run Try.prog (W.drewN m) = .ok (.agg q.arr) (W.drewN m) := fun m => (Qb.drawn q0 m).load
  have hNq : Hid ((q.b1.toNat : Int) + 256 * (q.b2.toNat : Int) + 65536 * (q.b3.toNat : Int) + 16777216 * (q.b4.toNat : Int) = ((numq q : Nat) : Int)) := by show _ = _; unfold numq; omega
  have w1 : IntKind.u32.wrap (256 * (q.b2.toNat : Int)) = 256 * (q.b2.toNat : Int) := by have := wrapU32 (256 * q.b2.toNat) (by omega); simpa using this
  have w2 : IntKind.u32.wrap ((q.b1.toNat : Int) + 256 * (q.b2.toNat : Int)) = (q.b1.toNat : Int) + 256 * (q.b2.toNat : Int) := by have := wrapU32 (q.b1.toNat + 256 * q.b2.toNat) (by omega); simpa using this
  have w3 : IntKind.u32.wrap (65536 * (q.b3.toNat : Int)) = 65536 * (q.b3.toNat : Int) := by have := wrapU32 (65536 * q.b3.toNat) (by omega); simpa using this
  have w4 : IntKind.u32.wrap ((q.b1.toNat : Int) + 256 * (q.b2.toNat : Int) + 65536 * (q.b3.toNat : Int)) = (q.b1.toNat : Int) + 256 * (q.b2.toNat : Int) + 65536 * (q.b3.toNat : Int) := by have := wrapU32 (q.b1.toNat + 256 * q.b2.toNat + 65536 * q.b3.toNat) (by omega); simpa using this
  have w5 : IntKind.u32.wrap (16777216 * (q.b4.toNat : Int)) = 16777216 * (q.b4.toNat : Int) := by have := wrapU32 (16777216 * q.b4.toNat) (by omega); simpa using this
  have w6 : IntKind.u32.wrap ((q.b1.toNat : Int) + 256 * (q.b2.toNat : Int) + 65536 * (q.b3.toNat : Int) + 16777216 * (q.b4.toNat : Int)) = (q.b1.toNat : Int) + 256 * (q.b2.toNat : Int) + 65536 * (q.b3.toNat : Int) + 16777216 * (q.b4.toNat : Int) := by have := wrapU32 (q.b1.toNat + 256 * q.b2.toNat + 65536 * q.b3.toNat + 16777216 * q.b4.toNat) (by omega); simpa using this
  obtain ⟨_, _, _, _, c4, _, c6, _, _, _, _, _, c12, _, _, hf⟩ := S0.cells
  have f6 := hf 6
  have f12 := hf 12
  have HS := hidOf2 S0
  have HT := hidOf2 T0
  have HZ := hidOf2 z0
  have HK : Hid (w.heap.size = k ∧ g < k ∧ k + 1 < W.heap.size) := ⟨hk, hgk, hkl⟩
  have eS : s.takeS q = s.pickS 0 (numq q) := by unfold Ld.takeS; rw [if_neg (by omega), if_neg (by omega), if_neg hm, if_pos (by omega), h1]; rfl
  have eA : s.takeA q = s.pickA 0 (numq q) := by unfold Ld.takeA; rw [if_neg (by omega), if_neg (by omega), if_neg hm, if_pos (by omega), h1]; rfl
  rw [eS, eA]
  have hP : Hid (∀ m, Calls Try.prog 30 #[.pointer (some ⟨g, 0, none⟩), .int .i64 0, .int .u32 (numq q : Nat)] (W.drewN m) (PostD g (s.pickS 0 (numq q)) (s.pickA 0 (numq q)) (W.drewN m))) := fun m => dpick_any (S0.drawn m) 0 (by omega) (numq q)
  obtain ⟨⟨F, b⟩, hF⟩ : ∃ f, s.pickA 0 (numq q) = f := ⟨_, rfl⟩
  rw [hF] at hP ⊢
  generalize s.pickS 0 (numq q) = PS at *
  have dm : (s.mode == 1) = false := by simp [hm]
  rw [hx] at c4
  rw [h1] at u0
  generalize q.b1.toNat = B1 at *
  generalize q.b2.toNat = B2 at *
  generalize q.b3.toNat = B3 at *
  generalize q.b4.toNat = B4 at *
  generalize hN0 : numq q = N0 at *
  clear hN0 h S0 T0 z0 q0 b0 hf hgk hkl ho eS eA hF h1 hm hb hx
  go_enter Try.func22, Try.ntmps22
  go_upto_region 1 with fail
  change Code.wp Try.prog _ _ _ ((w.alloc (.cells q.arr 34)).alloc (.cells zA8 34))
  rw [hW]
  go_quiet (fail)
  try rw [hNq.out]
  go_wp2_with (first | (refine ldG (lW nq) rfl _ rfl rfl ?_))
  refine (hP.out nq).mono ?_
  rintro e w2 ⟨rfl, S2, T2⟩
  have K := HK.out
  have z2 : Qb (k + 1) F8.nul w2 := (Qb.drawn HZ.out nq).two T2 (by omega) (by omega)
  go_wp2_with (first | (refine sdF (g := F) z2 rfl _ _ rfl rfl rfl ?_))
  exact bodyPost_ret (dtake_results (z2.row F) _ rfl rfl) rfl (PostD.mk rfl S2 z2 ((HT.out.drawn nq).trans T2) (by have := HK.out; omega))
set_option maxHeartbeats 4000000 in
theorem dtp65_n2 (h : Da g s w) (ho : s.Ok) (q : F8) (h1 : q.b0.toNat = 65) (hm : s.mode ≠ 1) (hb : s.bare = false) (hx : s.ip = 0) (hy : (s.iu == 0) = false) : Calls Try.prog 22 #[.pointer (some ⟨g, 0, none⟩), .agg q.arr] w (PostD g (s.takeS q) (s.takeA q) w) := by
  obtain ⟨W, k, hW, hk, q0, z0, b0, hkl⟩ := Qb.fresh2 w q
  have hgk : g < k := by rw [← hk]; exact h.lt
  have T0 : Two g g w W := by rw [← hW]; exact ((Two.refl _ _ _).alloc _).alloc _
  have S0 : Da g s W := h.below b0
  have u0 := q0.c0
  have u1 := q0.c1
  have u2 := q0.c2
  have u3 := q0.c3
  have u4 := q0.c4
  have l1 := q.b1.toNat_lt
  have l2 := q.b2.toNat_lt
  have l3 := q.b3.toNat_lt
  have l4 := q.b4.toNat_lt
  have lW : ∀ m, (loadVar 34 ⟨k, 0, none⟩).run Try.prog (W.drewN m) = .ok (.agg q.arr) (W.drewN m) := fun m => (Qb.drawn q0 m).load
  have hNq : Hid ((q.b1.toNat : Int) + 256 * (q.b2.toNat : Int) + 65536 * (q.b3.toNat : Int) + 16777216 * (q.b4.toNat : Int) = ((numq q : Nat) : Int)) := by show _ = _; unfold numq; omega
  have w1 : IntKind.u32.wrap (256 * (q.b2.toNat : Int)) = 256 * (q.b2.toNat : Int) := by have := wrapU32 (256 * q.b2.toNat) (by omega); simpa using this
  have w2 : IntKind.u32.wrap ((q.b1.toNat : Int) + 256 * (q.b2.toNat : Int)) = (q.b1.toNat : Int) + 256 * (q.b2.toNat : Int) := by have := wrapU32 (q.b1.toNat + 256 * q.b2.toNat) (by omega); simpa using this
  have w3 : IntKind.u32.wrap (65536 * (q.b3.toNat : Int)) = 65536 * (q.b3.toNat : Int) := by have := wrapU32 (65536 * q.b3.toNat) (by omega); simpa using this
  have w4 : IntKind.u32.wrap ((q.b1.toNat : Int) + 256 * (q.b2.toNat : Int) + 65536 * (q.b3.toNat : Int)) = (q.b1.toNat : Int) + 256 * (q.b2.toNat : Int) + 65536 * (q.b3.toNat : Int) := by have := wrapU32 (q.b1.toNat + 256 * q.b2.toNat + 65536 * q.b3.toNat) (by omega); simpa using this
  have w5 : IntKind.u32.wrap (16777216 * (q.b4.toNat : Int)) = 16777216 * (q.b4.toNat : Int) := by have := wrapU32 (16777216 * q.b4.toNat) (by omega); simpa using this
  have w6 : IntKind.u32.wrap ((q.b1.toNat : Int) + 256 * (q.b2.toNat : Int) + 65536 * (q.b3.toNat : Int) + 16777216 * (q.b4.toNat : Int)) = (q.b1.toNat : Int) + 256 * (q.b2.toNat : Int) + 65536 * (q.b3.toNat : Int) + 16777216 * (q.b4.toNat : Int) := by have := wrapU32 (q.b1.toNat + 256 * q.b2.toNat + 65536 * q.b3.toNat + 16777216 * q.b4.toNat) (by omega); simpa using this
  obtain ⟨_, _, _, _, c4, _, c6, _, _, _, _, _, c12, _, _, hf⟩ := S0.cells
  have f6 := hf 6
  have f12 := hf 12
  have HS := hidOf2 S0
  have HT := hidOf2 T0
  have HZ := hidOf2 z0
  have HK : Hid (w.heap.size = k ∧ g < k ∧ k + 1 < W.heap.size) := ⟨hk, hgk, hkl⟩
  have eS : s.takeS q = s.pickS 1 (numq q) := by unfold Ld.takeS; rw [if_neg (by omega), if_neg (by omega), if_neg hm, if_pos (by omega), h1]; rfl
  have eA : s.takeA q = s.pickA 1 (numq q) := by unfold Ld.takeA; rw [if_neg (by omega), if_neg (by omega), if_neg hm, if_pos (by omega), h1]; rfl
  rw [eS, eA]
  have hP : Hid (∀ m, Calls Try.prog 30 #[.pointer (some ⟨g, 0, none⟩), .int .i64 1, .int .u32 (numq q : Nat)] (W.drewN m) (PostD g (s.pickS 1 (numq q)) (s.pickA 1 (numq q)) (W.drewN m))) := fun m => dpick_any (S0.drawn m) 1 (by omega) (numq q)
  obtain ⟨⟨F, b⟩, hF⟩ : ∃ f, s.pickA 1 (numq q) = f := ⟨_, rfl⟩
  rw [hF] at hP ⊢
  generalize s.pickS 1 (numq q) = PS at *
  have dm : (s.mode == 1) = false := by simp [hm]
  rw [hx] at c4
  rw [h1] at u0
  generalize q.b1.toNat = B1 at *
  generalize q.b2.toNat = B2 at *
  generalize q.b3.toNat = B3 at *
  generalize q.b4.toNat = B4 at *
  generalize hN0 : numq q = N0 at *
  clear hN0 h S0 T0 z0 q0 b0 hf hgk hkl ho eS eA hF h1 hm hb hx
  go_enter Try.func22, Try.ntmps22
  go_upto_region 1 with fail
  change Code.wp Try.prog _ _ _ ((w.alloc (.cells q.arr 34)).alloc (.cells zA8 34))
  rw [hW]
  go_quiet (fail)
  try rw [hNq.out]
  go_wp2_with (first | (refine ldG (lW nq) rfl _ rfl rfl ?_))
  refine (hP.out nq).mono ?_
  rintro e w2 ⟨rfl, S2, T2⟩
  have K := HK.out
  have z2 : Qb (k + 1) F8.nul w2 := (Qb.drawn HZ.out nq).two T2 (by omega) (by omega)
  go_wp2_with (first | (refine sdF (g := F) z2 rfl _ _ rfl rfl rfl ?_))
  exact bodyPost_ret (dtake_results (z2.row F) _ rfl rfl) rfl (PostD.mk rfl S2 z2 ((HT.out.drawn nq).trans T2) (by have := HK.out; omega))
set_option maxHeartbeats 4000000 in
theorem dtp66_n2 (h : Da g s w) (ho : s.Ok) (q : F8) (h1 : q.b0.toNat = 66) (hm : s.mode ≠ 1) (hb : s.bare = false) (hx : s.ip = 0) (hy : (s.iu == 0) = false) : Calls Try.prog 22 #[.pointer (some ⟨g, 0, none⟩), .agg q.arr] w (PostD g (s.takeS q) (s.takeA q) w) := by
  obtain ⟨W, k, hW, hk, q0, z0, b0, hkl⟩ := Qb.fresh2 w q
  have hgk : g < k := by rw [← hk]; exact h.lt
  have T0 : Two g g w W := by rw [← hW]; exact ((Two.refl _ _ _).alloc _).alloc _
  have S0 : Da g s W := h.below b0
  have u0 := q0.c0
  have u1 := q0.c1
  have u2 := q0.c2
  have u3 := q0.c3
  have u4 := q0.c4
  have l1 := q.b1.toNat_lt
  have l2 := q.b2.toNat_lt
  have l3 := q.b3.toNat_lt
  have l4 := q.b4.toNat_lt
  have lW : ∀ m, (loadVar 34 ⟨k, 0, none⟩).run Try.prog (W.drewN m) = .ok (.agg q.arr) (W.drewN m) := fun m => (Qb.drawn q0 m).load
  have hNq : Hid ((q.b1.toNat : Int) + 256 * (q.b2.toNat : Int) + 65536 * (q.b3.toNat : Int) + 16777216 * (q.b4.toNat : Int) = ((numq q : Nat) : Int)) := by show _ = _; unfold numq; omega
  have w1 : IntKind.u32.wrap (256 * (q.b2.toNat : Int)) = 256 * (q.b2.toNat : Int) := by have := wrapU32 (256 * q.b2.toNat) (by omega); simpa using this
  have w2 : IntKind.u32.wrap ((q.b1.toNat : Int) + 256 * (q.b2.toNat : Int)) = (q.b1.toNat : Int) + 256 * (q.b2.toNat : Int) := by have := wrapU32 (q.b1.toNat + 256 * q.b2.toNat) (by omega); simpa using this
  have w3 : IntKind.u32.wrap (65536 * (q.b3.toNat : Int)) = 65536 * (q.b3.toNat : Int) := by have := wrapU32 (65536 * q.b3.toNat) (by omega); simpa using this
  have w4 : IntKind.u32.wrap ((q.b1.toNat : Int) + 256 * (q.b2.toNat : Int) + 65536 * (q.b3.toNat : Int)) = (q.b1.toNat : Int) + 256 * (q.b2.toNat : Int) + 65536 * (q.b3.toNat : Int) := by have := wrapU32 (q.b1.toNat + 256 * q.b2.toNat + 65536 * q.b3.toNat) (by omega); simpa using this
  have w5 : IntKind.u32.wrap (16777216 * (q.b4.toNat : Int)) = 16777216 * (q.b4.toNat : Int) := by have := wrapU32 (16777216 * q.b4.toNat) (by omega); simpa using this
  have w6 : IntKind.u32.wrap ((q.b1.toNat : Int) + 256 * (q.b2.toNat : Int) + 65536 * (q.b3.toNat : Int) + 16777216 * (q.b4.toNat : Int)) = (q.b1.toNat : Int) + 256 * (q.b2.toNat : Int) + 65536 * (q.b3.toNat : Int) + 16777216 * (q.b4.toNat : Int) := by have := wrapU32 (q.b1.toNat + 256 * q.b2.toNat + 65536 * q.b3.toNat + 16777216 * q.b4.toNat) (by omega); simpa using this
  obtain ⟨_, _, _, _, c4, _, c6, _, _, _, _, _, c12, _, _, hf⟩ := S0.cells
  have f6 := hf 6
  have f12 := hf 12
  have HS := hidOf2 S0
  have HT := hidOf2 T0
  have HZ := hidOf2 z0
  have HK : Hid (w.heap.size = k ∧ g < k ∧ k + 1 < W.heap.size) := ⟨hk, hgk, hkl⟩
  have eS : s.takeS q = s.pickS 2 (numq q) := by unfold Ld.takeS; rw [if_neg (by omega), if_neg (by omega), if_neg hm, if_pos (by omega), h1]; rfl
  have eA : s.takeA q = s.pickA 2 (numq q) := by unfold Ld.takeA; rw [if_neg (by omega), if_neg (by omega), if_neg hm, if_pos (by omega), h1]; rfl
  rw [eS, eA]
  have hP : Hid (∀ m, Calls Try.prog 30 #[.pointer (some ⟨g, 0, none⟩), .int .i64 2, .int .u32 (numq q : Nat)] (W.drewN m) (PostD g (s.pickS 2 (numq q)) (s.pickA 2 (numq q)) (W.drewN m))) := fun m => dpick_any (S0.drawn m) 2 (by omega) (numq q)
  obtain ⟨⟨F, b⟩, hF⟩ : ∃ f, s.pickA 2 (numq q) = f := ⟨_, rfl⟩
  rw [hF] at hP ⊢
  generalize s.pickS 2 (numq q) = PS at *
  have dm : (s.mode == 1) = false := by simp [hm]
  rw [hx] at c4
  rw [h1] at u0
  generalize q.b1.toNat = B1 at *
  generalize q.b2.toNat = B2 at *
  generalize q.b3.toNat = B3 at *
  generalize q.b4.toNat = B4 at *
  generalize hN0 : numq q = N0 at *
  clear hN0 h S0 T0 z0 q0 b0 hf hgk hkl ho eS eA hF h1 hm hb hx
  go_enter Try.func22, Try.ntmps22
  go_upto_region 1 with fail
  change Code.wp Try.prog _ _ _ ((w.alloc (.cells q.arr 34)).alloc (.cells zA8 34))
  rw [hW]
  go_quiet (fail)
  try rw [hNq.out]
  go_wp2_with (first | (refine ldG (lW nq) rfl _ rfl rfl ?_))
  refine (hP.out nq).mono ?_
  rintro e w2 ⟨rfl, S2, T2⟩
  have K := HK.out
  have z2 : Qb (k + 1) F8.nul w2 := (Qb.drawn HZ.out nq).two T2 (by omega) (by omega)
  go_wp2_with (first | (refine sdF (g := F) z2 rfl _ _ rfl rfl rfl ?_))
  exact bodyPost_ret (dtake_results (z2.row F) _ rfl rfl) rfl (PostD.mk rfl S2 z2 ((HT.out.drawn nq).trans T2) (by have := HK.out; omega))
set_option maxHeartbeats 4000000 in
theorem dtp67_n2 (h : Da g s w) (ho : s.Ok) (q : F8) (h1 : q.b0.toNat = 67) (hm : s.mode ≠ 1) (hb : s.bare = false) (hx : s.ip = 0) (hy : (s.iu == 0) = false) : Calls Try.prog 22 #[.pointer (some ⟨g, 0, none⟩), .agg q.arr] w (PostD g (s.takeS q) (s.takeA q) w) := by
  obtain ⟨W, k, hW, hk, q0, z0, b0, hkl⟩ := Qb.fresh2 w q
  have hgk : g < k := by rw [← hk]; exact h.lt
  have T0 : Two g g w W := by rw [← hW]; exact ((Two.refl _ _ _).alloc _).alloc _
  have S0 : Da g s W := h.below b0
  have u0 := q0.c0
  have u1 := q0.c1
  have u2 := q0.c2
  have u3 := q0.c3
  have u4 := q0.c4
  have l1 := q.b1.toNat_lt
  have l2 := q.b2.toNat_lt
  have l3 := q.b3.toNat_lt
  have l4 := q.b4.toNat_lt
  have lW : ∀ m, (loadVar 34 ⟨k, 0, none⟩).run Try.prog (W.drewN m) = .ok (.agg q.arr) (W.drewN m) := fun m => (Qb.drawn q0 m).load
  have hNq : Hid ((q.b1.toNat : Int) + 256 * (q.b2.toNat : Int) + 65536 * (q.b3.toNat : Int) + 16777216 * (q.b4.toNat : Int) = ((numq q : Nat) : Int)) := by show _ = _; unfold numq; omega
  have w1 : IntKind.u32.wrap (256 * (q.b2.toNat : Int)) = 256 * (q.b2.toNat : Int) := by have := wrapU32 (256 * q.b2.toNat) (by omega); simpa using this
  have w2 : IntKind.u32.wrap ((q.b1.toNat : Int) + 256 * (q.b2.toNat : Int)) = (q.b1.toNat : Int) + 256 * (q.b2.toNat : Int) := by have := wrapU32 (q.b1.toNat + 256 * q.b2.toNat) (by omega); simpa using this
  have w3 : IntKind.u32.wrap (65536 * (q.b3.toNat : Int)) = 65536 * (q.b3.toNat : Int) := by have := wrapU32 (65536 * q.b3.toNat) (by omega); simpa using this
  have w4 : IntKind.u32.wrap ((q.b1.toNat : Int) + 256 * (q.b2.toNat : Int) + 65536 * (q.b3.toNat : Int)) = (q.b1.toNat : Int) + 256 * (q.b2.toNat : Int) + 65536 * (q.b3.toNat : Int) := by have := wrapU32 (q.b1.toNat + 256 * q.b2.toNat + 65536 * q.b3.toNat) (by omega); simpa using this
  have w5 : IntKind.u32.wrap (16777216 * (q.b4.toNat : Int)) = 16777216 * (q.b4.toNat : Int) := by have := wrapU32 (16777216 * q.b4.toNat) (by omega); simpa using this
  have w6 : IntKind.u32.wrap ((q.b1.toNat : Int) + 256 * (q.b2.toNat : Int) + 65536 * (q.b3.toNat : Int) + 16777216 * (q.b4.toNat : Int)) = (q.b1.toNat : Int) + 256 * (q.b2.toNat : Int) + 65536 * (q.b3.toNat : Int) + 16777216 * (q.b4.toNat : Int) := by have := wrapU32 (q.b1.toNat + 256 * q.b2.toNat + 65536 * q.b3.toNat + 16777216 * q.b4.toNat) (by omega); simpa using this
  obtain ⟨_, _, _, _, c4, _, c6, _, _, _, _, _, c12, _, _, hf⟩ := S0.cells
  have f6 := hf 6
  have f12 := hf 12
  have HS := hidOf2 S0
  have HT := hidOf2 T0
  have HZ := hidOf2 z0
  have HK : Hid (w.heap.size = k ∧ g < k ∧ k + 1 < W.heap.size) := ⟨hk, hgk, hkl⟩
  have eS : s.takeS q = s.pickS 3 (numq q) := by unfold Ld.takeS; rw [if_neg (by omega), if_neg (by omega), if_neg hm, if_pos (by omega), h1]; rfl
  have eA : s.takeA q = s.pickA 3 (numq q) := by unfold Ld.takeA; rw [if_neg (by omega), if_neg (by omega), if_neg hm, if_pos (by omega), h1]; rfl
  rw [eS, eA]
  have hP : Hid (∀ m, Calls Try.prog 30 #[.pointer (some ⟨g, 0, none⟩), .int .i64 3, .int .u32 (numq q : Nat)] (W.drewN m) (PostD g (s.pickS 3 (numq q)) (s.pickA 3 (numq q)) (W.drewN m))) := fun m => dpick_any (S0.drawn m) 3 (by omega) (numq q)
  obtain ⟨⟨F, b⟩, hF⟩ : ∃ f, s.pickA 3 (numq q) = f := ⟨_, rfl⟩
  rw [hF] at hP ⊢
  generalize s.pickS 3 (numq q) = PS at *
  have dm : (s.mode == 1) = false := by simp [hm]
  rw [hx] at c4
  rw [h1] at u0
  generalize q.b1.toNat = B1 at *
  generalize q.b2.toNat = B2 at *
  generalize q.b3.toNat = B3 at *
  generalize q.b4.toNat = B4 at *
  generalize hN0 : numq q = N0 at *
  clear hN0 h S0 T0 z0 q0 b0 hf hgk hkl ho eS eA hF h1 hm hb hx
  go_enter Try.func22, Try.ntmps22
  go_upto_region 1 with fail
  change Code.wp Try.prog _ _ _ ((w.alloc (.cells q.arr 34)).alloc (.cells zA8 34))
  rw [hW]
  go_quiet (fail)
  try rw [hNq.out]
  go_wp2_with (first | (refine ldG (lW nq) rfl _ rfl rfl ?_))
  refine (hP.out nq).mono ?_
  rintro e w2 ⟨rfl, S2, T2⟩
  have K := HK.out
  have z2 : Qb (k + 1) F8.nul w2 := (Qb.drawn HZ.out nq).two T2 (by omega) (by omega)
  go_wp2_with (first | (refine sdF (g := F) z2 rfl _ _ rfl rfl rfl ?_))
  exact bodyPost_ret (dtake_results (z2.row F) _ rfl rfl) rfl (PostD.mk rfl S2 z2 ((HT.out.drawn nq).trans T2) (by have := HK.out; omega))
set_option maxHeartbeats 4000000 in
theorem dts (h : Da g s w) (ho : s.Ok) (q : F8) (h1 : q.b0.toNat = 81) (hm : s.mode ≠ 1) (hb : s.bare = true) : Calls Try.prog 22 #[.pointer (some ⟨g, 0, none⟩), .agg q.arr] w (PostD g (s.takeS q) (s.takeA q) w) := by
  obtain ⟨W, k, hW, hk, q0, z0, b0, hkl⟩ := Qb.fresh2 w q
  have hgk : g < k := by rw [← hk]; exact h.lt
  have T0 : Two g g w W := by rw [← hW]; exact ((Two.refl _ _ _).alloc _).alloc _
  have S0 : Da g s W := h.below b0
  have u0 := q0.c0
  have u1 := q0.c1
  have u2 := q0.c2
  have u3 := q0.c3
  have u4 := q0.c4
  have l1 := q.b1.toNat_lt
  have l2 := q.b2.toNat_lt
  have l3 := q.b3.toNat_lt
  have l4 := q.b4.toNat_lt
  have lW : ∀ m, (loadVar 34 ⟨k, 0, none⟩).run Try.prog (W.drewN m) = .ok (.agg q.arr) (W.drewN m) := fun m => (Qb.drawn q0 m).load
  have hNq : Hid ((q.b1.toNat : Int) + 256 * (q.b2.toNat : Int) + 65536 * (q.b3.toNat : Int) + 16777216 * (q.b4.toNat : Int) = ((numq q : Nat) : Int)) := by show _ = _; unfold numq; omega
  have w1 : IntKind.u32.wrap (256 * (q.b2.toNat : Int)) = 256 * (q.b2.toNat : Int) := by have := wrapU32 (256 * q.b2.toNat) (by omega); simpa using this
  have w2 : IntKind.u32.wrap ((q.b1.toNat : Int) + 256 * (q.b2.toNat : Int)) = (q.b1.toNat : Int) + 256 * (q.b2.toNat : Int) := by have := wrapU32 (q.b1.toNat + 256 * q.b2.toNat) (by omega); simpa using this
  have w3 : IntKind.u32.wrap (65536 * (q.b3.toNat : Int)) = 65536 * (q.b3.toNat : Int) := by have := wrapU32 (65536 * q.b3.toNat) (by omega); simpa using this
  have w4 : IntKind.u32.wrap ((q.b1.toNat : Int) + 256 * (q.b2.toNat : Int) + 65536 * (q.b3.toNat : Int)) = (q.b1.toNat : Int) + 256 * (q.b2.toNat : Int) + 65536 * (q.b3.toNat : Int) := by have := wrapU32 (q.b1.toNat + 256 * q.b2.toNat + 65536 * q.b3.toNat) (by omega); simpa using this
  have w5 : IntKind.u32.wrap (16777216 * (q.b4.toNat : Int)) = 16777216 * (q.b4.toNat : Int) := by have := wrapU32 (16777216 * q.b4.toNat) (by omega); simpa using this
  have w6 : IntKind.u32.wrap ((q.b1.toNat : Int) + 256 * (q.b2.toNat : Int) + 65536 * (q.b3.toNat : Int) + 16777216 * (q.b4.toNat : Int)) = (q.b1.toNat : Int) + 256 * (q.b2.toNat : Int) + 65536 * (q.b3.toNat : Int) + 16777216 * (q.b4.toNat : Int) := by have := wrapU32 (q.b1.toNat + 256 * q.b2.toNat + 65536 * q.b3.toNat + 16777216 * q.b4.toNat) (by omega); simpa using this
  obtain ⟨_, _, _, _, c4, _, c6, _, _, _, _, _, c12, _, _, hf⟩ := S0.cells
  have f6 := hf 6
  have f12 := hf 12
  have HS := hidOf2 S0
  have HT := hidOf2 T0
  have HZ := hidOf2 z0
  have HK : Hid (w.heap.size = k ∧ g < k ∧ k + 1 < W.heap.size) := ⟨hk, hgk, hkl⟩
  have eS : s.takeS q = s.scanS q := by unfold Ld.takeS; rw [if_neg (by omega), if_neg (by omega), if_neg hm, if_neg (by omega), if_pos ⟨h1, hb⟩] <;> rfl
  have eA : s.takeA q = s.scanA q := by unfold Ld.takeA; rw [if_neg (by omega), if_neg (by omega), if_neg hm, if_neg (by omega), if_pos ⟨h1, hb⟩] <;> rfl
  rw [eS, eA]
  have hP : Hid (∀ m, Calls Try.prog 31 #[.pointer (some ⟨g, 0, none⟩), .agg q.arr, .int .u32 (numq q : Nat)] (W.drewN m) (PostD g (s.scanS q) (s.scanA q) (W.drewN m))) := fun m => dscan_any (S0.drawn m) ho q
  obtain ⟨⟨F, b⟩, hF⟩ : ∃ f, s.scanA q = f := ⟨_, rfl⟩
  rw [hF] at hP ⊢
  generalize s.scanS q = PS at *
  have dm : (s.mode == 1) = false := by simp [hm]
  have hbb : s.ip = 0 ∧ s.iu = 0 := by simpa [Ld.bare] using hb
  rw [hbb.1] at c4
  rw [hbb.2] at c6
  clear hbb
  rw [h1] at u0
  generalize q.b1.toNat = B1 at *
  generalize q.b2.toNat = B2 at *
  generalize q.b3.toNat = B3 at *
  generalize q.b4.toNat = B4 at *
  generalize hN0 : numq q = N0 at *
  clear hN0 h S0 T0 z0 q0 b0 hf hgk hkl ho eS eA hF h1 hm hb
  go_enter Try.func22, Try.ntmps22
  go_upto_region 1 with fail
  change Code.wp Try.prog _ _ _ ((w.alloc (.cells q.arr 34)).alloc (.cells zA8 34))
  rw [hW]
  go_quiet (fail)
  try rw [hNq.out]
  go_wp2_with (first | (refine ldG (lW nq) rfl _ rfl rfl ?_))
  refine (hP.out nq).mono ?_
  rintro e w2 ⟨rfl, S2, T2⟩
  have K := HK.out
  have z2 : Qb (k + 1) F8.nul w2 := (Qb.drawn HZ.out nq).two T2 (by omega) (by omega)
  go_wp2_with (first | (refine sdF (g := F) z2 rfl _ _ rfl rfl rfl ?_))
  exact bodyPost_ret (dtake_results (z2.row F) _ rfl rfl) rfl (PostD.mk rfl S2 z2 ((HT.out.drawn nq).trans T2) (by have := HK.out; omega))
set_option maxHeartbeats 4000000 in
theorem dtn76_n1 (h : Da g s w) (ho : s.Ok) (q : F8) (h1 : q.b0.toNat = 76) (hm : s.mode ≠ 1) (hb : s.bare = false) (hx : (s.ip == 0) = false) : Calls Try.prog 22 #[.pointer (some ⟨g, 0, none⟩), .agg q.arr] w (PostD g (s.takeS q) (s.takeA q) w) := by
  obtain ⟨W, k, hW, hk, q0, z0, b0, hkl⟩ := Qb.fresh2 w q
  have hgk : g < k := by rw [← hk]; exact h.lt
  have T0 : Two g g w W := by rw [← hW]; exact ((Two.refl _ _ _).alloc _).alloc _
  have S0 : Da g s W := h.below b0
  have u0 := q0.c0
  have u1 := q0.c1
  have u2 := q0.c2
  have u3 := q0.c3
  have u4 := q0.c4
  have l1 := q.b1.toNat_lt
  have l2 := q.b2.toNat_lt
  have l3 := q.b3.toNat_lt
  have l4 := q.b4.toNat_lt
  have lW : ∀ m, (loadVar 34 ⟨k, 0, none⟩).run Try.prog (W.drewN m) = .ok (.agg q.arr) (W.drewN m) := fun m => (Qb.drawn q0 m).load
  have hNq : Hid ((q.b1.toNat : Int) + 256 * (q.b2.toNat : Int) + 65536 * (q.b3.toNat : Int) + 16777216 * (q.b4.toNat : Int) = ((numq q : Nat) : Int)) := by show _ = _; unfold numq; omega
  have w1 : IntKind.u32.wrap (256 * (q.b2.toNat : Int)) = 256 * (q.b2.toNat : Int) := by have := wrapU32 (256 * q.b2.toNat) (by omega); simpa using this
  have w2 : IntKind.u32.wrap ((q.b1.toNat : Int) + 256 * (q.b2.toNat : Int)) = (q.b1.toNat : Int) + 256 * (q.b2.toNat : Int) := by have := wrapU32 (q.b1.toNat + 256 * q.b2.toNat) (by omega); simpa using this
  have w3 : IntKind.u32.wrap (65536 * (q.b3.toNat : Int)) = 65536 * (q.b3.toNat : Int) := by have := wrapU32 (65536 * q.b3.toNat) (by omega); simpa using this
  have w4 : IntKind.u32.wrap ((q.b1.toNat : Int) + 256 * (q.b2.toNat : Int) + 65536 * (q.b3.toNat : Int)) = (q.b1.toNat : Int) + 256 * (q.b2.toNat : Int) + 65536 * (q.b3.toNat : Int) := by have := wrapU32 (q.b1.toNat + 256 * q.b2.toNat + 65536 * q.b3.toNat) (by omega); simpa using this
  have w5 : IntKind.u32.wrap (16777216 * (q.b4.toNat : Int)) = 16777216 * (q.b4.toNat : Int) := by have := wrapU32 (16777216 * q.b4.toNat) (by omega); simpa using this
  have w6 : IntKind.u32.wrap ((q.b1.toNat : Int) + 256 * (q.b2.toNat : Int) + 65536 * (q.b3.toNat : Int) + 16777216 * (q.b4.toNat : Int)) = (q.b1.toNat : Int) + 256 * (q.b2.toNat : Int) + 65536 * (q.b3.toNat : Int) + 16777216 * (q.b4.toNat : Int) := by have := wrapU32 (q.b1.toNat + 256 * q.b2.toNat + 65536 * q.b3.toNat + 16777216 * q.b4.toNat) (by omega); simpa using this
  obtain ⟨_, _, _, _, c4, _, c6, _, _, _, _, _, c12, _, _, hf⟩ := S0.cells
  have f6 := hf 6
  have f12 := hf 12
  have HS := hidOf2 S0
  have HT := hidOf2 T0
  have HZ := hidOf2 z0
  have HK : Hid (w.heap.size = k ∧ g < k ∧ k + 1 < W.heap.size) := ⟨hk, hgk, hkl⟩
  have eS : s.takeS q = s := by unfold Ld.takeS; rw [if_neg (by omega), if_neg (show ¬ (q.b0.toNat = 76 ∧ s.bare = true) by rw [hb]; simp), if_neg hm, if_neg (by omega), if_neg (by omega)]
  have eA : s.takeA q = (F8.nul, false) := by unfold Ld.takeA; rw [if_neg (by omega), if_neg (show ¬ (q.b0.toNat = 76 ∧ s.bare = true) by rw [hb]; simp), if_neg hm, if_neg (by omega), if_neg (by omega)]
  rw [eS, eA]
  have dm : (s.mode == 1) = false := by simp [hm]
  rw [h1] at u0
  generalize q.b1.toNat = B1 at *
  generalize q.b2.toNat = B2 at *
  generalize q.b3.toNat = B3 at *
  generalize q.b4.toNat = B4 at *
  generalize hN0 : numq q = N0 at *
  clear hN0 h S0 T0 z0 q0 b0 hf hgk hkl ho eS eA h1 hm hb
  go_enter Try.func22, Try.ntmps22
  go_upto_region 1 with fail
  change Code.wp Try.prog _ _ _ ((w.alloc (.cells q.arr 34)).alloc (.cells zA8 34))
  rw [hW]
  go_quiet (fail)
  try rw [hNq.out]
  have z2 := Qb.drawn HZ.out nq
  go_wp2_with (first | (refine sdF (g := F8.nul) z2 rfl _ _ rfl rfl rfl ?_))
  exact bodyPost_ret (dtake_results (z2.row F8.nul) _ rfl rfl) rfl (PostD.mk rfl (HS.out.drawn nq) z2 (HT.out.drawn nq) (by have := HK.out; omega))
set_option maxHeartbeats 4000000 in
theorem dtn81_n1 (h : Da g s w) (ho : s.Ok) (q : F8) (h1 : q.b0.toNat = 81) (hm : s.mode ≠ 1) (hb : s.bare = false) (hx : (s.ip == 0) = false) : Calls Try.prog 22 #[.pointer (some ⟨g, 0, none⟩), .agg q.arr] w (PostD g (s.takeS q) (s.takeA q) w) := by
  obtain ⟨W, k, hW, hk, q0, z0, b0, hkl⟩ := Qb.fresh2 w q
  have hgk : g < k := by rw [← hk]; exact h.lt
  have T0 : Two g g w W := by rw [← hW]; exact ((Two.refl _ _ _).alloc _).alloc _
  have S0 : Da g s W := h.below b0
  have u0 := q0.c0
  have u1 := q0.c1
  have u2 := q0.c2
  have u3 := q0.c3
  have u4 := q0.c4
  have l1 := q.b1.toNat_lt
  have l2 := q.b2.toNat_lt
  have l3 := q.b3.toNat_lt
  have l4 := q.b4.toNat_lt
  have lW : ∀ m, (loadVar 34 ⟨k, 0, none⟩).run Try.prog (W.drewN m) = .ok (.agg q.arr) (W.drewN m) := fun m => (Qb.drawn q0 m).load
  have hNq : Hid ((q.b1.toNat : Int) + 256 * (q.b2.toNat : Int) + 65536 * (q.b3.toNat : Int) + 16777216 * (q.b4.toNat : Int) = ((numq q : Nat) : Int)) := by show _ = _; unfold numq; omega
  have w1 : IntKind.u32.wrap (256 * (q.b2.toNat : Int)) = 256 * (q.b2.toNat : Int) := by have := wrapU32 (256 * q.b2.toNat) (by omega); simpa using this
  have w2 : IntKind.u32.wrap ((q.b1.toNat : Int) + 256 * (q.b2.toNat : Int)) = (q.b1.toNat : Int) + 256 * (q.b2.toNat : Int) := by have := wrapU32 (q.b1.toNat + 256 * q.b2.toNat) (by omega); simpa using this
  have w3 : IntKind.u32.wrap (65536 * (q.b3.toNat : Int)) = 65536 * (q.b3.toNat : Int) := by have := wrapU32 (65536 * q.b3.toNat) (by omega); simpa using this
  have w4 : IntKind.u32.wrap ((q.b1.toNat : Int) + 256 * (q.b2.toNat : Int) + 65536 * (q.b3.toNat : Int)) = (q.b1.toNat : Int) + 256 * (q.b2.toNat : Int) + 65536 * (q.b3.toNat : Int) := by have := wrapU32 (q.b1.toNat + 256 * q.b2.toNat + 65536 * q.b3.toNat) (by omega); simpa using this
  have w5 : IntKind.u32.wrap (16777216 * (q.b4.toNat : Int)) = 16777216 * (q.b4.toNat : Int) := by have := wrapU32 (16777216 * q.b4.toNat) (by omega); simpa using this
  have w6 : IntKind.u32.wrap ((q.b1.toNat : Int) + 256 * (q.b2.toNat : Int) + 65536 * (q.b3.toNat : Int) + 16777216 * (q.b4.toNat : Int)) = (q.b1.toNat : Int) + 256 * (q.b2.toNat : Int) + 65536 * (q.b3.toNat : Int) + 16777216 * (q.b4.toNat : Int) := by have := wrapU32 (q.b1.toNat + 256 * q.b2.toNat + 65536 * q.b3.toNat + 16777216 * q.b4.toNat) (by omega); simpa using this
  obtain ⟨_, _, _, _, c4, _, c6, _, _, _, _, _, c12, _, _, hf⟩ := S0.cells
  have f6 := hf 6
  have f12 := hf 12
  have HS := hidOf2 S0
  have HT := hidOf2 T0
  have HZ := hidOf2 z0
  have HK : Hid (w.heap.size = k ∧ g < k ∧ k + 1 < W.heap.size) := ⟨hk, hgk, hkl⟩
  have eS : s.takeS q = s := by unfold Ld.takeS; rw [if_neg (by omega), if_neg (by omega), if_neg hm, if_neg (by omega), if_neg (show ¬ (q.b0.toNat = 81 ∧ s.bare = true) by rw [hb]; simp)]
  have eA : s.takeA q = (F8.nul, false) := by unfold Ld.takeA; rw [if_neg (by omega), if_neg (by omega), if_neg hm, if_neg (by omega), if_neg (show ¬ (q.b0.toNat = 81 ∧ s.bare = true) by rw [hb]; simp)]
  rw [eS, eA]
  have dm : (s.mode == 1) = false := by simp [hm]
  rw [h1] at u0
  generalize q.b1.toNat = B1 at *
  generalize q.b2.toNat = B2 at *
  generalize q.b3.toNat = B3 at *
  generalize q.b4.toNat = B4 at *
  generalize hN0 : numq q = N0 at *
  clear hN0 h S0 T0 z0 q0 b0 hf hgk hkl ho eS eA h1 hm hb
  go_enter Try.func22, Try.ntmps22
  go_upto_region 1 with fail
  change Code.wp Try.prog _ _ _ ((w.alloc (.cells q.arr 34)).alloc (.cells zA8 34))
  rw [hW]
  go_quiet (fail)
  try rw [hNq.out]
  have z2 := Qb.drawn HZ.out nq
  go_wp2_with (first | (refine sdF (g := F8.nul) z2 rfl _ _ rfl rfl rfl ?_))
  exact bodyPost_ret (dtake_results (z2.row F8.nul) _ rfl rfl) rfl (PostD.mk rfl (HS.out.drawn nq) z2 (HT.out.drawn nq) (by have := HK.out; omega))
set_option maxHeartbeats 4000000 in
theorem dtn76_n2 (h : Da g s w) (ho : s.Ok) (q : F8) (h1 : q.b0.toNat = 76) (hm : s.mode ≠ 1) (hb : s.bare = false) (hx : s.ip = 0) (hy : (s.iu == 0) = false) : Calls Try.prog 22 #[.pointer (some ⟨g, 0, none⟩), .agg q.arr] w (PostD g (s.takeS q) (s.takeA q) w) := by
  obtain ⟨W, k, hW, hk, q0, z0, b0, hkl⟩ := Qb.fresh2 w q
  have hgk : g < k := by rw [← hk]; exact h.lt
  have T0 : Two g g w W := by rw [← hW]; exact ((Two.refl _ _ _).alloc _).alloc _
  have S0 : Da g s W := h.below b0
  have u0 := q0.c0
  have u1 := q0.c1
  have u2 := q0.c2
  have u3 := q0.c3
  have u4 := q0.c4
  have l1 := q.b1.toNat_lt
  have l2 := q.b2.toNat_lt
  have l3 := q.b3.toNat_lt
  have l4 := q.b4.toNat_lt
  have lW : ∀ m, (loadVar 34 ⟨k, 0, none⟩).run Try.prog (W.drewN m) = .ok (.agg q.arr) (W.drewN m) := fun m => (Qb.drawn q0 m).load
  have hNq : Hid ((q.b1.toNat : Int) + 256 * (q.b2.toNat : Int) + 65536 * (q.b3.toNat : Int) + 16777216 * (q.b4.toNat : Int) = ((numq q : Nat) : Int)) := by show _ = _; unfold numq; omega
  have w1 : IntKind.u32.wrap (256 * (q.b2.toNat : Int)) = 256 * (q.b2.toNat : Int) := by have := wrapU32 (256 * q.b2.toNat) (by omega); simpa using this
  have w2 : IntKind.u32.wrap ((q.b1.toNat : Int) + 256 * (q.b2.toNat : Int)) = (q.b1.toNat : Int) + 256 * (q.b2.toNat : Int) := by have := wrapU32 (q.b1.toNat + 256 * q.b2.toNat) (by omega); simpa using this
  have w3 : IntKind.u32.wrap (65536 * (q.b3.toNat : Int)) = 65536 * (q.b3.toNat : Int) := by have := wrapU32 (65536 * q.b3.toNat) (by omega); simpa using this
  have w4 : IntKind.u32.wrap ((q.b1.toNat : Int) + 256 * (q.b2.toNat : Int) + 65536 * (q.b3.toNat : Int)) = (q.b1.toNat : Int) + 256 * (q.b2.toNat : Int) + 65536 * (q.b3.toNat : Int) := by have := wrapU32 (q.b1.toNat + 256 * q.b2.toNat + 65536 * q.b3.toNat) (by omega); simpa using this
  have w5 : IntKind.u32.wrap (16777216 * (q.b4.toNat : Int)) = 16777216 * (q.b4.toNat : Int) := by have := wrapU32 (16777216 * q.b4.toNat) (by omega); simpa using this
  have w6 : IntKind.u32.wrap ((q.b1.toNat : Int) + 256 * (q.b2.toNat : Int) + 65536 * (q.b3.toNat : Int) + 16777216 * (q.b4.toNat : Int)) = (q.b1.toNat : Int) + 256 * (q.b2.toNat : Int) + 65536 * (q.b3.toNat : Int) + 16777216 * (q.b4.toNat : Int) := by have := wrapU32 (q.b1.toNat + 256 * q.b2.toNat + 65536 * q.b3.toNat + 16777216 * q.b4.toNat) (by omega); simpa using this
  obtain ⟨_, _, _, _, c4, _, c6, _, _, _, _, _, c12, _, _, hf⟩ := S0.cells
  have f6 := hf 6
  have f12 := hf 12
  have HS := hidOf2 S0
  have HT := hidOf2 T0
  have HZ := hidOf2 z0
  have HK : Hid (w.heap.size = k ∧ g < k ∧ k + 1 < W.heap.size) := ⟨hk, hgk, hkl⟩
  have eS : s.takeS q = s := by unfold Ld.takeS; rw [if_neg (by omega), if_neg (show ¬ (q.b0.toNat = 76 ∧ s.bare = true) by rw [hb]; simp), if_neg hm, if_neg (by omega), if_neg (by omega)]
  have eA : s.takeA q = (F8.nul, false) := by unfold Ld.takeA; rw [if_neg (by omega), if_neg (show ¬ (q.b0.toNat = 76 ∧ s.bare = true) by rw [hb]; simp), if_neg hm, if_neg (by omega), if_neg (by omega)]
  rw [eS, eA]
  have dm : (s.mode == 1) = false := by simp [hm]
  rw [hx] at c4
  rw [h1] at u0
  generalize q.b1.toNat = B1 at *
  generalize q.b2.toNat = B2 at *
  generalize q.b3.toNat = B3 at *
  generalize q.b4.toNat = B4 at *
  generalize hN0 : numq q = N0 at *
  clear hN0 h S0 T0 z0 q0 b0 hf hgk hkl ho eS eA h1 hm hb hx
  go_enter Try.func22, Try.ntmps22
  go_upto_region 1 with fail
  change Code.wp Try.prog _ _ _ ((w.alloc (.cells q.arr 34)).alloc (.cells zA8 34))
  rw [hW]
  go_quiet (fail)
  try rw [hNq.out]
  have z2 := Qb.drawn HZ.out nq
  go_wp2_with (first | (refine sdF (g := F8.nul) z2 rfl _ _ rfl rfl rfl ?_))
  exact bodyPost_ret (dtake_results (z2.row F8.nul) _ rfl rfl) rfl (PostD.mk rfl (HS.out.drawn nq) z2 (HT.out.drawn nq) (by have := HK.out; omega))
set_option maxHeartbeats 4000000 in
theorem dtn81_n2 (h : Da g s w) (ho : s.Ok) (q : F8) (h1 : q.b0.toNat = 81) (hm : s.mode ≠ 1) (hb : s.bare = false) (hx : s.ip = 0) (hy : (s.iu == 0) = false) : Calls Try.prog 22 #[.pointer (some ⟨g, 0, none⟩), .agg q.arr] w (PostD g (s.takeS q) (s.takeA q) w) := by
  obtain ⟨W, k, hW, hk, q0, z0, b0, hkl⟩ := Qb.fresh2 w q
  have hgk : g < k := by rw [← hk]; exact h.lt
  have T0 : Two g g w W := by rw [← hW]; exact ((Two.refl _ _ _).alloc _).alloc _
  have S0 : Da g s W := h.below b0
  have u0 := q0.c0
  have u1 := q0.c1
  have u2 := q0.c2
  have u3 := q0.c3
  have u4 := q0.c4
  have l1 := q.b1.toNat_lt
  have l2 := q.b2.toNat_lt
  have l3 := q.b3.toNat_lt
  have l4 := q.b4.toNat_lt
  have lW : ∀ m, (loadVar 34 ⟨k, 0, none⟩).run Try.prog (W.drewN m) = .ok (.agg q.arr) (W.drewN m) := fun m => (Qb.drawn q0 m).load
  have hNq : Hid ((q.b1.toNat : Int) + 256 * (q.b2.toNat : Int) + 65536 * (q.b3.toNat : Int) + 16777216 * (q.b4.toNat : Int) = ((numq q : Nat) : Int)) := by show _ = _; unfold numq; omega
  have w1 : IntKind.u32.wrap (256 * (q.b2.toNat : Int)) = 256 * (q.b2.toNat : Int) := by have := wrapU32 (256 * q.b2.toNat) (by omega); simpa using this
  have w2 : IntKind.u32.wrap ((q.b1.toNat : Int) + 256 * (q.b2.toNat : Int)) = (q.b1.toNat : Int) + 256 * (q.b2.toNat : Int) := by have := wrapU32 (q.b1.toNat + 256 * q.b2.toNat) (by omega); simpa using this
  have w3 : IntKind.u32.wrap (65536 * (q.b3.toNat : Int)) = 65536 * (q.b3.toNat : Int) := by have := wrapU32 (65536 * q.b3.toNat) (by omega); simpa using this
  have w4 : IntKind.u32.wrap ((q.b1.toNat : Int) + 256 * (q.b2.toNat : Int) + 65536 * (q.b3.toNat : Int)) = (q.b1.toNat : Int) + 256 * (q.b2.toNat : Int) + 65536 * (q.b3.toNat : Int) := by have := wrapU32 (q.b1.toNat + 256 * q.b2.toNat + 65536 * q.b3.toNat) (by omega); simpa using this
  have w5 : IntKind.u32.wrap (16777216 * (q.b4.toNat : Int)) = 16777216 * (q.b4.toNat : Int) := by have := wrapU32 (16777216 * q.b4.toNat) (by omega); simpa using this
  have w6 : IntKind.u32.wrap ((q.b1.toNat : Int) + 256 * (q.b2.toNat : Int) + 65536 * (q.b3.toNat : Int) + 16777216 * (q.b4.toNat : Int)) = (q.b1.toNat : Int) + 256 * (q.b2.toNat : Int) + 65536 * (q.b3.toNat : Int) + 16777216 * (q.b4.toNat : Int) := by have := wrapU32 (q.b1.toNat + 256 * q.b2.toNat + 65536 * q.b3.toNat + 16777216 * q.b4.toNat) (by omega); simpa using this
  obtain ⟨_, _, _, _, c4, _, c6, _, _, _, _, _, c12, _, _, hf⟩ := S0.cells
  have f6 := hf 6
  have f12 := hf 12
  have HS := hidOf2 S0
  have HT := hidOf2 T0
  have HZ := hidOf2 z0
  have HK : Hid (w.heap.size = k ∧ g < k ∧ k + 1 < W.heap.size) := ⟨hk, hgk, hkl⟩
  have eS : s.takeS q = s := by unfold Ld.takeS; rw [if_neg (by omega), if_neg (by omega), if_neg hm, if_neg (by omega), if_neg (show ¬ (q.b0.toNat = 81 ∧ s.bare = true) by rw [hb]; simp)]
  have eA : s.takeA q = (F8.nul, false) := by unfold Ld.takeA; rw [if_neg (by omega), if_neg (by omega), if_neg hm, if_neg (by omega), if_neg (show ¬ (q.b0.toNat = 81 ∧ s.bare = true) by rw [hb]; simp)]
  rw [eS, eA]
  have dm : (s.mode == 1) = false := by simp [hm]
  rw [hx] at c4
  rw [h1] at u0
  generalize q.b1.toNat = B1 at *
  generalize q.b2.toNat = B2 at *
  generalize q.b3.toNat = B3 at *
  generalize q.b4.toNat = B4 at *
  generalize hN0 : numq q = N0 at *
  clear hN0 h S0 T0 z0 q0 b0 hf hgk hkl ho eS eA h1 hm hb hx
  go_enter Try.func22, Try.ntmps22
  go_upto_region 1 with fail
  change Code.wp Try.prog _ _ _ ((w.alloc (.cells q.arr 34)).alloc (.cells zA8 34))
  rw [hW]
  go_quiet (fail)
  try rw [hNq.out]
  have z2 := Qb.drawn HZ.out nq
  go_wp2_with (first | (refine sdF (g := F8.nul) z2 rfl _ _ rfl rfl rfl ?_))
  exact bodyPost_ret (dtake_results (z2.row F8.nul) _ rfl rfl) rfl (PostD.mk rfl (HS.out.drawn nq) z2 (HT.out.drawn nq) (by have := HK.out; omega))
set_option maxHeartbeats 4000000 in
theorem dtn_lo_y (h : Da g s w) (ho : s.Ok) (q : F8) (h4 : q.b0.toNat ≠ 4) (h76 : q.b0.toNat ≠ 76) (h81 : q.b0.toNat ≠ 81) (hr : q.b0.toNat < 64) (hm : s.mode ≠ 1) (hb : s.bare = true) : Calls Try.prog 22 #[.pointer (some ⟨g, 0, none⟩), .agg q.arr] w (PostD g (s.takeS q) (s.takeA q) w) := by
  obtain ⟨W, k, hW, hk, q0, z0, b0, hkl⟩ := Qb.fresh2 w q
  have hgk : g < k := by rw [← hk]; exact h.lt
  have T0 : Two g g w W := by rw [← hW]; exact ((Two.refl _ _ _).alloc _).alloc _
  have S0 : Da g s W := h.below b0
  have u0 := q0.c0
  have u1 := q0.c1
  have u2 := q0.c2
  have u3 := q0.c3
  have u4 := q0.c4
  have l1 := q.b1.toNat_lt
  have l2 := q.b2.toNat_lt
  have l3 := q.b3.toNat_lt
  have l4 := q.b4.toNat_lt
  have lW : ∀ m, (loadVar 34 ⟨k, 0, none⟩).run Try.prog (W.drewN m) = .ok (.agg q.arr) (W.drewN m) := fun m => (Qb.drawn q0 m).load
  have hNq : Hid ((q.b1.toNat : Int) + 256 * (q.b2.toNat : Int) + 65536 * (q.b3.toNat : Int) + 16777216 * (q.b4.toNat : Int) = ((numq q : Nat) : Int)) := by show _ = _; unfold numq; omega
  have w1 : IntKind.u32.wrap (256 * (q.b2.toNat : Int)) = 256 * (q.b2.toNat : Int) := by have := wrapU32 (256 * q.b2.toNat) (by omega); simpa using this
  have w2 : IntKind.u32.wrap ((q.b1.toNat : Int) + 256 * (q.b2.toNat : Int)) = (q.b1.toNat : Int) + 256 * (q.b2.toNat : Int) := by have := wrapU32 (q.b1.toNat + 256 * q.b2.toNat) (by omega); simpa using this
  have w3 : IntKind.u32.wrap (65536 * (q.b3.toNat : Int)) = 65536 * (q.b3.toNat : Int) := by have := wrapU32 (65536 * q.b3.toNat) (by omega); simpa using this
  have w4 : IntKind.u32.wrap ((q.b1.toNat : Int) + 256 * (q.b2.toNat : Int) + 65536 * (q.b3.toNat : Int)) = (q.b1.toNat : Int) + 256 * (q.b2.toNat : Int) + 65536 * (q.b3.toNat : Int) := by have := wrapU32 (q.b1.toNat + 256 * q.b2.toNat + 65536 * q.b3.toNat) (by omega); simpa using this
  have w5 : IntKind.u32.wrap (16777216 * (q.b4.toNat : Int)) = 16777216 * (q.b4.toNat : Int) := by have := wrapU32 (16777216 * q.b4.toNat) (by omega); simpa using this
  have w6 : IntKind.u32.wrap ((q.b1.toNat : Int) + 256 * (q.b2.toNat : Int) + 65536 * (q.b3.toNat : Int) + 16777216 * (q.b4.toNat : Int)) = (q.b1.toNat : Int) + 256 * (q.b2.toNat : Int) + 65536 * (q.b3.toNat : Int) + 16777216 * (q.b4.toNat : Int) := by have := wrapU32 (q.b1.toNat + 256 * q.b2.toNat + 65536 * q.b3.toNat + 16777216 * q.b4.toNat) (by omega); simpa using this
  obtain ⟨_, _, _, _, c4, _, c6, _, _, _, _, _, c12, _, _, hf⟩ := S0.cells
  have f6 := hf 6
  have f12 := hf 12
  have HS := hidOf2 S0
  have HT := hidOf2 T0
  have HZ := hidOf2 z0
  have HK : Hid (w.heap.size = k ∧ g < k ∧ k + 1 < W.heap.size) := ⟨hk, hgk, hkl⟩
  have eS : s.takeS q = s := by unfold Ld.takeS; rw [if_neg h4, if_neg (fun x => h76 x.1), if_neg hm, if_neg (by omega), if_neg (fun x => h81 x.1)]
  have eA : s.takeA q = (F8.nul, false) := by unfold Ld.takeA; rw [if_neg h4, if_neg (fun x => h76 x.1), if_neg hm, if_neg (by omega), if_neg (fun x => h81 x.1)]
  rw [eS, eA]
  have dm : (s.mode == 1) = false := by simp [hm]
  have d4 : ((q.b0.toNat : Int) == 4) = false := by simp; omega
  have d76 : ((q.b0.toNat : Int) == 76) = false := by simp; omega
  have d81 : ((q.b0.toNat : Int) == 81) = false := by simp; omega
  have d64 : decide ((64 : Int) ≤ (q.b0.toNat : Int)) = false := by simp; omega
  have hbb : s.ip = 0 ∧ s.iu = 0 := by simpa [Ld.bare] using hb
  rw [hbb.1] at c4
  rw [hbb.2] at c6
  clear hbb
  generalize q.b0.toNat = M at *
  generalize q.b1.toNat = B1 at *
  generalize q.b2.toNat = B2 at *
  generalize q.b3.toNat = B3 at *
  generalize q.b4.toNat = B4 at *
  generalize hN0 : numq q = N0 at *
  clear hN0 h S0 T0 z0 q0 b0 hf hgk hkl ho eS eA h4 h76 h81 hr hm hb
  go_enter Try.func22, Try.ntmps22
  go_upto_region 1 with fail
  change Code.wp Try.prog _ _ _ ((w.alloc (.cells q.arr 34)).alloc (.cells zA8 34))
  rw [hW]
  go_quiet (fail)
  try rw [hNq.out]
  have z2 := Qb.drawn HZ.out nq
  go_wp2_with (first | (refine sdF (g := F8.nul) z2 rfl _ _ rfl rfl rfl ?_))
  exact bodyPost_ret (dtake_results (z2.row F8.nul) _ rfl rfl) rfl (PostD.mk rfl (HS.out.drawn nq) z2 (HT.out.drawn nq) (by have := HK.out; omega))
set_option maxHeartbeats 4000000 in
theorem dtn_hi_y (h : Da g s w) (ho : s.Ok) (q : F8) (h4 : q.b0.toNat ≠ 4) (h76 : q.b0.toNat ≠ 76) (h81 : q.b0.toNat ≠ 81) (hr : 68 ≤ q.b0.toNat) (hm : s.mode ≠ 1) (hb : s.bare = true) : Calls Try.prog 22 #[.pointer (some ⟨g, 0, none⟩), .agg q.arr] w (PostD g (s.takeS q) (s.takeA q) w) := by
  obtain ⟨W, k, hW, hk, q0, z0, b0, hkl⟩ := Qb.fresh2 w q
  have hgk : g < k := by rw [← hk]; exact h.lt
  have T0 : Two g g w W := by rw [← hW]; exact ((Two.refl _ _ _).alloc _).alloc _
  have S0 : Da g s W := h.below b0
  have u0 := q0.c0
  have u1 := q0.c1
  have u2 := q0.c2
  have u3 := q0.c3
  have u4 := q0.c4
  have l1 := q.b1.toNat_lt
  have l2 := q.b2.toNat_lt
  have l3 := q.b3.toNat_lt
  have l4 := q.b4.toNat_lt
  have lW : ∀ m, (loadVar 34 ⟨k, 0, none⟩).run Try.prog (W.drewN m) = .ok (.agg q.arr) (W.drewN m) := fun m => (Qb.drawn q0 m).load
  have hNq : Hid ((q.b1.toNat : Int) + 256 * (q.b2.toNat : Int) + 65536 * (q.b3.toNat : Int) + 16777216 * (q.b4.toNat : Int) = ((numq q : Nat) : Int)) := by show _ = _; unfold numq; omega
  have w1 : IntKind.u32.wrap (256 * (q.b2.toNat : Int)) = 256 * (q.b2.toNat : Int) := by have := wrapU32 (256 * q.b2.toNat) (by omega); simpa using this
  have w2 : IntKind.u32.wrap ((q.b1.toNat : Int) + 256 * (q.b2.toNat : Int)) = (q.b1.toNat : Int) + 256 * (q.b2.toNat : Int) := by have := wrapU32 (q.b1.toNat + 256 * q.b2.toNat) (by omega); simpa using this
  have w3 : IntKind.u32.wrap (65536 * (q.b3.toNat : Int)) = 65536 * (q.b3.toNat : Int) := by have := wrapU32 (65536 * q.b3.toNat) (by omega); simpa using this
  have w4 : IntKind.u32.wrap ((q.b1.toNat : Int) + 256 * (q.b2.toNat : Int) + 65536 * (q.b3.toNat : Int)) = (q.b1.toNat : Int) + 256 * (q.b2.toNat : Int) + 65536 * (q.b3.toNat : Int) := by have := wrapU32 (q.b1.toNat + 256 * q.b2.toNat + 65536 * q.b3.toNat) (by omega); simpa using this
  have w5 : IntKind.u32.wrap (16777216 * (q.b4.toNat : Int)) = 16777216 * (q.b4.toNat : Int) := by have := wrapU32 (16777216 * q.b4.toNat) (by omega); simpa using this
  have w6 : IntKind.u32.wrap ((q.b1.toNat : Int) + 256 * (q.b2.toNat : Int) + 65536 * (q.b3.toNat : Int) + 16777216 * (q.b4.toNat : Int)) = (q.b1.toNat : Int) + 256 * (q.b2.toNat : Int) + 65536 * (q.b3.toNat : Int) + 16777216 * (q.b4.toNat : Int) := by have := wrapU32 (q.b1.toNat + 256 * q.b2.toNat + 65536 * q.b3.toNat + 16777216 * q.b4.toNat) (by omega); simpa using this
  obtain ⟨_, _, _, _, c4, _, c6, _, _, _, _, _, c12, _, _, hf⟩ := S0.cells
  have f6 := hf 6
  have f12 := hf 12
  have HS := hidOf2 S0
  have HT := hidOf2 T0
  have HZ := hidOf2 z0
  have HK : Hid (w.heap.size = k ∧ g < k ∧ k + 1 < W.heap.size) := ⟨hk, hgk, hkl⟩
  have eS : s.takeS q = s := by unfold Ld.takeS; rw [if_neg h4, if_neg (fun x => h76 x.1), if_neg hm, if_neg (by omega), if_neg (fun x => h81 x.1)]
  have eA : s.takeA q = (F8.nul, false) := by unfold Ld.takeA; rw [if_neg h4, if_neg (fun x => h76 x.1), if_neg hm, if_neg (by omega), if_neg (fun x => h81 x.1)]
  rw [eS, eA]
  have dm : (s.mode == 1) = false := by simp [hm]
  have d4 : ((q.b0.toNat : Int) == 4) = false := by simp; omega
  have d76 : ((q.b0.toNat : Int) == 76) = false := by simp; omega
  have d81 : ((q.b0.toNat : Int) == 81) = false := by simp; omega
  have d64 : decide ((64 : Int) ≤ (q.b0.toNat : Int)) = true := by simp; omega
  have d67 : decide ((q.b0.toNat : Int) ≤ 67) = false := by simp; omega
  have hbb : s.ip = 0 ∧ s.iu = 0 := by simpa [Ld.bare] using hb
  rw [hbb.1] at c4
  rw [hbb.2] at c6
  clear hbb
  generalize q.b0.toNat = M at *
  generalize q.b1.toNat = B1 at *
  generalize q.b2.toNat = B2 at *
  generalize q.b3.toNat = B3 at *
  generalize q.b4.toNat = B4 at *
  generalize hN0 : numq q = N0 at *
  clear hN0 h S0 T0 z0 q0 b0 hf hgk hkl ho eS eA h4 h76 h81 hr hm hb
  go_enter Try.func22, Try.ntmps22
  go_upto_region 1 with fail
  change Code.wp Try.prog _ _ _ ((w.alloc (.cells q.arr 34)).alloc (.cells zA8 34))
  rw [hW]
  go_quiet (fail)
  try rw [hNq.out]
  have z2 := Qb.drawn HZ.out nq
  go_wp2_with (first | (refine sdF (g := F8.nul) z2 rfl _ _ rfl rfl rfl ?_))
  exact bodyPost_ret (dtake_results (z2.row F8.nul) _ rfl rfl) rfl (PostD.mk rfl (HS.out.drawn nq) z2 (HT.out.drawn nq) (by have := HK.out; omega))
set_option maxHeartbeats 4000000 in
theorem dtn_lo_n1 (h : Da g s w) (ho : s.Ok) (q : F8) (h4 : q.b0.toNat ≠ 4) (h76 : q.b0.toNat ≠ 76) (h81 : q.b0.toNat ≠ 81) (hr : q.b0.toNat < 64) (hm : s.mode ≠ 1) (hb : s.bare = false) (hx : (s.ip == 0) = false) : Calls Try.prog 22 #[.pointer (some ⟨g, 0, none⟩), .agg q.arr] w (PostD g (s.takeS q) (s.takeA q) w) := by
  obtain ⟨W, k, hW, hk, q0, z0, b0, hkl⟩ := Qb.fresh2 w q
  have hgk : g < k := by rw [← hk]; exact h.lt
  have T0 : Two g g w W := by rw [← hW]; exact ((Two.refl _ _ _).alloc _).alloc _
  have S0 : Da g s W := h.below b0
  have u0 := q0.c0
  have u1 := q0.c1
  have u2 := q0.c2
  have u3 := q0.c3
  have u4 := q0.c4
  have l1 := q.b1.toNat_lt
  have l2 := q.b2.toNat_lt
  have l3 := q.b3.toNat_lt
  have l4 := q.b4.toNat_lt
  have lW : ∀ m, (loadVar 34 ⟨k, 0, none⟩).run Try.prog (W.drewN m) = .ok (.agg q.arr) (W.drewN m) := fun m => (Qb.drawn q0 m).load
  have hNq : Hid ((q.b1.toNat : Int) + 256 * (q.b2.toNat : Int) + 65536 * (q.b3.toNat : Int) + 16777216 * (q.b4.toNat : Int) = ((numq q : Nat) : Int)) := by show _ = _; unfold numq; omega
  have w1 : IntKind.u32.wrap (256 * (q.b2.toNat : Int)) = 256 * (q.b2.toNat : Int) := by have := wrapU32 (256 * q.b2.toNat) (by omega); simpa using this
  have w2 : IntKind.u32.wrap ((q.b1.toNat : Int) + 256 * (q.b2.toNat : Int)) = (q.b1.toNat : Int) + 256 * (q.b2.toNat : Int) := by have := wrapU32 (q.b1.toNat + 256 * q.b2.toNat) (by omega); simpa using this
  have w3 : IntKind.u32.wrap (65536 * (q.b3.toNat : Int)) = 65536 * (q.b3.toNat : Int) := by have := wrapU32 (65536 * q.b3.toNat) (by omega); simpa using this
  have w4 : IntKind.u32.wrap ((q.b1.toNat : Int) + 256 * (q.b2.toNat : Int) + 65536 * (q.b3.toNat : Int)) = (q.b1.toNat : Int) + 256 * (q.b2.toNat : Int) + 65536 * (q.b3.toNat : Int) := by have := wrapU32 (q.b1.toNat + 256 * q.b2.toNat + 65536 * q.b3.toNat) (by omega); simpa using this
  have w5 : IntKind.u32.wrap (16777216 * (q.b4.toNat : Int)) = 16777216 * (q.b4.toNat : Int) := by have := wrapU32 (16777216 * q.b4.toNat) (by omega); simpa using this
  have w6 : IntKind.u32.wrap ((q.b1.toNat : Int) + 256 * (q.b2.toNat : Int) + 65536 * (q.b3.toNat : Int) + 16777216 * (q.b4.toNat : Int)) = (q.b1.toNat : Int) + 256 * (q.b2.toNat : Int) + 65536 * (q.b3.toNat : Int) + 16777216 * (q.b4.toNat : Int) := by have := wrapU32 (q.b1.toNat + 256 * q.b2.toNat + 65536 * q.b3.toNat + 16777216 * q.b4.toNat) (by omega); simpa using this
  obtain ⟨_, _, _, _, c4, _, c6, _, _, _, _, _, c12, _, _, hf⟩ := S0.cells
  have f6 := hf 6
  have f12 := hf 12
  have HS := hidOf2 S0
  have HT := hidOf2 T0
  have HZ := hidOf2 z0
  have HK : Hid (w.heap.size = k ∧ g < k ∧ k + 1 < W.heap.size) := ⟨hk, hgk, hkl⟩
  have eS : s.takeS q = s := by unfold Ld.takeS; rw [if_neg h4, if_neg (fun x => h76 x.1), if_neg hm, if_neg (by omega), if_neg (fun x => h81 x.1)]
  have eA : s.takeA q = (F8.nul, false) := by unfold Ld.takeA; rw [if_neg h4, if_neg (fun x => h76 x.1), if_neg hm, if_neg (by omega), if_neg (fun x => h81 x.1)]
  rw [eS, eA]
  have dm : (s.mode == 1) = false := by simp [hm]
  have d4 : ((q.b0.toNat : Int) == 4) = false := by simp; omega
  have d76 : ((q.b0.toNat : Int) == 76) = false := by simp; omega
  have d81 : ((q.b0.toNat : Int) == 81) = false := by simp; omega
  have d64 : decide ((64 : Int) ≤ (q.b0.toNat : Int)) = false := by simp; omega
  generalize q.b0.toNat = M at *
  generalize q.b1.toNat = B1 at *
  generalize q.b2.toNat = B2 at *
  generalize q.b3.toNat = B3 at *
  generalize q.b4.toNat = B4 at *
  generalize hN0 : numq q = N0 at *
  clear hN0 h S0 T0 z0 q0 b0 hf hgk hkl ho eS eA h4 h76 h81 hr hm hb
  go_enter Try.func22, Try.ntmps22
  go_upto_region 1 with fail
  change Code.wp Try.prog _ _ _ ((w.alloc (.cells q.arr 34)).alloc (.cells zA8 34))
  rw [hW]
  go_quiet (fail)
  try rw [hNq.out]
  have z2 := Qb.drawn HZ.out nq
  go_wp2_with (first | (refine sdF (g := F8.nul) z2 rfl _ _ rfl rfl rfl ?_))
  exact bodyPost_ret (dtake_results (z2.row F8.nul) _ rfl rfl) rfl (PostD.mk rfl (HS.out.drawn nq) z2 (HT.out.drawn nq) (by have := HK.out; omega))
set_option maxHeartbeats 4000000 in
theorem dtn_hi_n1 (h : Da g s w) (ho : s.Ok) (q : F8) (h4 : q.b0.toNat ≠ 4) (h76 : q.b0.toNat ≠ 76) (h81 : q.b0.toNat ≠ 81) (hr : 68 ≤ q.b0.toNat) (hm : s.mode ≠ 1) (hb : s.bare = false) (hx : (s.ip == 0) = false) : Calls Try.prog 22 #[.pointer (some ⟨g, 0, none⟩), .agg q.arr] w (PostD g (s.takeS q) (s.takeA q) w) := by
  obtain ⟨W, k, hW, hk, q0, z0, b0, hkl⟩ := Qb.fresh2 w q
  have hgk : g < k := by rw [← hk]; exact h.lt
  have T0 : Two g g w W := by rw [← hW]; exact ((Two.refl _ _ _).alloc _).alloc _
  have S0 : Da g s W := h.below b0
  have u0 := q0.c0
  have u1 := q0.c1
  have u2 := q0.c2
  have u3 := q0.c3
  have u4 := q0.c4
  have l1 := q.b1.toNat_lt
  have l2 := q.b2.toNat_lt
  have l3 := q.b3.toNat_lt
  have l4 := q.b4.toNat_lt
  have lW : ∀ m, (loadVar 34 ⟨k, 0, none⟩).run Try.prog (W.drewN m) = .ok (.agg q.arr) (W.drewN m) := fun m => (Qb.drawn q0 m).load
  have hNq : Hid ((q.b1.toNat : Int) + 256 * (q.b2.toNat : Int) + 65536 * (q.b3.toNat : Int) + 16777216 * (q.b4.toNat : Int) = ((numq q : Nat) : Int)) := by show _ = _; unfold numq; omega
  have w1 : IntKind.u32.wrap (256 * (q.b2.toNat : Int)) = 256 * (q.b2.toNat : Int) := by have := wrapU32 (256 * q.b2.toNat) (by omega); simpa using this
  have w2 : IntKind.u32.wrap ((q.b1.toNat : Int) + 256 * (q.b2.toNat : Int)) = (q.b1.toNat : Int) + 256 * (q.b2.toNat : Int) := by have := wrapU32 (q.b1.toNat + 256 * q.b2.toNat) (by omega); simpa using this
  have w3 : IntKind.u32.wrap (65536 * (q.b3.toNat : Int)) = 65536 * (q.b3.toNat : Int) := by have := wrapU32 (65536 * q.b3.toNat) (by omega); simpa using this
  have w4 : IntKind.u32.wrap ((q.b1.toNat : Int) + 256 * (q.b2.toNat : Int) + 65536 * (q.b3.toNat : Int)) = (q.b1.toNat : Int) + 256 * (q.b2.toNat : Int) + 65536 * (q.b3.toNat : Int) := by have := wrapU32 (q.b1.toNat + 256 * q.b2.toNat + 65536 * q.b3.toNat) (by omega); simpa using this
  have w5 : IntKind.u32.wrap (16777216 * (q.b4.toNat : Int)) = 16777216 * (q.b4.toNat : Int) := by have := wrapU32 (16777216 * q.b4.toNat) (by omega); simpa using this
  have w6 : IntKind.u32.wrap ((q.b1.toNat : Int) + 256 * (q.b2.toNat : Int) + 65536 * (q.b3.toNat : Int) + 16777216 * (q.b4.toNat : Int)) = (q.b1.toNat : Int) + 256 * (q.b2.toNat : Int) + 65536 * (q.b3.toNat : Int) + 16777216 * (q.b4.toNat : Int) := by have := wrapU32 (q.b1.toNat + 256 * q.b2.toNat + 65536 * q.b3.toNat + 16777216 * q.b4.toNat) (by omega); simpa using this
  obtain ⟨_, _, _, _, c4, _, c6, _, _, _, _, _, c12, _, _, hf⟩ := S0.cells
  have f6 := hf 6
  have f12 := hf 12
  have HS := hidOf2 S0
  have HT := hidOf2 T0
  have HZ := hidOf2 z0
  have HK : Hid (w.heap.size = k ∧ g < k ∧ k + 1 < W.heap.size) := ⟨hk, hgk, hkl⟩
  have eS : s.takeS q = s := by unfold Ld.takeS; rw [if_neg h4, if_neg (fun x => h76 x.1), if_neg hm, if_neg (by omega), if_neg (fun x => h81 x.1)]
  have eA : s.takeA q = (F8.nul, false) := by unfold Ld.takeA; rw [if_neg h4, if_neg (fun x => h76 x.1), if_neg hm, if_neg (by omega), if_neg (fun x => h81 x.1)]
  rw [eS, eA]
  have dm : (s.mode == 1) = false := by simp [hm]
  have d4 : ((q.b0.toNat : Int) == 4) = false := by simp; omega
  have d76 : ((q.b0.toNat : Int) == 76) = false := by simp; omega
  have d81 : ((q.b0.toNat : Int) == 81) = false := by simp; omega
  have d64 : decide ((64 : Int) ≤ (q.b0.toNat : Int)) = true := by simp; omega
  have d67 : decide ((q.b0.toNat : Int) ≤ 67) = false := by simp; omega
  generalize q.b0.toNat = M at *
  generalize q.b1.toNat = B1 at *
  generalize q.b2.toNat = B2 at *
  generalize q.b3.toNat = B3 at *
  generalize q.b4.toNat = B4 at *
  generalize hN0 : numq q = N0 at *
  clear hN0 h S0 T0 z0 q0 b0 hf hgk hkl ho eS eA h4 h76 h81 hr hm hb
  go_enter Try.func22, Try.ntmps22
  go_upto_region 1 with fail
  change Code.wp Try.prog _ _ _ ((w.alloc (.cells q.arr 34)).alloc (.cells zA8 34))
  rw [hW]
  go_quiet (fail)
  try rw [hNq.out]
  have z2 := Qb.drawn HZ.out nq
  go_wp2_with (first | (refine sdF (g := F8.nul) z2 rfl _ _ rfl rfl rfl ?_))
  exact bodyPost_ret (dtake_results (z2.row F8.nul) _ rfl rfl) rfl (PostD.mk rfl (HS.out.drawn nq) z2 (HT.out.drawn nq) (by have := HK.out; omega))
set_option maxHeartbeats 4000000 in
theorem dtn_lo_n2 (h : Da g s w) (ho : s.Ok) (q : F8) (h4 : q.b0.toNat ≠ 4) (h76 : q.b0.toNat ≠ 76) (h81 : q.b0.toNat ≠ 81) (hr : q.b0.toNat < 64) (hm : s.mode ≠ 1) (hb : s.bare = false) (hx : s.ip = 0) (hy : (s.iu == 0) = false) : Calls Try.prog 22 #[.pointer (some ⟨g, 0, none⟩), .agg q.arr] w (PostD g (s.takeS q) (s.takeA q) w) := by
  obtain ⟨W, k, hW, hk, q0, z0, b0, hkl⟩ := Qb.fresh2 w q
  have hgk : g < k := by rw [← hk]; exact h.lt
  have T0 : Two g g w W := by rw [← hW]; exact ((Two.refl _ _ _).alloc _).alloc _
  have S0 : Da g s W := h.below b0
  have u0 := q0.c0
  have u1 := q0.c1
  have u2 := q0.c2
  have u3 := q0.c3
  have u4 := q0.c4
  have l1 := q.b1.toNat_lt
  have l2 := q.b2.toNat_lt
  have l3 := q.b3.toNat_lt
  have l4 := q.b4.toNat_lt
  have lW : ∀ m, (loadVar 34 ⟨k, 0, none⟩).run Try.prog (W.drewN m) = .ok (.agg q.arr) (W.drewN m) := fun m => (Qb.drawn q0 m).load
  have hNq : Hid ((q.b1.toNat : Int) + 256 * (q.b2.toNat : Int) + 65536 * (q.b3.toNat : Int) + 16777216 * (q.b4.toNat : Int) = ((numq q : Nat) : Int)) := by show _ = _; unfold numq; omega
  have w1 : IntKind.u32.wrap (256 * (q.b2.toNat : Int)) = 256 * (q.b2.toNat : Int) := by have := wrapU32 (256 * q.b2.toNat) (by omega); simpa using this
  have w2 : IntKind.u32.wrap ((q.b1.toNat : Int) + 256 * (q.b2.toNat : Int)) = (q.b1.toNat : Int) + 256 * (q.b2.toNat : Int) := by have := wrapU32 (q.b1.toNat + 256 * q.b2.toNat) (by omega); simpa using this
  have w3 : IntKind.u32.wrap (65536 * (q.b3.toNat : Int)) = 65536 * (q.b3.toNat : Int) := by have := wrapU32 (65536 * q.b3.toNat) (by omega); simpa using this
  have w4 : IntKind.u32.wrap ((q.b1.toNat : Int) + 256 * (q.b2.toNat : Int) + 65536 * (q.b3.toNat : Int)) = (q.b1.toNat : Int) + 256 * (q.b2.toNat : Int) + 65536 * (q.b3.toNat : Int) := by have := wrapU32 (q.b1.toNat + 256 * q.b2.toNat + 65536 * q.b3.toNat) (by omega); simpa using this
  have w5 : IntKind.u32.wrap (16777216 * (q.b4.toNat : Int)) = 16777216 * (q.b4.toNat : Int) := by have := wrapU32 (16777216 * q.b4.toNat) (by omega); simpa using this
  have w6 : IntKind.u32.wrap ((q.b1.toNat : Int) + 256 * (q.b2.toNat : Int) + 65536 * (q.b3.toNat : Int) + 16777216 * (q.b4.toNat : Int)) = (q.b1.toNat : Int) + 256 * (q.b2.toNat : Int) + 65536 * (q.b3.toNat : Int) + 16777216 * (q.b4.toNat : Int) := by have := wrapU32 (q.b1.toNat + 256 * q.b2.toNat + 65536 * q.b3.toNat + 16777216 * q.b4.toNat) (by omega); simpa using this
  obtain ⟨_, _, _, _, c4, _, c6, _, _, _, _, _, c12, _, _, hf⟩ := S0.cells
  have f6 := hf 6
  have f12 := hf 12
  have HS := hidOf2 S0
  have HT := hidOf2 T0
  have HZ := hidOf2 z0
  have HK : Hid (w.heap.size = k ∧ g < k ∧ k + 1 < W.heap.size) := ⟨hk, hgk, hkl⟩
  have eS : s.takeS q = s := by unfold Ld.takeS; rw [if_neg h4, if_neg (fun x => h76 x.1), if_neg hm, if_neg (by omega), if_neg (fun x => h81 x.1)]
  have eA : s.takeA q = (F8.nul, false) := by unfold Ld.takeA; rw [if_neg h4, if_neg (fun x => h76 x.1), if_neg hm, if_neg (by omega), if_neg (fun x => h81 x.1)]
  rw [eS, eA]
  have dm : (s.mode == 1) = false := by simp [hm]
  have d4 : ((q.b0.toNat : Int) == 4) = false := by simp; omega
  have d76 : ((q.b0.toNat : Int) == 76) = false := by simp; omega
  have d81 : ((q.b0.toNat : Int) == 81) = false := by simp; omega
  have d64 : decide ((64 : Int) ≤ (q.b0.toNat : Int)) = false := by simp; omega
  rw [hx] at c4
  generalize q.b0.toNat = M at *
  generalize q.b1.toNat = B1 at *
  generalize q.b2.toNat = B2 at *
  generalize q.b3.toNat = B3 at *
  generalize q.b4.toNat = B4 at *
  generalize hN0 : numq q = N0 at *
  clear hN0 h S0 T0 z0 q0 b0 hf hgk hkl ho eS eA h4 h76 h81 hr hm hb hx
  go_enter Try.func22, Try.ntmps22
  go_upto_region 1 with fail
  change Code.wp Try.prog _ _ _ ((w.alloc (.cells q.arr 34)).alloc (.cells zA8 34))
  rw [hW]
  go_quiet (fail)
  try rw [hNq.out]
  have z2 := Qb.drawn HZ.out nq
  go_wp2_with (first | (refine sdF (g := F8.nul) z2 rfl _ _ rfl rfl rfl ?_))
  exact bodyPost_ret (dtake_results (z2.row F8.nul) _ rfl rfl) rfl (PostD.mk rfl (HS.out.drawn nq) z2 (HT.out.drawn nq) (by have := HK.out; omega))
set_option maxHeartbeats 4000000 in
theorem dtn_hi_n2 (h : Da g s w) (ho : s.Ok) (q : F8) (h4 : q.b0.toNat ≠ 4) (h76 : q.b0.toNat ≠ 76) (h81 : q.b0.toNat ≠ 81) (hr : 68 ≤ q.b0.toNat) (hm : s.mode ≠ 1) (hb : s.bare = false) (hx : s.ip = 0) (hy : (s.iu == 0) = false) : Calls Try.prog 22 #[.pointer (some ⟨g, 0, none⟩), .agg q.arr] w (PostD g (s.takeS q) (s.takeA q) w) := by
  obtain ⟨W, k, hW, hk, q0, z0, b0, hkl⟩ := Qb.fresh2 w q
  have hgk : g < k := by rw [← hk]; exact h.lt
  have T0 : Two g g w W := by rw [← hW]; exact ((Two.refl _ _ _).alloc _).alloc _
  have S0 : Da g s W := h.below b0
  have u0 := q0.c0
  have u1 := q0.c1
  have u2 := q0.c2
  have u3 := q0.c3
  have u4 := q0.c4
  have l1 := q.b1.toNat_lt
  have l2 := q.b2.toNat_lt
  have l3 := q.b3.toNat_lt
  have l4 := q.b4.toNat_lt
  have lW : ∀ m, (loadVar 34 ⟨k, 0, none⟩).run Try.prog (W.drewN m) = .ok (.agg q.arr) (W.drewN m) := fun m => (Qb.drawn q0 m).load
  have hNq : Hid ((q.b1.toNat : Int) + 256 * (q.b2.toNat : Int) + 65536 * (q.b3.toNat : Int) + 16777216 * (q.b4.toNat : Int) = ((numq q : Nat) : Int)) := by show _ = _; unfold numq; omega
  have w1 : IntKind.u32.wrap (256 * (q.b2.toNat : Int)) = 256 * (q.b2.toNat : Int) := by have := wrapU32 (256 * q.b2.toNat) (by omega); simpa using this
  have w2 : IntKind.u32.wrap ((q.b1.toNat : Int) + 256 * (q.b2.toNat : Int)) = (q.b1.toNat : Int) + 256 * (q.b2.toNat : Int) := by have := wrapU32 (q.b1.toNat + 256 * q.b2.toNat) (by omega); simpa using this
  have w3 : IntKind.u32.wrap (65536 * (q.b3.toNat : Int)) = 65536 * (q.b3.toNat : Int) := by have := wrapU32 (65536 * q.b3.toNat) (by omega); simpa using this
  have w4 : IntKind.u32.wrap ((q.b1.toNat : Int) + 256 * (q.b2.toNat : Int) + 65536 * (q.b3.toNat : Int)) = (q.b1.toNat : Int) + 256 * (q.b2.toNat : Int) + 65536 * (q.b3.toNat : Int) := by have := wrapU32 (q.b1.toNat + 256 * q.b2.toNat + 65536 * q.b3.toNat) (by omega); simpa using this
  have w5 : IntKind.u32.wrap (16777216 * (q.b4.toNat : Int)) = 16777216 * (q.b4.toNat : Int) := by have := wrapU32 (16777216 * q.b4.toNat) (by omega); simpa using this
  have w6 : IntKind.u32.wrap ((q.b1.toNat : Int) + 256 * (q.b2.toNat : Int) + 65536 * (q.b3.toNat : Int) + 16777216 * (q.b4.toNat : Int)) = (q.b1.toNat : Int) + 256 * (q.b2.toNat : Int) + 65536 * (q.b3.toNat : Int) + 16777216 * (q.b4.toNat : Int) := by have := wrapU32 (q.b1.toNat + 256 * q.b2.toNat + 65536 * q.b3.toNat + 16777216 * q.b4.toNat) (by omega); simpa using this
  obtain ⟨_, _, _, _, c4, _, c6, _, _, _, _, _, c12, _, _, hf⟩ := S0.cells
  have f6 := hf 6
  have f12 := hf 12
  have HS := hidOf2 S0
  have HT := hidOf2 T0
  have HZ := hidOf2 z0
  have HK : Hid (w.heap.size = k ∧ g < k ∧ k + 1 < W.heap.size) := ⟨hk, hgk, hkl⟩
  have eS : s.takeS q = s := by unfold Ld.takeS; rw [if_neg h4, if_neg (fun x => h76 x.1), if_neg hm, if_neg (by omega), if_neg (fun x => h81 x.1)]
  have eA : s.takeA q = (F8.nul, false) := by unfold Ld.takeA; rw [if_neg h4, if_neg (fun x => h76 x.1), if_neg hm, if_neg (by omega), if_neg (fun x => h81 x.1)]
  rw [eS, eA]
  have dm : (s.mode == 1) = false := by simp [hm]
  have d4 : ((q.b0.toNat : Int) == 4) = false := by simp; omega
  have d76 : ((q.b0.toNat : Int) == 76) = false := by simp; omega
  have d81 : ((q.b0.toNat : Int) == 81) = false := by simp; omega
  have d64 : decide ((64 : Int) ≤ (q.b0.toNat : Int)) = true := by simp; omega
  have d67 : decide ((q.b0.toNat : Int) ≤ 67) = false := by simp; omega
  rw [hx] at c4
  generalize q.b0.toNat = M at *
  generalize q.b1.toNat = B1 at *
  generalize q.b2.toNat = B2 at *
  generalize q.b3.toNat = B3 at *
  generalize q.b4.toNat = B4 at *
  generalize hN0 : numq q = N0 at *
  clear hN0 h S0 T0 z0 q0 b0 hf hgk hkl ho eS eA h4 h76 h81 hr hm hb hx
  go_enter Try.func22, Try.ntmps22
  go_upto_region 1 with fail
  change Code.wp Try.prog _ _ _ ((w.alloc (.cells q.arr 34)).alloc (.cells zA8 34))
  rw [hW]
  go_quiet (fail)
  try rw [hNq.out]
  have z2 := Qb.drawn HZ.out nq
  go_wp2_with (first | (refine sdF (g := F8.nul) z2 rfl _ _ rfl rfl rfl ?_))
  exact bodyPost_ret (dtake_results (z2.row F8.nul) _ rfl rfl) rfl (PostD.mk rfl (HS.out.drawn nq) z2 (HT.out.drawn nq) (by have := HK.out; omega))
theorem dtake_any (h : Da g s w) (ho : s.Ok) (q : F8) : Calls Try.prog 22 #[.pointer (some ⟨g, 0, none⟩), .agg q.arr] w (PostD g (s.takeS q) (s.takeA q) w) := by
  by_cases h4 : q.b0.toNat = 4
  · by_cases e0 : q.b1.toNat = 0
    · by_cases e1 : s.iu = 0
      · exact dt4_a h ho q h4 e0 e1
      · exact dt4_b h ho q h4 e0 e1
    · by_cases e1 : q.b1.toNat = 1
      · exact dt4_c h ho q h4 e1
      · exact dt4_d h ho q h4 e0 e1
  rcases free_cases s with ⟨hb, _, _⟩ | ⟨hb, hx⟩ | ⟨hb, hx, hy⟩
  · by_cases h76 : q.b0.toNat = 76
    · exact dt76 h ho q h76 hb
    by_cases hm : s.mode = 1
    · exact dtc_o_y h ho q h4 h76 hm hb
    by_cases e0 : q.b0.toNat = 64
    · exact dtp64_y h ho q e0 hm hb
    by_cases e1 : q.b0.toNat = 65
    · exact dtp65_y h ho q e1 hm hb
    by_cases e2 : q.b0.toNat = 66
    · exact dtp66_y h ho q e2 hm hb
    by_cases e3 : q.b0.toNat = 67
    · exact dtp67_y h ho q e3 hm hb
    by_cases h81 : q.b0.toNat = 81
    · exact dts h ho q h81 hm hb
    by_cases hr : q.b0.toNat < 64
    · exact dtn_lo_y h ho q h4 h76 h81 hr hm hb
    · exact dtn_hi_y h ho q h4 h76 h81 (by omega) hm hb
  · by_cases h76 : q.b0.toNat = 76
    · by_cases hm : s.mode = 1
      · exact dtc_76_n1 h ho q h76 hm hb hx
      · exact dtn76_n1 h ho q h76 hm hb hx
    by_cases hm : s.mode = 1
    · exact dtc_o_n1 h ho q h4 h76 hm hb hx
    by_cases e0 : q.b0.toNat = 64
    · exact dtp64_n1 h ho q e0 hm hb hx
    by_cases e1 : q.b0.toNat = 65
    · exact dtp65_n1 h ho q e1 hm hb hx
    by_cases e2 : q.b0.toNat = 66
    · exact dtp66_n1 h ho q e2 hm hb hx
    by_cases e3 : q.b0.toNat = 67
    · exact dtp67_n1 h ho q e3 hm hb hx
    by_cases h81 : q.b0.toNat = 81
    · exact dtn81_n1 h ho q h81 hm hb hx
    by_cases hr : q.b0.toNat < 64
    · exact dtn_lo_n1 h ho q h4 h76 h81 hr hm hb hx
    · exact dtn_hi_n1 h ho q h4 h76 h81 (by omega) hm hb hx
  · by_cases h76 : q.b0.toNat = 76
    · by_cases hm : s.mode = 1
      · exact dtc_76_n2 h ho q h76 hm hb hx hy
      · exact dtn76_n2 h ho q h76 hm hb hx hy
    by_cases hm : s.mode = 1
    · exact dtc_o_n2 h ho q h4 h76 hm hb hx hy
    by_cases e0 : q.b0.toNat = 64
    · exact dtp64_n2 h ho q e0 hm hb hx hy
    by_cases e1 : q.b0.toNat = 65
    · exact dtp65_n2 h ho q e1 hm hb hx hy
    by_cases e2 : q.b0.toNat = 66
    · exact dtp66_n2 h ho q e2 hm hb hx hy
    by_cases e3 : q.b0.toNat = 67
    · exact dtp67_n2 h ho q e3 hm hb hx hy
    by_cases h81 : q.b0.toNat = 81
    · exact dtn81_n2 h ho q h81 hm hb hx hy
    by_cases hr : q.b0.toNat < 64
    · exact dtn_lo_n2 h ho q h4 h76 h81 hr hm hb hx hy
    · exact dtn_hi_n2 h ho q h4 h76 h81 (by omega) hm hb hx hy
end
end Go.Proofs.Ythbmbabndhpdkaa
