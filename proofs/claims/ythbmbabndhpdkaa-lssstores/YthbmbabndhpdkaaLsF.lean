/- The program's slave takes a command of the configuration. -/
import Derived.Test.YthbmbabndhpdkaaLsE
namespace Go.Proofs.Ythbmbabndhpdkaa
open Go.RowKit
open Classical
set_option linter.unusedVariables false
set_option maxRecDepth 1000000
set_option linter.unusedSimpArgs false
theorem two_row {g h : Nat} {a w : World} (x : Two g h a w) (q : Nat) (hq : a.heap.size ≤ q) (cs : Array Value) : Two g h a (w.setRow q cs) :=
  ⟨x.os, x.tape, x.output, by simpa [World.setRow] using x.size, fun k hk h1 h2 => (setRow_other w q k _ (by omega)).trans (x.block k hk h1 h2)⟩
theorem two_below {g h : Nat} {a w y : World} (x : Two g h a w) (b : Below w.heap.size w y) : Two g h a y := x.trans ⟨b.os, b.tape, b.output, b.size, fun k hk _ _ => b.block k hk⟩
theorem bc_ne {T U : TypeId} {g j : Nat} {A B : Array Value} {w : World} (h : Bc T g A w) (h2 : Bc U j B w) (hT : T ≠ U) : g ≠ j := by
  rintro rfl
  unfold Bc at h h2
  rw [h] at h2
  injection h2 with h2
  injection h2 with h3 h4
  exact hT h4
section
variable {g n : Nat} {p : Option Nat} {s : Ls} {w x : World}
theorem Sa.row {j : Nat} {f : F8} (h : Sa g n p s w) (hq : Qb j f w) (A : Array Value) : Sa g n p s (w.setRow j A) := by
  have e1 : g ≠ j := bc_ne h.hd (U := 34) hq (by decide)
  refine ⟨(setRow_other _ _ _ _ e1).trans h.hd, ?_⟩
  rcases h.kt with h | ⟨k, a, b, e1, e2, e3, e4, e5⟩
  · exact .inl h
  · have e6 : k ≠ j := bc_ne e5 (U := 34) hq (by decide)
    exact .inr ⟨k, a, b, e1, e2, e3, e4, (setRow_other _ _ _ _ e6).trans e5⟩
/-- What a call that answers a frame leaves. -/
def PostF (g n : Nat) (s : Ls) (r : F8 × Bool) (w : World) (e : Ending) (w' : World) : Prop := e = .returned (.tuple #[.agg r.1.arr, .bool r.2]) ∧ (∃ p', Sa g n p' s w') ∧ Two g g w w'
theorem conf_results {Q : Nat} {f : F8} {b : Bool} {w : World} (h : Qb Q f w) (tmps : Array Value) (h2 : tmps[4]?.getD undef = .pointer (some ⟨Q, 0, none⟩)) (h3 : tmps[5]?.getD undef = .bool b) :
    (results Try.f27 tmps).run Try.prog w = .ok (.tuple #[.agg f.arr, .bool b]) w := by
  have l0 := h.load
  simp [Go.results, Try.results27, h2, h3, asAddr, l0]
theorem wait_results {Q : Nat} {f : F8} {b : Bool} {w : World} (h : Qb Q f w) (tmps : Array Value) (h2 : tmps[4]?.getD undef = .pointer (some ⟨Q, 0, none⟩)) (h3 : tmps[5]?.getD undef = .bool b) :
    (results Try.f28 tmps).run Try.prog w = .ok (.tuple #[.agg f.arr, .bool b]) w := by
  have l0 := h.load
  simp [Go.results, Try.results28, h2, h3, asAddr, l0]
theorem take_results {Q : Nat} {f : F8} {b : Bool} {w : World} (h : Qb Q f w) (tmps : Array Value) (h2 : tmps[4]?.getD undef = .pointer (some ⟨Q, 0, none⟩)) (h3 : tmps[5]?.getD undef = .bool b) :
    (results Try.f15 tmps).run Try.prog w = .ok (.tuple #[.agg f.arr, .bool b]) w := by
  have l0 := h.load
  simp [Go.results, Try.results15, h2, h3, asAddr, l0]
theorem PostF.mk {s : Ls} {f : F8} {b : Bool} {r : F8 × Bool} {w y : World} {j : Nat} {h : F8} (hr : r = (f, b)) (hS : ∃ p', Sa g n p' s y) (hq : Qb j h y) (t : Two g g w y) (hj : w.heap.size ≤ j) : PostF g n s r w (.returned (.tuple #[.agg f.arr, .bool b])) (y.setRow j f.arr) := by
  subst hr
  obtain ⟨p', S⟩ := hS
  exact ⟨rfl, ⟨p', S.row hq _⟩, two_row t j hj _⟩
set_option maxHeartbeats 4000000 in
theorem conf17 (h : Sa g n p s w) (hn : n < w.heap.size) (ho : s.Ok) (q : F8) (h1 : q.b0.toNat = 17) : Calls Try.prog 27 #[.pointer (some ⟨g, 0, none⟩), .agg q.arr] w (PostF g n (s.confS q) (s.confA q) w) := by
  obtain ⟨W, k, hW, hk, q0, z0, b0, hkl⟩ := Qb.fresh2 w q
  have hgk : g < k := by rw [← hk]; exact h.lt
  have T0 : Two g g w W := by rw [← hW]; exact ((Two.refl _ _ _).alloc _).alloc _
  have S0 : Sa g n p s W := h.below b0
  have hnW : n < W.heap.size := by omega
  have u0 := q0.c0
  have u1 := q0.c1
  have u2 := q0.c2
  have l0 := q.b0.toNat_lt
  have l1 := q.b1.toNat_lt
  have l2 := q.b2.toNat_lt
  have eS : s.confS q = s.setId q.b1.toNat := by unfold Ls.confS; rw [h1]; rfl
  have eA : s.confA q = (ordF 17 (if Ls.goodId q.b1.toNat then 0 else 1), true) := by unfold Ls.confA; rw [h1]; rfl
  rw [eS, eA]
  have hC := lsetid_any S0 q.b1.toNat l1
  have hv : (if Ls.goodId q.b1.toNat then 0 else 1 : Nat) < 4294967296 := by split <;> omega
  obtain ⟨V, hV⟩ : ∃ v : Nat, (if Ls.goodId q.b1.toNat then 0 else 1 : Nat) = v := ⟨_, rfl⟩
  rw [hV] at hC hv ⊢
  have hO : Hid (∀ x, Calls Try.prog 13 #[.int .u8 17, .int .u32 (V : Int)] x fun e w' => e = .returned (.agg (ordF 17 V).arr) ∧ Below x.heap.size x w') := fun x => lorder_any 17 V x (by omega) hv
  rw [h1] at u0
  have wr1 := wrapI q.b1.toNat (by omega)
  have wr2 := wrapI q.b2.toNat (by omega)
  generalize q.b1.toNat = B1 at *
  generalize q.b2.toNat = B2 at *
  generalize ordF 17 V = F at *
  have HZ := hidOf2 z0
  have HT := hidOf2 T0
  have HK : Hid (g < k ∧ w.heap.size = k ∧ k + 1 < W.heap.size) := ⟨hgk, hk, hkl⟩
  clear h eS eA hv S0 q0 z0 b0 T0 h1 hV ho hgk hkl
  go_enter Try.func27, Try.ntmps27
  go_upto_region 1 with fail
  change Code.wp Try.prog _ _ _ ((w.alloc (.cells q.arr 34)).alloc (.cells zA8 34))
  rw [hW]
  go_wp2_with fail
  refine hC.mono ?_
  rintro e w1 ⟨rfl, S1, T1⟩
  go_wp2_with fail
  refine (hO.out w1).mono ?_
  rintro e w2 ⟨rfl, B2x⟩
  have K := HK.out
  have z2 : Qb (k + 1) F8.nul w2 := (HZ.out.two T1 (by omega) (by omega)).below B2x
  go_wp2_with (first | (refine sdF (g := F) z2 rfl _ _ rfl rfl rfl ?_))
  exact bodyPost_ret (conf_results (z2.row F) _ rfl rfl) rfl (PostF.mk rfl ⟨_, S1.below B2x⟩ z2 (two_below (HT.out.trans T1) B2x) (by omega))
set_option maxHeartbeats 4000000 in
theorem conf19 (h : Sa g n p s w) (hn : n < w.heap.size) (ho : s.Ok) (q : F8) (h1 : q.b0.toNat = 19) : Calls Try.prog 27 #[.pointer (some ⟨g, 0, none⟩), .agg q.arr] w (PostF g n (s.confS q) (s.confA q) w) := by
  obtain ⟨W, k, hW, hk, q0, z0, b0, hkl⟩ := Qb.fresh2 w q
  have hgk : g < k := by rw [← hk]; exact h.lt
  have T0 : Two g g w W := by rw [← hW]; exact ((Two.refl _ _ _).alloc _).alloc _
  have S0 : Sa g n p s W := h.below b0
  have hnW : n < W.heap.size := by omega
  have u0 := q0.c0
  have u1 := q0.c1
  have u2 := q0.c2
  have l0 := q.b0.toNat_lt
  have l1 := q.b1.toNat_lt
  have l2 := q.b2.toNat_lt
  have eS : s.confS q = s.setRt q.b1.toNat q.b2.toNat := by unfold Ls.confS; rw [h1]; rfl
  have eA : s.confA q = (ordF 19 (if Ls.goodRate q.b1.toNat q.b2.toNat then 0 else 1), true) := by unfold Ls.confA; rw [h1]; rfl
  rw [eS, eA]
  have hC := lsetrt_any S0 q.b1.toNat q.b2.toNat
  have hv : (if Ls.goodRate q.b1.toNat q.b2.toNat then 0 else 1 : Nat) < 4294967296 := by split <;> omega
  obtain ⟨V, hV⟩ : ∃ v : Nat, (if Ls.goodRate q.b1.toNat q.b2.toNat then 0 else 1 : Nat) = v := ⟨_, rfl⟩
  rw [hV] at hC hv ⊢
  have hO : Hid (∀ x, Calls Try.prog 13 #[.int .u8 19, .int .u32 (V : Int)] x fun e w' => e = .returned (.agg (ordF 19 V).arr) ∧ Below x.heap.size x w') := fun x => lorder_any 19 V x (by omega) hv
  rw [h1] at u0
  have wr1 := wrapI q.b1.toNat (by omega)
  have wr2 := wrapI q.b2.toNat (by omega)
  generalize q.b1.toNat = B1 at *
  generalize q.b2.toNat = B2 at *
  generalize ordF 19 V = F at *
  have HZ := hidOf2 z0
  have HT := hidOf2 T0
  have HK : Hid (g < k ∧ w.heap.size = k ∧ k + 1 < W.heap.size) := ⟨hgk, hk, hkl⟩
  clear h eS eA hv S0 q0 z0 b0 T0 h1 hV ho hgk hkl
  go_enter Try.func27, Try.ntmps27
  go_upto_region 1 with fail
  change Code.wp Try.prog _ _ _ ((w.alloc (.cells q.arr 34)).alloc (.cells zA8 34))
  rw [hW]
  go_wp2_with fail
  refine hC.mono ?_
  rintro e w1 ⟨rfl, S1, T1⟩
  go_wp2_with fail
  refine (hO.out w1).mono ?_
  rintro e w2 ⟨rfl, B2x⟩
  have K := HK.out
  have z2 : Qb (k + 1) F8.nul w2 := (HZ.out.two T1 (by omega) (by omega)).below B2x
  go_wp2_with (first | (refine sdF (g := F) z2 rfl _ _ rfl rfl rfl ?_))
  exact bodyPost_ret (conf_results (z2.row F) _ rfl rfl) rfl (PostF.mk rfl ⟨_, S1.below B2x⟩ z2 (two_below (HT.out.trans T1) B2x) (by omega))
set_option maxHeartbeats 4000000 in
theorem conf21 (h : Sa g n p s w) (hn : n < w.heap.size) (ho : s.Ok) (q : F8) (h1 : q.b0.toNat = 21) : Calls Try.prog 27 #[.pointer (some ⟨g, 0, none⟩), .agg q.arr] w (PostF g n (s.confS q) (s.confA q) w) := by
  obtain ⟨W, k, hW, hk, q0, z0, b0, hkl⟩ := Qb.fresh2 w q
  have hgk : g < k := by rw [← hk]; exact h.lt
  have T0 : Two g g w W := by rw [← hW]; exact ((Two.refl _ _ _).alloc _).alloc _
  have S0 : Sa g n p s W := h.below b0
  have hnW : n < W.heap.size := by omega
  have u0 := q0.c0
  have u1 := q0.c1
  have u2 := q0.c2
  have l0 := q.b0.toNat_lt
  have l1 := q.b1.toNat_lt
  have l2 := q.b2.toNat_lt
  have eS : s.confS q = { s with ru := s.rp } := by unfold Ls.confS; rw [h1]; rfl
  have eA : s.confA q = (F8.nul, false) := by unfold Ls.confA; rw [h1]; rfl
  rw [eS, eA]
  obtain ⟨_, _, _, _, _, _, _, c7, c8, _, _, _, _, _, _, _, _, hf⟩ := S0.cells
  have f8 := hf 8
  rw [h1] at u0
  have HS : Hid (Sa g n p { s with ru := s.rp } (W.setCell ⟨g, 8, none⟩ (.int .i64 s.rp))) := Sa.set S0 rfl rfl
  have HT : Hid (Two g g w (W.setCell ⟨g, 8, none⟩ (.int .i64 s.rp))) := T0.at0 8 _
  have z2 : Qb (k + 1) F8.nul (W.setCell ⟨g, 8, none⟩ (.int .i64 s.rp)) := z0.two ((Two.refl g g W).at0 8 _) (by omega) (by omega)
  have HZ := hidOf2 z2
  have HK : Hid (w.heap.size = k) := hk
  clear h eS eA S0 q0 z0 b0 T0 h1 ho hgk hkl hf z2
  go_enter Try.func27, Try.ntmps27
  go_upto_region 1 with fail
  change Code.wp Try.prog _ _ _ ((w.alloc (.cells q.arr 34)).alloc (.cells zA8 34))
  rw [hW]
  go_wp2_with (first | (refine sdF (g := F8.nul) HZ.out rfl _ _ rfl rfl rfl ?_))
  exact bodyPost_ret (conf_results (HZ.out.row F8.nul) _ rfl rfl) rfl (PostF.mk rfl ⟨_, HS.out⟩ HZ.out HT.out (by have := HK.out; omega))
set_option maxHeartbeats 4000000 in
theorem conf23 (h : Sa g n p s w) (hn : n < w.heap.size) (ho : s.Ok) (q : F8) (h1 : q.b0.toNat = 23) : Calls Try.prog 27 #[.pointer (some ⟨g, 0, none⟩), .agg q.arr] w (PostF g n (s.confS q) (s.confA q) w) := by
  obtain ⟨W, k, hW, hk, q0, z0, b0, hkl⟩ := Qb.fresh2 w q
  have hgk : g < k := by rw [← hk]; exact h.lt
  have T0 : Two g g w W := by rw [← hW]; exact ((Two.refl _ _ _).alloc _).alloc _
  have S0 : Sa g n p s W := h.below b0
  have hnW : n < W.heap.size := by omega
  have u0 := q0.c0
  have u1 := q0.c1
  have u2 := q0.c2
  have l0 := q.b0.toNat_lt
  have l1 := q.b1.toNat_lt
  have l2 := q.b2.toNat_lt
  have eS : s.confS q = s.keep := by unfold Ls.confS; rw [h1]; rfl
  have eA : s.confA q = (ordF 23 (if s.fails then 2 else 0), true) := by unfold Ls.confA; rw [h1]; rfl
  rw [eS, eA]
  have hC := lkeep_any S0 hnW
  have hv : (if s.fails then 2 else 0 : Nat) < 4294967296 := by split <;> omega
  obtain ⟨V, hV⟩ : ∃ v : Nat, (if s.fails then 2 else 0 : Nat) = v := ⟨_, rfl⟩
  rw [hV] at hC hv ⊢
  have hO : Hid (∀ x, Calls Try.prog 13 #[.int .u8 23, .int .u32 (V : Int)] x fun e w' => e = .returned (.agg (ordF 23 V).arr) ∧ Below x.heap.size x w') := fun x => lorder_any 23 V x (by omega) hv
  rw [h1] at u0
  generalize ordF 23 V = F at *
  have HZ := hidOf2 z0
  have HT := hidOf2 T0
  have HK : Hid (g < k ∧ w.heap.size = k ∧ k + 1 < W.heap.size) := ⟨hgk, hk, hkl⟩
  clear h eS eA hv S0 q0 z0 b0 T0 h1 hV ho hgk hkl hn hnW
  go_enter Try.func27, Try.ntmps27
  go_upto_region 1 with fail
  change Code.wp Try.prog _ _ _ ((w.alloc (.cells q.arr 34)).alloc (.cells zA8 34))
  rw [hW]
  go_wp2_with fail
  refine hC.mono ?_
  rintro e w1 ⟨rfl, S1, T1⟩
  have HS1 := hidOf2 S1
  clear S1
  go_wp2_with fail
  refine (hO.out w1).mono ?_
  rintro e w2 ⟨rfl, B2x⟩
  have K := HK.out
  have z2 : Qb (k + 1) F8.nul w2 := (HZ.out.two T1 (by omega) (by omega)).below B2x
  go_wp2_with (first | (refine sdF (g := F) z2 rfl _ _ rfl rfl rfl ?_))
  exact bodyPost_ret (conf_results (z2.row F) _ rfl rfl) rfl (PostF.mk rfl (by obtain ⟨p', S⟩ := HS1.out; exact ⟨p', S.below B2x⟩) z2 (two_below (HT.out.trans T1) B2x) (by omega))
set_option maxHeartbeats 4000000 in
theorem conf90 (h : Sa g n p s w) (hn : n < w.heap.size) (ho : s.Ok) (q : F8) (h1 : q.b0.toNat = 90) : Calls Try.prog 27 #[.pointer (some ⟨g, 0, none⟩), .agg q.arr] w (PostF g n (s.confS q) (s.confA q) w) := by
  obtain ⟨W, k, hW, hk, q0, z0, b0, hkl⟩ := Qb.fresh2 w q
  have hgk : g < k := by rw [← hk]; exact h.lt
  have T0 : Two g g w W := by rw [← hW]; exact ((Two.refl _ _ _).alloc _).alloc _
  have S0 : Sa g n p s W := h.below b0
  have hnW : n < W.heap.size := by omega
  have u0 := q0.c0
  have u1 := q0.c1
  have u2 := q0.c2
  have l0 := q.b0.toNat_lt
  have l1 := q.b1.toNat_lt
  have l2 := q.b2.toNat_lt
  have eS : s.confS q = s := by unfold Ls.confS; rw [h1]; rfl
  have eA : s.confA q = (ordF 90 s.a.x0, true) := by unfold Ls.confA; rw [h1]; rfl
  rw [eS, eA]
  obtain ⟨c0, c1, c2, c3, _⟩ := S0.cells
  have hv : s.a.x0 < 4294967296 := by have := ho.a; obtain ⟨x0, x1, x2, x3⟩ := this; assumption
  have hO : Hid (∀ x, Calls Try.prog 13 #[.int .u8 90, .int .u32 (s.a.x0 : Int)] x fun e w' => e = .returned (.agg (ordF 90 s.a.x0).arr) ∧ Below x.heap.size x w') := fun x => lorder_any 90 s.a.x0 x (by omega) hv
  rw [h1] at u0
  generalize ordF 90 s.a.x0 = F at *
  have HZ := hidOf2 z0
  have HT := hidOf2 T0
  have HS := hidOf2 S0
  have HK : Hid (w.heap.size = k) := hk
  clear h eS eA hv S0 q0 z0 b0 T0 h1 ho hgk hkl
  go_enter Try.func27, Try.ntmps27
  go_upto_region 1 with fail
  change Code.wp Try.prog _ _ _ ((w.alloc (.cells q.arr 34)).alloc (.cells zA8 34))
  rw [hW]
  go_wp2_with fail
  refine (hO.out W).mono ?_
  rintro e w2 ⟨rfl, B2x⟩
  have z2 : Qb (k + 1) F8.nul w2 := HZ.out.below B2x
  go_wp2_with (first | (refine sdF (g := F) z2 rfl _ _ rfl rfl rfl ?_))
  exact bodyPost_ret (conf_results (z2.row F) _ rfl rfl) rfl (PostF.mk rfl ⟨_, HS.out.below B2x⟩ z2 (two_below HT.out B2x) (by have := HK.out; omega))
set_option maxHeartbeats 4000000 in
theorem conf91 (h : Sa g n p s w) (hn : n < w.heap.size) (ho : s.Ok) (q : F8) (h1 : q.b0.toNat = 91) : Calls Try.prog 27 #[.pointer (some ⟨g, 0, none⟩), .agg q.arr] w (PostF g n (s.confS q) (s.confA q) w) := by
  obtain ⟨W, k, hW, hk, q0, z0, b0, hkl⟩ := Qb.fresh2 w q
  have hgk : g < k := by rw [← hk]; exact h.lt
  have T0 : Two g g w W := by rw [← hW]; exact ((Two.refl _ _ _).alloc _).alloc _
  have S0 : Sa g n p s W := h.below b0
  have hnW : n < W.heap.size := by omega
  have u0 := q0.c0
  have u1 := q0.c1
  have u2 := q0.c2
  have l0 := q.b0.toNat_lt
  have l1 := q.b1.toNat_lt
  have l2 := q.b2.toNat_lt
  have eS : s.confS q = s := by unfold Ls.confS; rw [h1]; rfl
  have eA : s.confA q = (ordF 91 s.a.x1, true) := by unfold Ls.confA; rw [h1]; rfl
  rw [eS, eA]
  obtain ⟨c0, c1, c2, c3, _⟩ := S0.cells
  have hv : s.a.x1 < 4294967296 := by have := ho.a; obtain ⟨x0, x1, x2, x3⟩ := this; assumption
  have hO : Hid (∀ x, Calls Try.prog 13 #[.int .u8 91, .int .u32 (s.a.x1 : Int)] x fun e w' => e = .returned (.agg (ordF 91 s.a.x1).arr) ∧ Below x.heap.size x w') := fun x => lorder_any 91 s.a.x1 x (by omega) hv
  rw [h1] at u0
  generalize ordF 91 s.a.x1 = F at *
  have HZ := hidOf2 z0
  have HT := hidOf2 T0
  have HS := hidOf2 S0
  have HK : Hid (w.heap.size = k) := hk
  clear h eS eA hv S0 q0 z0 b0 T0 h1 ho hgk hkl
  go_enter Try.func27, Try.ntmps27
  go_upto_region 1 with fail
  change Code.wp Try.prog _ _ _ ((w.alloc (.cells q.arr 34)).alloc (.cells zA8 34))
  rw [hW]
  go_wp2_with fail
  refine (hO.out W).mono ?_
  rintro e w2 ⟨rfl, B2x⟩
  have z2 : Qb (k + 1) F8.nul w2 := HZ.out.below B2x
  go_wp2_with (first | (refine sdF (g := F) z2 rfl _ _ rfl rfl rfl ?_))
  exact bodyPost_ret (conf_results (z2.row F) _ rfl rfl) rfl (PostF.mk rfl ⟨_, HS.out.below B2x⟩ z2 (two_below HT.out B2x) (by have := HK.out; omega))
set_option maxHeartbeats 4000000 in
theorem conf92 (h : Sa g n p s w) (hn : n < w.heap.size) (ho : s.Ok) (q : F8) (h1 : q.b0.toNat = 92) : Calls Try.prog 27 #[.pointer (some ⟨g, 0, none⟩), .agg q.arr] w (PostF g n (s.confS q) (s.confA q) w) := by
  obtain ⟨W, k, hW, hk, q0, z0, b0, hkl⟩ := Qb.fresh2 w q
  have hgk : g < k := by rw [← hk]; exact h.lt
  have T0 : Two g g w W := by rw [← hW]; exact ((Two.refl _ _ _).alloc _).alloc _
  have S0 : Sa g n p s W := h.below b0
  have hnW : n < W.heap.size := by omega
  have u0 := q0.c0
  have u1 := q0.c1
  have u2 := q0.c2
  have l0 := q.b0.toNat_lt
  have l1 := q.b1.toNat_lt
  have l2 := q.b2.toNat_lt
  have eS : s.confS q = s := by unfold Ls.confS; rw [h1]; rfl
  have eA : s.confA q = (ordF 92 s.a.x2, true) := by unfold Ls.confA; rw [h1]; rfl
  rw [eS, eA]
  obtain ⟨c0, c1, c2, c3, _⟩ := S0.cells
  have hv : s.a.x2 < 4294967296 := by have := ho.a; obtain ⟨x0, x1, x2, x3⟩ := this; assumption
  have hO : Hid (∀ x, Calls Try.prog 13 #[.int .u8 92, .int .u32 (s.a.x2 : Int)] x fun e w' => e = .returned (.agg (ordF 92 s.a.x2).arr) ∧ Below x.heap.size x w') := fun x => lorder_any 92 s.a.x2 x (by omega) hv
  rw [h1] at u0
  generalize ordF 92 s.a.x2 = F at *
  have HZ := hidOf2 z0
  have HT := hidOf2 T0
  have HS := hidOf2 S0
  have HK : Hid (w.heap.size = k) := hk
  clear h eS eA hv S0 q0 z0 b0 T0 h1 ho hgk hkl
  go_enter Try.func27, Try.ntmps27
  go_upto_region 1 with fail
  change Code.wp Try.prog _ _ _ ((w.alloc (.cells q.arr 34)).alloc (.cells zA8 34))
  rw [hW]
  go_wp2_with fail
  refine (hO.out W).mono ?_
  rintro e w2 ⟨rfl, B2x⟩
  have z2 : Qb (k + 1) F8.nul w2 := HZ.out.below B2x
  go_wp2_with (first | (refine sdF (g := F) z2 rfl _ _ rfl rfl rfl ?_))
  exact bodyPost_ret (conf_results (z2.row F) _ rfl rfl) rfl (PostF.mk rfl ⟨_, HS.out.below B2x⟩ z2 (two_below HT.out B2x) (by have := HK.out; omega))
set_option maxHeartbeats 4000000 in
theorem conf93 (h : Sa g n p s w) (hn : n < w.heap.size) (ho : s.Ok) (q : F8) (h1 : q.b0.toNat = 93) : Calls Try.prog 27 #[.pointer (some ⟨g, 0, none⟩), .agg q.arr] w (PostF g n (s.confS q) (s.confA q) w) := by
  obtain ⟨W, k, hW, hk, q0, z0, b0, hkl⟩ := Qb.fresh2 w q
  have hgk : g < k := by rw [← hk]; exact h.lt
  have T0 : Two g g w W := by rw [← hW]; exact ((Two.refl _ _ _).alloc _).alloc _
  have S0 : Sa g n p s W := h.below b0
  have hnW : n < W.heap.size := by omega
  have u0 := q0.c0
  have u1 := q0.c1
  have u2 := q0.c2
  have l0 := q.b0.toNat_lt
  have l1 := q.b1.toNat_lt
  have l2 := q.b2.toNat_lt
  have eS : s.confS q = s := by unfold Ls.confS; rw [h1]; rfl
  have eA : s.confA q = (ordF 93 s.a.x3, true) := by unfold Ls.confA; rw [h1]; rfl
  rw [eS, eA]
  obtain ⟨c0, c1, c2, c3, _⟩ := S0.cells
  have hv : s.a.x3 < 4294967296 := by have := ho.a; obtain ⟨x0, x1, x2, x3⟩ := this; assumption
  have hO : Hid (∀ x, Calls Try.prog 13 #[.int .u8 93, .int .u32 (s.a.x3 : Int)] x fun e w' => e = .returned (.agg (ordF 93 s.a.x3).arr) ∧ Below x.heap.size x w') := fun x => lorder_any 93 s.a.x3 x (by omega) hv
  rw [h1] at u0
  generalize ordF 93 s.a.x3 = F at *
  have HZ := hidOf2 z0
  have HT := hidOf2 T0
  have HS := hidOf2 S0
  have HK : Hid (w.heap.size = k) := hk
  clear h eS eA hv S0 q0 z0 b0 T0 h1 ho hgk hkl
  go_enter Try.func27, Try.ntmps27
  go_upto_region 1 with fail
  change Code.wp Try.prog _ _ _ ((w.alloc (.cells q.arr 34)).alloc (.cells zA8 34))
  rw [hW]
  go_wp2_with fail
  refine (hO.out W).mono ?_
  rintro e w2 ⟨rfl, B2x⟩
  have z2 : Qb (k + 1) F8.nul w2 := HZ.out.below B2x
  go_wp2_with (first | (refine sdF (g := F) z2 rfl _ _ rfl rfl rfl ?_))
  exact bodyPost_ret (conf_results (z2.row F) _ rfl rfl) rfl (PostF.mk rfl ⟨_, HS.out.below B2x⟩ z2 (two_below HT.out B2x) (by have := HK.out; omega))
set_option maxHeartbeats 4000000 in
theorem conf94 (h : Sa g n p s w) (hn : n < w.heap.size) (ho : s.Ok) (q : F8) (h1 : q.b0.toNat = 94) : Calls Try.prog 27 #[.pointer (some ⟨g, 0, none⟩), .agg q.arr] w (PostF g n (s.confS q) (s.confA q) w) := by
  obtain ⟨W, k, hW, hk, q0, z0, b0, hkl⟩ := Qb.fresh2 w q
  have hgk : g < k := by rw [← hk]; exact h.lt
  have T0 : Two g g w W := by rw [← hW]; exact ((Two.refl _ _ _).alloc _).alloc _
  have S0 : Sa g n p s W := h.below b0
  have hnW : n < W.heap.size := by omega
  have u0 := q0.c0
  have u1 := q0.c1
  have u2 := q0.c2
  have l0 := q.b0.toNat_lt
  have l1 := q.b1.toNat_lt
  have l2 := q.b2.toNat_lt
  have eS : s.confS q = s := by unfold Ls.confS; rw [h1]; rfl
  have eA : s.confA q = (ordF 94 (if s.iu = 0 then 255 else s.iu.toNat), true) := by unfold Ls.confA; rw [h1]; rfl
  rw [eS, eA]
  have hC := ltell_any S0 ho.iu
  have hv : (if s.iu = 0 then 255 else s.iu.toNat : Nat) < 4294967296 := by have := ho.iu; split <;> omega
  obtain ⟨V, hV⟩ : ∃ v : Nat, (if s.iu = 0 then 255 else s.iu.toNat : Nat) = v := ⟨_, rfl⟩
  rw [hV] at hC hv ⊢
  have hO : Hid (∀ x, Calls Try.prog 13 #[.int .u8 94, .int .u32 (V : Int)] x fun e w' => e = .returned (.agg (ordF 94 V).arr) ∧ Below x.heap.size x w') := fun x => lorder_any 94 V x (by omega) hv
  rw [h1] at u0
  generalize ordF 94 V = F at *
  have HZ := hidOf2 z0
  have HT := hidOf2 T0
  have HS := hidOf2 S0
  have HK : Hid (w.heap.size = k) := hk
  clear h eS eA hv S0 q0 z0 b0 T0 h1 hV ho hgk hkl
  go_enter Try.func27, Try.ntmps27
  go_upto_region 1 with fail
  change Code.wp Try.prog _ _ _ ((w.alloc (.cells q.arr 34)).alloc (.cells zA8 34))
  rw [hW]
  go_wp2_with fail
  refine hC.mono ?_
  rintro e w1 ⟨rfl, hw1⟩
  subst hw1
  go_wp2_with fail
  refine (hO.out _).mono ?_
  rintro e w2 ⟨rfl, B2x⟩
  have z2 : Qb (k + 1) F8.nul w2 := HZ.out.below B2x
  go_wp2_with (first | (refine sdF (g := F) z2 rfl _ _ rfl rfl rfl ?_))
  exact bodyPost_ret (conf_results (z2.row F) _ rfl rfl) rfl (PostF.mk rfl ⟨_, HS.out.below B2x⟩ z2 (two_below HT.out B2x) (by have := HK.out; omega))
set_option maxHeartbeats 4000000 in
theorem conf_else (h : Sa g n p s w) (hn : n < w.heap.size) (ho : s.Ok) (q : F8) (h17 : q.b0.toNat ≠ 17) (h19 : q.b0.toNat ≠ 19) (h21 : q.b0.toNat ≠ 21) (h23 : q.b0.toNat ≠ 23) (h90 : q.b0.toNat ≠ 90) (h91 : q.b0.toNat ≠ 91) (h92 : q.b0.toNat ≠ 92) (h93 : q.b0.toNat ≠ 93) (h94 : q.b0.toNat ≠ 94) : Calls Try.prog 27 #[.pointer (some ⟨g, 0, none⟩), .agg q.arr] w (PostF g n (s.confS q) (s.confA q) w) := by
  obtain ⟨W, k, hW, hk, q0, z0, b0, hkl⟩ := Qb.fresh2 w q
  have hgk : g < k := by rw [← hk]; exact h.lt
  have T0 : Two g g w W := by rw [← hW]; exact ((Two.refl _ _ _).alloc _).alloc _
  have S0 : Sa g n p s W := h.below b0
  have hnW : n < W.heap.size := by omega
  have u0 := q0.c0
  have u1 := q0.c1
  have u2 := q0.c2
  have l0 := q.b0.toNat_lt
  have l1 := q.b1.toNat_lt
  have l2 := q.b2.toNat_lt
  have eS : s.confS q = s := by unfold Ls.confS; rw [if_neg h17, if_neg h19, if_neg h21, if_neg h23]
  have eA : s.confA q = (F8.nul, false) := by unfold Ls.confA; rw [if_neg h17, if_neg h19, if_neg h23, if_neg (by omega), if_neg h94]
  rw [eS, eA]
  have d17 : ((q.b0.toNat : Int) == 17) = false := by simp; omega
  have d19 : ((q.b0.toNat : Int) == 19) = false := by simp; omega
  have d21 : ((q.b0.toNat : Int) == 21) = false := by simp; omega
  have d23 : ((q.b0.toNat : Int) == 23) = false := by simp; omega
  have d90 : ((q.b0.toNat : Int) == 90) = false := by simp; omega
  have d91 : ((q.b0.toNat : Int) == 91) = false := by simp; omega
  have d92 : ((q.b0.toNat : Int) == 92) = false := by simp; omega
  have d93 : ((q.b0.toNat : Int) == 93) = false := by simp; omega
  have d94 : ((q.b0.toNat : Int) == 94) = false := by simp; omega
  generalize q.b0.toNat = M at *
  have HZ := hidOf2 z0
  have HT := hidOf2 T0
  have HS := hidOf2 S0
  have HK : Hid (w.heap.size = k) := hk
  clear h eS eA S0 q0 z0 b0 T0 ho hgk hkl h17 h19 h21 h23 h90 h91 h92 h93 h94
  go_enter Try.func27, Try.ntmps27
  go_upto_region 1 with fail
  change Code.wp Try.prog _ _ _ ((w.alloc (.cells q.arr 34)).alloc (.cells zA8 34))
  rw [hW]
  go_wp2_with (first | (refine sdF (g := F8.nul) HZ.out rfl _ _ rfl rfl rfl ?_))
  exact bodyPost_ret (conf_results (HZ.out.row F8.nul) _ rfl rfl) rfl (PostF.mk rfl ⟨_, HS.out⟩ HZ.out HT.out (by have := HK.out; omega))
theorem conf_any (h : Sa g n p s w) (hn : n < w.heap.size) (ho : s.Ok) (q : F8) : Calls Try.prog 27 #[.pointer (some ⟨g, 0, none⟩), .agg q.arr] w (PostF g n (s.confS q) (s.confA q) w) := by
  by_cases h17 : q.b0.toNat = 17
  · exact conf17 h hn ho q h17
  by_cases h19 : q.b0.toNat = 19
  · exact conf19 h hn ho q h19
  by_cases h21 : q.b0.toNat = 21
  · exact conf21 h hn ho q h21
  by_cases h23 : q.b0.toNat = 23
  · exact conf23 h hn ho q h23
  by_cases h90 : q.b0.toNat = 90
  · exact conf90 h hn ho q h90
  by_cases h91 : q.b0.toNat = 91
  · exact conf91 h hn ho q h91
  by_cases h92 : q.b0.toNat = 92
  · exact conf92 h hn ho q h92
  by_cases h93 : q.b0.toNat = 93
  · exact conf93 h hn ho q h93
  by_cases h94 : q.b0.toNat = 94
  · exact conf94 h hn ho q h94
  exact conf_else h hn ho q h17 h19 h21 h23 h90 h91 h92 h93 h94
end
end Go.Proofs.Ythbmbabndhpdkaa
