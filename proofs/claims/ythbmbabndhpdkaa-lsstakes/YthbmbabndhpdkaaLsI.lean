/- The document's slave in memory: a frame of a number, a part of an address, a new one, beginning anew. -/
import Derived.Test.YthbmbabndhpdkaaLsH
namespace Go.Proofs.Ythbmbabndhpdkaa
open Go.RowKit
set_option linter.unusedVariables false
set_option maxRecDepth 1000000
set_option linter.unusedSimpArgs false
def Ld.arr (s : Ld) : Array Value := #[.int .u32 (s.a.x0 : Int), .int .u32 (s.a.x1 : Int), .int .u32 (s.a.x2 : Int), .int .u32 (s.a.x3 : Int), .int .i64 s.ip, .int .i64 s.rp, .int .i64 s.iu, .int .i64 s.ru, .int .i64 s.si, .int .i64 s.sr, .bool s.has, .bool s.fails, .int .i64 s.mode, .int .i64 s.tk, .int .i64 s.lk]
def Da (g : Nat) (s : Ld) (w : World) : Prop := Bc 51 g s.arr w
def PostD (g : Nat) (s : Ld) (r : F8 × Bool) (w : World) (e : Ending) (w' : World) : Prop := e = .returned (.tuple #[.agg r.1.arr, .bool r.2]) ∧ Da g s w' ∧ Two g g w w'
section
variable {g : Nat} {s : Ld} {w x : World}
theorem Da.lt (h : Da g s w) : g < w.heap.size := Bc.lt h
theorem Da.set {s' : Ld} {i : Nat} {v : Value} (h : Da g s w) (he : s.arr.setIfInBounds i v = s'.arr) : Da g s' (w.setCell ⟨g, i, none⟩ v) := by
  have := Bc.set h i v
  rw [he] at this
  exact this
theorem Da.below (h : Da g s w) (b : Below w.heap.size w x) : Da g s x := Bc.below h b
theorem Da.drawn (h : Da g s w) (m : Nat) : Da g s (w.drewN m) := h
theorem Da.two {u v : Nat} (h : Da g s w) (t : Two u v w x) (h1 : g ≠ u) (h2 : g ≠ v) : Da g s x := Bc.two h t h1 h2
theorem Da.row {j : Nat} {f : F8} (h : Da g s w) (hq : Qb j f w) (A : Array Value) : Da g s (w.setRow j A) := (setRow_other _ _ _ _ (bc_ne h (U := 34) hq (by decide))).trans h
theorem Da.cells (h : Da g s w) : w.cell? ⟨g, 0, none⟩ = some (.int .u32 (s.a.x0 : Int)) ∧ w.cell? ⟨g, 1, none⟩ = some (.int .u32 (s.a.x1 : Int)) ∧ w.cell? ⟨g, 2, none⟩ = some (.int .u32 (s.a.x2 : Int)) ∧ w.cell? ⟨g, 3, none⟩ = some (.int .u32 (s.a.x3 : Int)) ∧ w.cell? ⟨g, 4, none⟩ = some (.int .i64 s.ip) ∧ w.cell? ⟨g, 5, none⟩ = some (.int .i64 s.rp) ∧ w.cell? ⟨g, 6, none⟩ = some (.int .i64 s.iu) ∧ w.cell? ⟨g, 7, none⟩ = some (.int .i64 s.ru) ∧ w.cell? ⟨g, 8, none⟩ = some (.int .i64 s.si) ∧ w.cell? ⟨g, 9, none⟩ = some (.int .i64 s.sr) ∧ w.cell? ⟨g, 10, none⟩ = some (.bool s.has) ∧ w.cell? ⟨g, 11, none⟩ = some (.bool s.fails) ∧ w.cell? ⟨g, 12, none⟩ = some (.int .i64 s.mode) ∧ w.cell? ⟨g, 13, none⟩ = some (.int .i64 s.tk) ∧ w.cell? ⟨g, 14, none⟩ = some (.int .i64 s.lk) ∧ ∀ k, w.frozen? ⟨g, k, none⟩ = false :=
  ⟨Bc.cell h 0, Bc.cell h 1, Bc.cell h 2, Bc.cell h 3, Bc.cell h 4, Bc.cell h 5, Bc.cell h 6, Bc.cell h 7, Bc.cell h 8, Bc.cell h 9, Bc.cell h 10, Bc.cell h 11, Bc.cell h 12, Bc.cell h 13, Bc.cell h 14, fun k => Bc.frozen h k⟩
theorem PostD.mk {s : Ld} {f : F8} {b : Bool} {r : F8 × Bool} {w y : World} {j : Nat} {h : F8} (hr : r = (f, b)) (hS : Da g s y) (hq : Qb j h y) (t : Two g g w y) (hj : w.heap.size ≤ j) : PostD g s r w (.returned (.tuple #[.agg f.arr, .bool b])) (y.setRow j f.arr) := by
  subst hr
  exact ⟨rfl, hS.row hq _, two_row t j hj _⟩
theorem dord_results {Q : Nat} {f : F8} {w : World} (h : Qb Q f w) (tmps : Array Value) (h2 : tmps[4]?.getD undef = .pointer (some ⟨Q, 0, none⟩)) :
    (results Try.f14 tmps).run Try.prog w = .ok (.agg f.arr) w := by
  have l0 := h.load
  simp [Go.results, Try.results14, h2, asAddr, l0]
set_option maxHeartbeats 2000000 in
theorem dorder_any (c m : Nat) (w : World) (hc : c < 256) (hn : m < 4294967296) : Calls Try.prog 14 #[.int .u8 (c : Int), .int .u32 (m : Int)] w fun e w' => e = .returned (.agg (ordF c m).arr) ∧ Below w.heap.size w w' := by
  obtain ⟨W, k, hW, hk, q0, b0, hkl⟩ := Qb.fresh0 w
  have ha := ordF_c c m hc hn
  generalize ordF c m = F at *
  have HA := hidOf2 ha
  have HQ := hidOf2 q0
  have HB := hidOf2 b0
  have HK := hidOf2 hk
  have e0 : IntKind.u8.wrap ((m : Int) % 256) = (m : Int) % 256 := by have := wrapU8 (m % 256) (by omega); simpa using this
  have e1 : IntKind.u8.wrap ((m : Int) / 256 % 256) = (m : Int) / 256 % 256 := by have := wrapU8 (m / 256 % 256) (by omega); simpa using this
  have e2 : IntKind.u8.wrap ((m : Int) / 65536 % 256) = (m : Int) / 65536 % 256 := by have := wrapU8 (m / 65536 % 256) (by omega); simpa using this
  have e3 : IntKind.u8.wrap ((m : Int) / 16777216) = (m : Int) / 16777216 := by have := wrapU8 (m / 16777216) (by omega); simpa using this
  clear ha q0 b0
  go_enter Try.func14, Try.ntmps14
  go_upto_region 1 with fail
  change Code.wp Try.prog _ _ _ (w.alloc (.cells zA8 34))
  rw [hW]
  go_wp2_with (first | (refine sdF (g := F) HQ.out rfl _ _ rfl rfl (by rw [HA.out]; rfl) ?_))
  exact bodyPost_ret (dord_results (HQ.out.row F) _ rfl) rfl ⟨rfl, below_row8 HB.out (by have := HK.out; omega) _⟩
theorem dpick_results {Q : Nat} {f : F8} {b : Bool} {w : World} (h : Qb Q f w) (tmps : Array Value) (h2 : tmps[6]?.getD undef = .pointer (some ⟨Q, 0, none⟩)) (h3 : tmps[7]?.getD undef = .bool b) :
    (results Try.f30 tmps).run Try.prog w = .ok (.tuple #[.agg f.arr, .bool b]) w := by
  have l0 := h.load
  simp [Go.results, Try.results30, h2, h3, asAddr, l0]
/-- What pick answers. -/
def Ld.pickA (s : Ld) (i : Int) (v : Nat) : F8 × Bool := if s.pickB i v then (ordF 68 0, true) else (F8.nul, false)
set_option maxHeartbeats 4000000 in
theorem dpick0_no (h : Da g s w) (v : Nat) (hx : s.a.x0 ≠ v) : Calls Try.prog 30 #[.pointer (some ⟨g, 0, none⟩), .int .i64 0, .int .u32 (v : Int)] w (PostD g (s.pickS 0 v) (s.pickA 0 v) w) := by
  obtain ⟨W, k, hW, hk, z0, b0, hkl⟩ := Qb.fresh0 w
  have hgk : g < k := by rw [← hk]; exact h.lt
  have T0 : Two g g w W := by rw [← hW]; exact (Two.refl _ _ _).alloc _
  have S0 : Da g s W := h.below b0
  obtain ⟨c0, c1, c2, c3, _, _, _, _, _, _, _, _, c12, c13, _, hf⟩ := S0.cells
  have f12 := hf 12
  have f13 := hf 13
  have eK : s.pickK 0 v = 0 := by unfold Ld.pickK; simp [A4.nth, hx]
  have eS : s.pickS 0 v = { s with tk := 0 } := by unfold Ld.pickS; rw [eK]; rfl
  have eA : s.pickA 0 v = (F8.nul, false) := by unfold Ld.pickA Ld.pickB; rw [eK]; rfl
  rw [eS, eA]
  have HS : Hid (Da g { s with tk := 0 } ((W.setCell ⟨g, 13, none⟩ (.int .i64 0)).setCell ⟨g, 13, none⟩ (.int .i64 0))) := Da.set (s := { s with tk := 0 }) (s' := { s with tk := 0 }) (Da.set S0 rfl) rfl
  have HT : Hid (Two g g w ((W.setCell ⟨g, 13, none⟩ (.int .i64 0)).setCell ⟨g, 13, none⟩ (.int .i64 0))) := (T0.at0 13 _).at0 13 _
  have HZ : Hid (Qb k F8.nul ((W.setCell ⟨g, 13, none⟩ (.int .i64 0)).setCell ⟨g, 13, none⟩ (.int .i64 0))) := z0.two (w := W) (x := (W.setCell ⟨g, 13, none⟩ (.int .i64 0)).setCell ⟨g, 13, none⟩ (.int .i64 0)) (g := g) (g' := g) (((Two.refl g g W).at0 13 _).at0 13 _) (by omega) (by omega)
  have HK := hidOf2 hk
  have dx : ((s.a.x0 : Int) == (v : Int)) = false := by simp; omega
  clear h S0 T0 z0 b0 hf hgk hkl eK eS eA hx
  go_enter Try.func30, Try.ntmps30
  go_upto_region 1 with fail
  change Code.wp Try.prog _ _ _ (w.alloc (.cells zA8 34))
  rw [hW]
  go_wp2_with (first | (refine sdF (g := F8.nul) HZ.out rfl _ _ rfl rfl rfl ?_))
  exact bodyPost_ret (dpick_results (HZ.out.row F8.nul) _ rfl rfl) rfl (PostD.mk rfl HS.out HZ.out HT.out (by have := HK.out; omega))
set_option maxHeartbeats 4000000 in
theorem dpick0_yes (h : Da g s w) (v : Nat) (hx : s.a.x0 = v) : Calls Try.prog 30 #[.pointer (some ⟨g, 0, none⟩), .int .i64 0, .int .u32 (v : Int)] w (PostD g (s.pickS 0 v) (s.pickA 0 v) w) := by
  obtain ⟨W, k, hW, hk, z0, b0, hkl⟩ := Qb.fresh0 w
  have hgk : g < k := by rw [← hk]; exact h.lt
  have T0 : Two g g w W := by rw [← hW]; exact (Two.refl _ _ _).alloc _
  have S0 : Da g s W := h.below b0
  obtain ⟨c0, c1, c2, c3, _, _, _, _, _, _, _, _, c12, c13, _, hf⟩ := S0.cells
  have f12 := hf 12
  have f13 := hf 13
  have eK : s.pickK 0 v = 1 := by unfold Ld.pickK; simp [A4.nth, hx]
  have eS : s.pickS 0 v = { s with tk := 1 } := by unfold Ld.pickS; rw [eK]; rfl
  have eA : s.pickA 0 v = (F8.nul, false) := by unfold Ld.pickA Ld.pickB; rw [eK]; rfl
  rw [eS, eA]
  have HS : Hid (Da g { s with tk := 1 } ((W.setCell ⟨g, 13, none⟩ (.int .i64 0)).setCell ⟨g, 13, none⟩ (.int .i64 1))) := Da.set (s := { s with tk := 0 }) (s' := { s with tk := 1 }) (Da.set S0 rfl) rfl
  have HT : Hid (Two g g w ((W.setCell ⟨g, 13, none⟩ (.int .i64 0)).setCell ⟨g, 13, none⟩ (.int .i64 1))) := (T0.at0 13 _).at0 13 _
  have HZ : Hid (Qb k F8.nul ((W.setCell ⟨g, 13, none⟩ (.int .i64 0)).setCell ⟨g, 13, none⟩ (.int .i64 1))) := z0.two (w := W) (x := (W.setCell ⟨g, 13, none⟩ (.int .i64 0)).setCell ⟨g, 13, none⟩ (.int .i64 1)) (g := g) (g' := g) (((Two.refl g g W).at0 13 _).at0 13 _) (by omega) (by omega)
  have HK := hidOf2 hk
  rw [hx] at c0
  clear h S0 T0 z0 b0 hf hgk hkl eK eS eA hx
  go_enter Try.func30, Try.ntmps30
  go_upto_region 1 with fail
  change Code.wp Try.prog _ _ _ (w.alloc (.cells zA8 34))
  rw [hW]
  go_wp2_with (first | (refine sdF (g := F8.nul) HZ.out rfl _ _ rfl rfl rfl ?_))
  exact bodyPost_ret (dpick_results (HZ.out.row F8.nul) _ rfl rfl) rfl (PostD.mk rfl HS.out HZ.out HT.out (by have := HK.out; omega))
set_option maxHeartbeats 4000000 in
theorem dpick1_out (h : Da g s w) (v : Nat) (hx : s.tk ≠ 1) : Calls Try.prog 30 #[.pointer (some ⟨g, 0, none⟩), .int .i64 1, .int .u32 (v : Int)] w (PostD g (s.pickS 1 v) (s.pickA 1 v) w) := by
  obtain ⟨W, k, hW, hk, z0, b0, hkl⟩ := Qb.fresh0 w
  have hgk : g < k := by rw [← hk]; exact h.lt
  have T0 : Two g g w W := by rw [← hW]; exact (Two.refl _ _ _).alloc _
  have S0 : Da g s W := h.below b0
  obtain ⟨c0, c1, c2, c3, _, _, _, _, _, _, _, _, c12, c13, _, hf⟩ := S0.cells
  have f12 := hf 12
  have f13 := hf 13
  have eK : s.pickK 1 v = 0 := by unfold Ld.pickK; rw [if_neg (show ¬ ((1 : Int) = (if (1 : Int) = 0 then 0 else s.tk) ∧ s.a.nth 1 = v) from fun h => hx (by have := h.1; simp at this; omega))]
  have eS : s.pickS 1 v = { s with tk := 0 } := by unfold Ld.pickS; rw [eK]; rfl
  have eA : s.pickA 1 v = (F8.nul, false) := by unfold Ld.pickA Ld.pickB; rw [eK]; rfl
  rw [eS, eA]
  have HS : Hid (Da g { s with tk := 0 } (W.setCell ⟨g, 13, none⟩ (.int .i64 0))) := Da.set S0 rfl
  have HT : Hid (Two g g w (W.setCell ⟨g, 13, none⟩ (.int .i64 0))) := T0.at0 13 _
  have HZ : Hid (Qb k F8.nul (W.setCell ⟨g, 13, none⟩ (.int .i64 0))) := z0.two (w := W) (x := W.setCell ⟨g, 13, none⟩ (.int .i64 0)) (g := g) (g' := g) ((Two.refl g g W).at0 13 _) (by omega) (by omega)
  have HK := hidOf2 hk
  have dx : ((1 : Int) == s.tk) = false := by simp; omega
  clear h S0 T0 z0 b0 hf hgk hkl eK eS eA hx
  go_enter Try.func30, Try.ntmps30
  go_upto_region 1 with fail
  change Code.wp Try.prog _ _ _ (w.alloc (.cells zA8 34))
  rw [hW]
  go_wp2_with (first | (refine sdF (g := F8.nul) HZ.out rfl _ _ rfl rfl rfl ?_))
  exact bodyPost_ret (dpick_results (HZ.out.row F8.nul) _ rfl rfl) rfl (PostD.mk rfl HS.out HZ.out HT.out (by have := HK.out; omega))
set_option maxHeartbeats 4000000 in
theorem dpick1_no (h : Da g s w) (v : Nat) (ht : s.tk = 1) (hx : s.a.x1 ≠ v) : Calls Try.prog 30 #[.pointer (some ⟨g, 0, none⟩), .int .i64 1, .int .u32 (v : Int)] w (PostD g (s.pickS 1 v) (s.pickA 1 v) w) := by
  obtain ⟨W, k, hW, hk, z0, b0, hkl⟩ := Qb.fresh0 w
  have hgk : g < k := by rw [← hk]; exact h.lt
  have T0 : Two g g w W := by rw [← hW]; exact (Two.refl _ _ _).alloc _
  have S0 : Da g s W := h.below b0
  obtain ⟨c0, c1, c2, c3, _, _, _, _, _, _, _, _, c12, c13, _, hf⟩ := S0.cells
  have f12 := hf 12
  have f13 := hf 13
  have eK : s.pickK 1 v = 0 := by unfold Ld.pickK; rw [if_neg (show ¬ ((1 : Int) = (if (1 : Int) = 0 then 0 else s.tk) ∧ s.a.nth 1 = v) from fun h => hx h.2)]
  have eS : s.pickS 1 v = { s with tk := 0 } := by unfold Ld.pickS; rw [eK]; rfl
  have eA : s.pickA 1 v = (F8.nul, false) := by unfold Ld.pickA Ld.pickB; rw [eK]; rfl
  rw [eS, eA]
  have HS : Hid (Da g { s with tk := 0 } (W.setCell ⟨g, 13, none⟩ (.int .i64 0))) := Da.set S0 rfl
  have HT : Hid (Two g g w (W.setCell ⟨g, 13, none⟩ (.int .i64 0))) := T0.at0 13 _
  have HZ : Hid (Qb k F8.nul (W.setCell ⟨g, 13, none⟩ (.int .i64 0))) := z0.two (w := W) (x := W.setCell ⟨g, 13, none⟩ (.int .i64 0)) (g := g) (g' := g) ((Two.refl g g W).at0 13 _) (by omega) (by omega)
  have HK := hidOf2 hk
  have dx : ((s.a.x1 : Int) == (v : Int)) = false := by simp; omega
  rw [ht] at c13
  clear h S0 T0 z0 b0 hf hgk hkl eK eS eA hx ht
  go_enter Try.func30, Try.ntmps30
  go_upto_region 1 with fail
  change Code.wp Try.prog _ _ _ (w.alloc (.cells zA8 34))
  rw [hW]
  go_wp2_with (first | (refine sdF (g := F8.nul) HZ.out rfl _ _ rfl rfl rfl ?_))
  exact bodyPost_ret (dpick_results (HZ.out.row F8.nul) _ rfl rfl) rfl (PostD.mk rfl HS.out HZ.out HT.out (by have := HK.out; omega))
set_option maxHeartbeats 4000000 in
theorem dpick1_yes (h : Da g s w) (v : Nat) (ht : s.tk = 1) (hx : s.a.x1 = v) : Calls Try.prog 30 #[.pointer (some ⟨g, 0, none⟩), .int .i64 1, .int .u32 (v : Int)] w (PostD g (s.pickS 1 v) (s.pickA 1 v) w) := by
  obtain ⟨W, k, hW, hk, z0, b0, hkl⟩ := Qb.fresh0 w
  have hgk : g < k := by rw [← hk]; exact h.lt
  have T0 : Two g g w W := by rw [← hW]; exact (Two.refl _ _ _).alloc _
  have S0 : Da g s W := h.below b0
  obtain ⟨c0, c1, c2, c3, _, _, _, _, _, _, _, _, c12, c13, _, hf⟩ := S0.cells
  have f12 := hf 12
  have f13 := hf 13
  have eK : s.pickK 1 v = 2 := by unfold Ld.pickK; rw [if_pos (show (1 : Int) = (if (1 : Int) = 0 then 0 else s.tk) ∧ s.a.nth 1 = v from ⟨by rw [ht]; rfl, hx⟩), ht]; rfl
  have eS : s.pickS 1 v = { s with tk := 2 } := by unfold Ld.pickS; rw [eK]; rfl
  have eA : s.pickA 1 v = (F8.nul, false) := by unfold Ld.pickA Ld.pickB; rw [eK]; rfl
  rw [eS, eA]
  have HS : Hid (Da g { s with tk := 2 } (W.setCell ⟨g, 13, none⟩ (.int .i64 2))) := Da.set S0 rfl
  have HT : Hid (Two g g w (W.setCell ⟨g, 13, none⟩ (.int .i64 2))) := T0.at0 13 _
  have HZ : Hid (Qb k F8.nul (W.setCell ⟨g, 13, none⟩ (.int .i64 2))) := z0.two (w := W) (x := W.setCell ⟨g, 13, none⟩ (.int .i64 2)) (g := g) (g' := g) ((Two.refl g g W).at0 13 _) (by omega) (by omega)
  have HK := hidOf2 hk
  rw [hx] at c1
  rw [ht] at c13
  clear h S0 T0 z0 b0 hf hgk hkl eK eS eA hx ht
  go_enter Try.func30, Try.ntmps30
  go_upto_region 1 with fail
  change Code.wp Try.prog _ _ _ (w.alloc (.cells zA8 34))
  rw [hW]
  go_wp2_with (first | (refine sdF (g := F8.nul) HZ.out rfl _ _ rfl rfl rfl ?_))
  exact bodyPost_ret (dpick_results (HZ.out.row F8.nul) _ rfl rfl) rfl (PostD.mk rfl HS.out HZ.out HT.out (by have := HK.out; omega))
set_option maxHeartbeats 4000000 in
theorem dpick2_out (h : Da g s w) (v : Nat) (hx : s.tk ≠ 2) : Calls Try.prog 30 #[.pointer (some ⟨g, 0, none⟩), .int .i64 2, .int .u32 (v : Int)] w (PostD g (s.pickS 2 v) (s.pickA 2 v) w) := by
  obtain ⟨W, k, hW, hk, z0, b0, hkl⟩ := Qb.fresh0 w
  have hgk : g < k := by rw [← hk]; exact h.lt
  have T0 : Two g g w W := by rw [← hW]; exact (Two.refl _ _ _).alloc _
  have S0 : Da g s W := h.below b0
  obtain ⟨c0, c1, c2, c3, _, _, _, _, _, _, _, _, c12, c13, _, hf⟩ := S0.cells
  have f12 := hf 12
  have f13 := hf 13
  have eK : s.pickK 2 v = 0 := by unfold Ld.pickK; rw [if_neg (show ¬ ((2 : Int) = (if (2 : Int) = 0 then 0 else s.tk) ∧ s.a.nth 2 = v) from fun h => hx (by have := h.1; simp at this; omega))]
  have eS : s.pickS 2 v = { s with tk := 0 } := by unfold Ld.pickS; rw [eK]; rfl
  have eA : s.pickA 2 v = (F8.nul, false) := by unfold Ld.pickA Ld.pickB; rw [eK]; rfl
  rw [eS, eA]
  have HS : Hid (Da g { s with tk := 0 } (W.setCell ⟨g, 13, none⟩ (.int .i64 0))) := Da.set S0 rfl
  have HT : Hid (Two g g w (W.setCell ⟨g, 13, none⟩ (.int .i64 0))) := T0.at0 13 _
  have HZ : Hid (Qb k F8.nul (W.setCell ⟨g, 13, none⟩ (.int .i64 0))) := z0.two (w := W) (x := W.setCell ⟨g, 13, none⟩ (.int .i64 0)) (g := g) (g' := g) ((Two.refl g g W).at0 13 _) (by omega) (by omega)
  have HK := hidOf2 hk
  have dx : ((2 : Int) == s.tk) = false := by simp; omega
  clear h S0 T0 z0 b0 hf hgk hkl eK eS eA hx
  go_enter Try.func30, Try.ntmps30
  go_upto_region 1 with fail
  change Code.wp Try.prog _ _ _ (w.alloc (.cells zA8 34))
  rw [hW]
  go_wp2_with (first | (refine sdF (g := F8.nul) HZ.out rfl _ _ rfl rfl rfl ?_))
  exact bodyPost_ret (dpick_results (HZ.out.row F8.nul) _ rfl rfl) rfl (PostD.mk rfl HS.out HZ.out HT.out (by have := HK.out; omega))
set_option maxHeartbeats 4000000 in
theorem dpick2_no (h : Da g s w) (v : Nat) (ht : s.tk = 2) (hx : s.a.x2 ≠ v) : Calls Try.prog 30 #[.pointer (some ⟨g, 0, none⟩), .int .i64 2, .int .u32 (v : Int)] w (PostD g (s.pickS 2 v) (s.pickA 2 v) w) := by
  obtain ⟨W, k, hW, hk, z0, b0, hkl⟩ := Qb.fresh0 w
  have hgk : g < k := by rw [← hk]; exact h.lt
  have T0 : Two g g w W := by rw [← hW]; exact (Two.refl _ _ _).alloc _
  have S0 : Da g s W := h.below b0
  obtain ⟨c0, c1, c2, c3, _, _, _, _, _, _, _, _, c12, c13, _, hf⟩ := S0.cells
  have f12 := hf 12
  have f13 := hf 13
  have eK : s.pickK 2 v = 0 := by unfold Ld.pickK; rw [if_neg (show ¬ ((2 : Int) = (if (2 : Int) = 0 then 0 else s.tk) ∧ s.a.nth 2 = v) from fun h => hx h.2)]
  have eS : s.pickS 2 v = { s with tk := 0 } := by unfold Ld.pickS; rw [eK]; rfl
  have eA : s.pickA 2 v = (F8.nul, false) := by unfold Ld.pickA Ld.pickB; rw [eK]; rfl
  rw [eS, eA]
  have HS : Hid (Da g { s with tk := 0 } (W.setCell ⟨g, 13, none⟩ (.int .i64 0))) := Da.set S0 rfl
  have HT : Hid (Two g g w (W.setCell ⟨g, 13, none⟩ (.int .i64 0))) := T0.at0 13 _
  have HZ : Hid (Qb k F8.nul (W.setCell ⟨g, 13, none⟩ (.int .i64 0))) := z0.two (w := W) (x := W.setCell ⟨g, 13, none⟩ (.int .i64 0)) (g := g) (g' := g) ((Two.refl g g W).at0 13 _) (by omega) (by omega)
  have HK := hidOf2 hk
  have dx : ((s.a.x2 : Int) == (v : Int)) = false := by simp; omega
  rw [ht] at c13
  clear h S0 T0 z0 b0 hf hgk hkl eK eS eA hx ht
  go_enter Try.func30, Try.ntmps30
  go_upto_region 1 with fail
  change Code.wp Try.prog _ _ _ (w.alloc (.cells zA8 34))
  rw [hW]
  go_wp2_with (first | (refine sdF (g := F8.nul) HZ.out rfl _ _ rfl rfl rfl ?_))
  exact bodyPost_ret (dpick_results (HZ.out.row F8.nul) _ rfl rfl) rfl (PostD.mk rfl HS.out HZ.out HT.out (by have := HK.out; omega))
set_option maxHeartbeats 4000000 in
theorem dpick2_yes (h : Da g s w) (v : Nat) (ht : s.tk = 2) (hx : s.a.x2 = v) : Calls Try.prog 30 #[.pointer (some ⟨g, 0, none⟩), .int .i64 2, .int .u32 (v : Int)] w (PostD g (s.pickS 2 v) (s.pickA 2 v) w) := by
  obtain ⟨W, k, hW, hk, z0, b0, hkl⟩ := Qb.fresh0 w
  have hgk : g < k := by rw [← hk]; exact h.lt
  have T0 : Two g g w W := by rw [← hW]; exact (Two.refl _ _ _).alloc _
  have S0 : Da g s W := h.below b0
  obtain ⟨c0, c1, c2, c3, _, _, _, _, _, _, _, _, c12, c13, _, hf⟩ := S0.cells
  have f12 := hf 12
  have f13 := hf 13
  have eK : s.pickK 2 v = 3 := by unfold Ld.pickK; rw [if_pos (show (2 : Int) = (if (2 : Int) = 0 then 0 else s.tk) ∧ s.a.nth 2 = v from ⟨by rw [ht]; rfl, hx⟩), ht]; rfl
  have eS : s.pickS 2 v = { s with tk := 3 } := by unfold Ld.pickS; rw [eK]; rfl
  have eA : s.pickA 2 v = (F8.nul, false) := by unfold Ld.pickA Ld.pickB; rw [eK]; rfl
  rw [eS, eA]
  have HS : Hid (Da g { s with tk := 3 } (W.setCell ⟨g, 13, none⟩ (.int .i64 3))) := Da.set S0 rfl
  have HT : Hid (Two g g w (W.setCell ⟨g, 13, none⟩ (.int .i64 3))) := T0.at0 13 _
  have HZ : Hid (Qb k F8.nul (W.setCell ⟨g, 13, none⟩ (.int .i64 3))) := z0.two (w := W) (x := W.setCell ⟨g, 13, none⟩ (.int .i64 3)) (g := g) (g' := g) ((Two.refl g g W).at0 13 _) (by omega) (by omega)
  have HK := hidOf2 hk
  rw [hx] at c2
  rw [ht] at c13
  clear h S0 T0 z0 b0 hf hgk hkl eK eS eA hx ht
  go_enter Try.func30, Try.ntmps30
  go_upto_region 1 with fail
  change Code.wp Try.prog _ _ _ (w.alloc (.cells zA8 34))
  rw [hW]
  go_wp2_with (first | (refine sdF (g := F8.nul) HZ.out rfl _ _ rfl rfl rfl ?_))
  exact bodyPost_ret (dpick_results (HZ.out.row F8.nul) _ rfl rfl) rfl (PostD.mk rfl HS.out HZ.out HT.out (by have := HK.out; omega))
set_option maxHeartbeats 4000000 in
theorem dpick3_out (h : Da g s w) (v : Nat) (hx : s.tk ≠ 3) : Calls Try.prog 30 #[.pointer (some ⟨g, 0, none⟩), .int .i64 3, .int .u32 (v : Int)] w (PostD g (s.pickS 3 v) (s.pickA 3 v) w) := by
  obtain ⟨W, k, hW, hk, z0, b0, hkl⟩ := Qb.fresh0 w
  have hgk : g < k := by rw [← hk]; exact h.lt
  have T0 : Two g g w W := by rw [← hW]; exact (Two.refl _ _ _).alloc _
  have S0 : Da g s W := h.below b0
  obtain ⟨c0, c1, c2, c3, _, _, _, _, _, _, _, _, c12, c13, _, hf⟩ := S0.cells
  have f12 := hf 12
  have f13 := hf 13
  have eK : s.pickK 3 v = 0 := by unfold Ld.pickK; rw [if_neg (show ¬ ((3 : Int) = (if (3 : Int) = 0 then 0 else s.tk) ∧ s.a.nth 3 = v) from fun h => hx (by have := h.1; simp at this; omega))]
  have eS : s.pickS 3 v = { s with tk := 0 } := by unfold Ld.pickS; rw [eK]; rfl
  have eA : s.pickA 3 v = (F8.nul, false) := by unfold Ld.pickA Ld.pickB; rw [eK]; rfl
  rw [eS, eA]
  have HS : Hid (Da g { s with tk := 0 } (W.setCell ⟨g, 13, none⟩ (.int .i64 0))) := Da.set S0 rfl
  have HT : Hid (Two g g w (W.setCell ⟨g, 13, none⟩ (.int .i64 0))) := T0.at0 13 _
  have HZ : Hid (Qb k F8.nul (W.setCell ⟨g, 13, none⟩ (.int .i64 0))) := z0.two (w := W) (x := W.setCell ⟨g, 13, none⟩ (.int .i64 0)) (g := g) (g' := g) ((Two.refl g g W).at0 13 _) (by omega) (by omega)
  have HK := hidOf2 hk
  have dx : ((3 : Int) == s.tk) = false := by simp; omega
  clear h S0 T0 z0 b0 hf hgk hkl eK eS eA hx
  go_enter Try.func30, Try.ntmps30
  go_upto_region 1 with fail
  change Code.wp Try.prog _ _ _ (w.alloc (.cells zA8 34))
  rw [hW]
  go_wp2_with (first | (refine sdF (g := F8.nul) HZ.out rfl _ _ rfl rfl rfl ?_))
  exact bodyPost_ret (dpick_results (HZ.out.row F8.nul) _ rfl rfl) rfl (PostD.mk rfl HS.out HZ.out HT.out (by have := HK.out; omega))
set_option maxHeartbeats 4000000 in
theorem dpick3_no (h : Da g s w) (v : Nat) (ht : s.tk = 3) (hx : s.a.x3 ≠ v) : Calls Try.prog 30 #[.pointer (some ⟨g, 0, none⟩), .int .i64 3, .int .u32 (v : Int)] w (PostD g (s.pickS 3 v) (s.pickA 3 v) w) := by
  obtain ⟨W, k, hW, hk, z0, b0, hkl⟩ := Qb.fresh0 w
  have hgk : g < k := by rw [← hk]; exact h.lt
  have T0 : Two g g w W := by rw [← hW]; exact (Two.refl _ _ _).alloc _
  have S0 : Da g s W := h.below b0
  obtain ⟨c0, c1, c2, c3, _, _, _, _, _, _, _, _, c12, c13, _, hf⟩ := S0.cells
  have f12 := hf 12
  have f13 := hf 13
  have eK : s.pickK 3 v = 0 := by unfold Ld.pickK; rw [if_neg (show ¬ ((3 : Int) = (if (3 : Int) = 0 then 0 else s.tk) ∧ s.a.nth 3 = v) from fun h => hx h.2)]
  have eS : s.pickS 3 v = { s with tk := 0 } := by unfold Ld.pickS; rw [eK]; rfl
  have eA : s.pickA 3 v = (F8.nul, false) := by unfold Ld.pickA Ld.pickB; rw [eK]; rfl
  rw [eS, eA]
  have HS : Hid (Da g { s with tk := 0 } (W.setCell ⟨g, 13, none⟩ (.int .i64 0))) := Da.set S0 rfl
  have HT : Hid (Two g g w (W.setCell ⟨g, 13, none⟩ (.int .i64 0))) := T0.at0 13 _
  have HZ : Hid (Qb k F8.nul (W.setCell ⟨g, 13, none⟩ (.int .i64 0))) := z0.two (w := W) (x := W.setCell ⟨g, 13, none⟩ (.int .i64 0)) (g := g) (g' := g) ((Two.refl g g W).at0 13 _) (by omega) (by omega)
  have HK := hidOf2 hk
  have dx : ((s.a.x3 : Int) == (v : Int)) = false := by simp; omega
  rw [ht] at c13
  clear h S0 T0 z0 b0 hf hgk hkl eK eS eA hx ht
  go_enter Try.func30, Try.ntmps30
  go_upto_region 1 with fail
  change Code.wp Try.prog _ _ _ (w.alloc (.cells zA8 34))
  rw [hW]
  go_wp2_with (first | (refine sdF (g := F8.nul) HZ.out rfl _ _ rfl rfl rfl ?_))
  exact bodyPost_ret (dpick_results (HZ.out.row F8.nul) _ rfl rfl) rfl (PostD.mk rfl HS.out HZ.out HT.out (by have := HK.out; omega))
set_option maxHeartbeats 4000000 in
theorem dpick3_yes (h : Da g s w) (v : Nat) (ht : s.tk = 3) (hx : s.a.x3 = v) : Calls Try.prog 30 #[.pointer (some ⟨g, 0, none⟩), .int .i64 3, .int .u32 (v : Int)] w (PostD g (s.pickS 3 v) (s.pickA 3 v) w) := by
  obtain ⟨W, k, hW, hk, z0, b0, hkl⟩ := Qb.fresh0 w
  have hgk : g < k := by rw [← hk]; exact h.lt
  have T0 : Two g g w W := by rw [← hW]; exact (Two.refl _ _ _).alloc _
  have S0 : Da g s W := h.below b0
  obtain ⟨c0, c1, c2, c3, _, _, _, _, _, _, _, _, c12, c13, _, hf⟩ := S0.cells
  have f12 := hf 12
  have f13 := hf 13
  have eK : s.pickK 3 v = 4 := by unfold Ld.pickK; rw [if_pos (show (3 : Int) = (if (3 : Int) = 0 then 0 else s.tk) ∧ s.a.nth 3 = v from ⟨by rw [ht]; rfl, hx⟩), ht]; rfl
  have eS : s.pickS 3 v = { s with tk := 0, mode := 1 } := by unfold Ld.pickS; rw [if_pos eK]
  have eA : s.pickA 3 v = (ordF 68 0, true) := by unfold Ld.pickA Ld.pickB; rw [eK]; rfl
  rw [eS, eA]
  have HS : Hid (Da g { s with tk := 0, mode := 1 } (((W.setCell ⟨g, 13, none⟩ (.int .i64 4)).setCell ⟨g, 13, none⟩ (.int .i64 0)).setCell ⟨g, 12, none⟩ (.int .i64 1))) := Da.set (s := { s with tk := 0 }) (s' := { s with tk := 0, mode := 1 }) (Da.set (s := { s with tk := 4 }) (s' := { s with tk := 0 }) (Da.set S0 rfl) rfl) rfl
  have HT : Hid (Two g g w (((W.setCell ⟨g, 13, none⟩ (.int .i64 4)).setCell ⟨g, 13, none⟩ (.int .i64 0)).setCell ⟨g, 12, none⟩ (.int .i64 1))) := ((T0.at0 _ _).at0 _ _).at0 _ _
  have HZ : Hid (Qb k F8.nul (((W.setCell ⟨g, 13, none⟩ (.int .i64 4)).setCell ⟨g, 13, none⟩ (.int .i64 0)).setCell ⟨g, 12, none⟩ (.int .i64 1))) := z0.two (((((Two.refl g g W)).at0 13 _).at0 13 _).at0 12 _) (by omega) (by omega)
  have HK := hidOf2 hk
  have hO : Hid (∀ x, Calls Try.prog 14 #[.int .u8 68, .int .u32 0] x fun e w' => e = .returned (.agg (ordF 68 0).arr) ∧ Below x.heap.size x w') := fun x => dorder_any 68 0 x (by omega) (by omega)
  generalize ordF 68 0 = F at *
  rw [hx] at c3
  rw [ht] at c13
  clear h S0 T0 z0 b0 hf hgk hkl eK eS eA hx ht
  go_enter Try.func30, Try.ntmps30
  go_upto_region 1 with fail
  change Code.wp Try.prog _ _ _ (w.alloc (.cells zA8 34))
  rw [hW]
  go_wp2_with fail
  refine (hO.out _).mono ?_
  rintro e w2 ⟨rfl, B2⟩
  have z2 := HZ.out.below B2
  go_wp2_with (first | (refine sdF (g := F) z2 rfl _ _ rfl rfl rfl ?_))
  exact bodyPost_ret (dpick_results (z2.row F) _ rfl rfl) rfl (PostD.mk rfl (HS.out.below B2) z2 (two_below HT.out B2) (by have := HK.out; omega))
theorem dpick_any (h : Da g s w) (i : Int) (hi : 0 ≤ i ∧ i ≤ 3) (v : Nat) : Calls Try.prog 30 #[.pointer (some ⟨g, 0, none⟩), .int .i64 i, .int .u32 (v : Int)] w (PostD g (s.pickS i v) (s.pickA i v) w) := by
  obtain rfl | rfl | rfl | rfl : i = 0 ∨ i = 1 ∨ i = 2 ∨ i = 3 := by omega
  · by_cases hx : s.a.x0 = v
    · exact dpick0_yes h v hx
    · exact dpick0_no h v hx
  · by_cases ht : s.tk = 1
    · by_cases hx : s.a.x1 = v
      · exact dpick1_yes h v ht hx
      · exact dpick1_no h v ht hx
    · exact dpick1_out h v ht
  · by_cases ht : s.tk = 2
    · by_cases hx : s.a.x2 = v
      · exact dpick2_yes h v ht hx
      · exact dpick2_no h v ht hx
    · exact dpick2_out h v ht
  · by_cases ht : s.tk = 3
    · by_cases hx : s.a.x3 = v
      · exact dpick3_yes h v ht hx
      · exact dpick3_no h v ht hx
    · exact dpick3_out h v ht
end
end Go.Proofs.Ythbmbabndhpdkaa
