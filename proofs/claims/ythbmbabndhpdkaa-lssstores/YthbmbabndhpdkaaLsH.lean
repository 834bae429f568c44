/- The program's slave takes a command; it begins anew; a new one. -/
import Derived.Test.YthbmbabndhpdkaaLsG
namespace Go.Proofs.Ythbmbabndhpdkaa
open Go.RowKit
open Classical
set_option linter.unusedVariables false
set_option maxRecDepth 1000000
set_option linter.unusedSimpArgs false
section
variable {g n : Nat} {p : Option Nat} {s : Ls} {w x : World}
set_option maxHeartbeats 4000000 in
theorem take4 (h : Sa g n p s w) (hn : n < w.heap.size) (ho : s.Ok) (q : F8) (h1 : q.b0.toNat = 4) : Calls Try.prog 15 #[.pointer (some ⟨g, 0, none⟩), .agg q.arr] w (PostF g n (s.takeS q) (s.takeA q) w) := by
  obtain ⟨W, k, hW, hk, q0, z0, b0, hkl⟩ := Qb.fresh2 w q
  have hgk : g < k := by rw [← hk]; exact h.lt
  have T0 : Two g g w W := by rw [← hW]; exact ((Two.refl _ _ _).alloc _).alloc _
  have S0 : Sa g n p s W := h.below b0
  have hnW : n < W.heap.size := by omega
  have u0 := q0.c0
  have u1 := q0.c1
  have u2 := q0.c2
  have l0 := q.b0.toNat_lt
  have l1 := q.b1.toNat_lt
  have l2 := q.b2.toNat_lt
  have eS : s.takeS q = s.set q.b1.toNat := by unfold Ls.takeS; rw [if_pos h1]
  have eA : s.takeA q = (F8.nul, false) := by unfold Ls.takeA; rw [if_pos h1]
  rw [eS, eA]
  have hP := lset_any S0 q.b1.toNat
  rw [h1] at u0
  generalize q.b1.toNat = B1 at *
  have HZ := hidOf2 z0
  have HT := hidOf2 T0
  have HS := hidOf2 S0
  have HK : Hid (g < k ∧ w.heap.size = k ∧ k + 1 < W.heap.size) := ⟨hgk, hk, hkl⟩
  clear h eS eA S0 q0 z0 b0 T0 h1 ho hgk hkl
  go_enter Try.func15, Try.ntmps15
  go_upto_region 1 with fail
  change Code.wp Try.prog _ _ _ ((w.alloc (.cells q.arr 34)).alloc (.cells zA8 34))
  rw [hW]
  go_wp2_with fail
  refine hP.mono ?_
  rintro e w2 ⟨rfl, S2, T2⟩
  have K := HK.out
  have z2 : Qb (k + 1) F8.nul w2 := HZ.out.two T2 (by omega) (by omega)
  go_wp2_with (first | (refine sdF (g := F8.nul) z2 rfl _ _ rfl rfl rfl ?_))
  exact bodyPost_ret (take_results (z2.row F8.nul) _ rfl rfl) rfl (PostF.mk rfl ⟨_, S2⟩ z2 (HT.out.trans T2) (by have := HK.out; omega))
set_option maxHeartbeats 4000000 in
theorem take76 (h : Sa g n p s w) (hn : n < w.heap.size) (ho : s.Ok) (q : F8) (h1 : q.b0.toNat = 76) : Calls Try.prog 15 #[.pointer (some ⟨g, 0, none⟩), .agg q.arr] w (PostF g n (s.takeS q) (s.takeA q) w) := by
  obtain ⟨W, k, hW, hk, q0, z0, b0, hkl⟩ := Qb.fresh2 w q
  have hgk : g < k := by rw [← hk]; exact h.lt
  have T0 : Two g g w W := by rw [← hW]; exact ((Two.refl _ _ _).alloc _).alloc _
  have S0 : Sa g n p s W := h.below b0
  have hnW : n < W.heap.size := by omega
  have u0 := q0.c0
  have u1 := q0.c1
  have u2 := q0.c2
  have l0 := q.b0.toNat_lt
  have l1 := q.b1.toNat_lt
  have l2 := q.b2.toNat_lt
  have eS : s.takeS q = s := by unfold Ls.takeS; rw [if_neg (by omega), if_pos h1]
  have eA : s.takeA q = Ls.one (if s.bare then 80 else -1) := by unfold Ls.takeA; rw [if_neg (by omega), if_pos h1]
  rw [eS, eA]
  have hN := lbare_any S0
  have hB := one_80 s.bare
  have hT : Hid (∀ y, Calls Try.prog 25 #[.int .u8 80, .bool s.bare] y fun e w' => e = .returned (.tuple #[.agg (Ls.one (if s.bare then 80 else -1)).1.arr, .bool s.bare]) ∧ Below y.heap.size y w') := fun y => ltold_any y 80 (by omega) _
  rw [h1] at u0
  generalize s.bare = PB at *
  obtain ⟨F, hF⟩ : ∃ f, (Ls.one (if PB then 80 else -1)).1 = f := ⟨_, rfl⟩
  rw [hF] at hT hB
  rw [hB]
  have HZ := hidOf2 z0
  have HT := hidOf2 T0
  have HS := hidOf2 S0
  have HK : Hid (g < k ∧ w.heap.size = k ∧ k + 1 < W.heap.size) := ⟨hgk, hk, hkl⟩
  clear h eS eA S0 q0 z0 b0 T0 h1 ho hgk hkl hB hF
  go_enter Try.func15, Try.ntmps15
  go_upto_region 1 with fail
  change Code.wp Try.prog _ _ _ ((w.alloc (.cells q.arr 34)).alloc (.cells zA8 34))
  rw [hW]
  go_wp2_with fail
  refine hN.mono ?_
  rintro e w1 ⟨rfl, hw1⟩
  subst hw1
  go_wp2_with fail
  refine (hT.out _).mono ?_
  rintro e w3 ⟨rfl, B3⟩
  have z2 : Qb (k + 1) F8.nul w3 := HZ.out.below B3
  go_wp2_with (first | (refine sdF (g := F) z2 rfl _ _ rfl rfl rfl ?_))
  exact bodyPost_ret (take_results (z2.row F) _ rfl rfl) rfl (PostF.mk rfl ⟨_, HS.out.below B3⟩ z2 (two_below HT.out B3) (by have := HK.out; omega))
set_option maxHeartbeats 4000000 in
theorem take_conf (h : Sa g n p s w) (hn : n < w.heap.size) (ho : s.Ok) (q : F8) (h4 : q.b0.toNat ≠ 4) (h76 : q.b0.toNat ≠ 76) (hm : s.mode = 1) : Calls Try.prog 15 #[.pointer (some ⟨g, 0, none⟩), .agg q.arr] w (PostF g n (s.takeS q) (s.takeA q) w) := by
  obtain ⟨W, k, hW, hk, q0, z0, b0, hkl⟩ := Qb.fresh2 w q
  have hgk : g < k := by rw [← hk]; exact h.lt
  have T0 : Two g g w W := by rw [← hW]; exact ((Two.refl _ _ _).alloc _).alloc _
  have S0 : Sa g n p s W := h.below b0
  have hnW : n < W.heap.size := by omega
  have u0 := q0.c0
  have u1 := q0.c1
  have u2 := q0.c2
  have l0 := q.b0.toNat_lt
  have l1 := q.b1.toNat_lt
  have l2 := q.b2.toNat_lt
  have eS : s.takeS q = s.confS q := by unfold Ls.takeS; rw [if_neg h4, if_neg h76, if_pos hm]
  have eA : s.takeA q = s.confA q := by unfold Ls.takeA; rw [if_neg h4, if_neg h76, if_pos hm]
  rw [eS, eA]
  have lW := q0.load
  obtain ⟨_, _, _, _, c4, _⟩ := S0.cells
  rw [hm] at c4
  have hP := conf_any S0 hnW ho q
  obtain ⟨⟨F, b⟩, hF⟩ : ∃ f, s.confA q = f := ⟨_, rfl⟩
  rw [hF] at hP ⊢
  have d4 : ((q.b0.toNat : Int) == 4) = false := by simp; omega
  have d76 : ((q.b0.toNat : Int) == 76) = false := by simp; omega
  generalize s.confS q = PS at *
  generalize q.b0.toNat = M at *
  have HZ := hidOf2 z0
  have HT := hidOf2 T0
  have HS := hidOf2 S0
  have HK : Hid (g < k ∧ w.heap.size = k ∧ k + 1 < W.heap.size) := ⟨hgk, hk, hkl⟩
  clear h eS eA S0 q0 z0 b0 T0 h4 h76 ho hgk hkl hF hm
  go_enter Try.func15, Try.ntmps15
  go_upto_region 1 with fail
  change Code.wp Try.prog _ _ _ ((w.alloc (.cells q.arr 34)).alloc (.cells zA8 34))
  rw [hW]
  go_wp2_with (refine ldG lW rfl _ rfl rfl ?_)
  refine hP.mono ?_
  rintro e w2 ⟨rfl, S2, T2⟩
  have HS2 := hidOf2 S2
  clear S2
  have K := HK.out
  have z2 : Qb (k + 1) F8.nul w2 := HZ.out.two T2 (by omega) (by omega)
  go_wp2_with (first | (refine sdF (g := F) z2 rfl _ _ rfl rfl rfl ?_))
  exact bodyPost_ret (take_results (z2.row F) _ rfl rfl) rfl (PostF.mk rfl HS2.out z2 (HT.out.trans T2) (by have := HK.out; omega))
set_option maxHeartbeats 4000000 in
theorem take_wait (h : Sa g n p s w) (hn : n < w.heap.size) (ho : s.Ok) (q : F8) (h4 : q.b0.toNat ≠ 4) (h76 : q.b0.toNat ≠ 76) (hm : s.mode ≠ 1) : Calls Try.prog 15 #[.pointer (some ⟨g, 0, none⟩), .agg q.arr] w (PostF g n (s.takeS q) (s.takeA q) w) := by
  obtain ⟨W, k, hW, hk, q0, z0, b0, hkl⟩ := Qb.fresh2 w q
  have hgk : g < k := by rw [← hk]; exact h.lt
  have T0 : Two g g w W := by rw [← hW]; exact ((Two.refl _ _ _).alloc _).alloc _
  have S0 : Sa g n p s W := h.below b0
  have hnW : n < W.heap.size := by omega
  have u0 := q0.c0
  have u1 := q0.c1
  have u2 := q0.c2
  have l0 := q.b0.toNat_lt
  have l1 := q.b1.toNat_lt
  have l2 := q.b2.toNat_lt
  have eS : s.takeS q = s.waitS q := by unfold Ls.takeS; rw [if_neg h4, if_neg h76, if_neg hm]
  have eA : s.takeA q = Ls.one (s.waitA q) := by unfold Ls.takeA; rw [if_neg h4, if_neg h76, if_neg hm]
  rw [eS, eA]
  have lW := q0.load
  obtain ⟨_, _, _, _, c4, _⟩ := S0.cells
  have dm : (s.mode == 1) = false := by simp [hm]
  have hP := wait_any S0 hnW ho q
  obtain ⟨⟨F, b⟩, hF⟩ : ∃ f, Ls.one (s.waitA q) = f := ⟨_, rfl⟩
  rw [hF] at hP ⊢
  have d4 : ((q.b0.toNat : Int) == 4) = false := by simp; omega
  have d76 : ((q.b0.toNat : Int) == 76) = false := by simp; omega
  generalize s.waitS q = PS at *
  generalize q.b0.toNat = M at *
  have HZ := hidOf2 z0
  have HT := hidOf2 T0
  have HS := hidOf2 S0
  have HK : Hid (g < k ∧ w.heap.size = k ∧ k + 1 < W.heap.size) := ⟨hgk, hk, hkl⟩
  clear h eS eA S0 q0 z0 b0 T0 h4 h76 ho hgk hkl hF hm
  go_enter Try.func15, Try.ntmps15
  go_upto_region 1 with fail
  change Code.wp Try.prog _ _ _ ((w.alloc (.cells q.arr 34)).alloc (.cells zA8 34))
  rw [hW]
  go_wp2_with (refine ldG lW rfl _ rfl rfl ?_)
  refine hP.mono ?_
  rintro e w2 ⟨rfl, S2, T2⟩
  have HS2 := hidOf2 S2
  clear S2
  have K := HK.out
  have z2 : Qb (k + 1) F8.nul w2 := HZ.out.two T2 (by omega) (by omega)
  go_wp2_with (first | (refine sdF (g := F) z2 rfl _ _ rfl rfl rfl ?_))
  exact bodyPost_ret (take_results (z2.row F) _ rfl rfl) rfl (PostF.mk rfl HS2.out z2 (HT.out.trans T2) (by have := HK.out; omega))
theorem take_any (h : Sa g n p s w) (hn : n < w.heap.size) (ho : s.Ok) (q : F8) : Calls Try.prog 15 #[.pointer (some ⟨g, 0, none⟩), .agg q.arr] w (PostF g n (s.takeS q) (s.takeA q) w) := by
  by_cases h4 : q.b0.toNat = 4
  · exact take4 h hn ho q h4
  by_cases h76 : q.b0.toNat = 76
  · exact take76 h hn ho q h76
  by_cases hm : s.mode = 1
  · exact take_conf h hn ho q h4 h76 hm
  · exact take_wait h hn ho q h4 h76 hm
set_option maxHeartbeats 4000000 in
theorem lre_any (h : Sa g n p s w) : Calls Try.prog 20 #[.pointer (some ⟨g, 0, none⟩)] w fun e w' => e = .returned (.tuple #[]) ∧ Sa g n p s.re w' ∧ Two g g w w' := by
  obtain ⟨_, _, _, _, c4, c5, c6, c7, c8, c9, c10, c11, c12, c13, c14, c15, c16, hf⟩ := h.cells
  have f4 := hf 4
  have f5 := hf 5
  have f6 := hf 6
  have f7 := hf 7
  have f8 := hf 8
  have f15 := hf 15
  have f16 := hf 16
  have S3 : Sa g n p { s with mode := 0, pk := 0, lk := 0 } (((w.setCell ⟨g, 4, none⟩ (.int .i64 0)).setCell ⟨g, 15, none⟩ (.int .i64 0)).setCell ⟨g, 16, none⟩ (.int .u8 0)) :=
    Sa.set (s := { s with mode := 0, pk := 0 }) (s' := { s with mode := 0, pk := 0, lk := 0 }) (Sa.set (s := { s with mode := 0 }) (s' := { s with mode := 0, pk := 0 }) (Sa.set h rfl rfl) rfl rfl) rfl rfl
  have T3 : Two g g w (((w.setCell ⟨g, 4, none⟩ (.int .i64 0)).setCell ⟨g, 15, none⟩ (.int .i64 0)).setCell ⟨g, 16, none⟩ (.int .u8 0)) := (((Two.refl _ _ _).at0 _ _).at0 _ _).at0 _ _
  rcases h.kt with ⟨rfl, e⟩ | ⟨k, a, b, rfl, e2, e3, e4, e5⟩
  · have E : s.re = { s with mode := 0, pk := 0, lk := 0, iu := s.ip } := by
      unfold Ls.re
      split
      · rfl
      · rename_i h; rw [e] at h; cases h
    have c9' : w.cell? ⟨g, 9, none⟩ = some (.pointer none) := c9
    have H : Hid (Sa g n none { s with mode := 0, pk := 0, lk := 0, iu := s.ip } ((((w.setCell ⟨g, 4, none⟩ (.int .i64 0)).setCell ⟨g, 15, none⟩ (.int .i64 0)).setCell ⟨g, 16, none⟩ (.int .u8 0)).setCell ⟨g, 6, none⟩ (.int .i64 s.ip))) :=
      Sa.set (s := { s with mode := 0, pk := 0, lk := 0 }) (s' := { s with mode := 0, pk := 0, lk := 0, iu := s.ip }) S3 rfl rfl
    have HT := hidOf2 (T3.at0 6 (.int .i64 s.ip))
    rw [E]
    clear h hf c9 e E S3 T3
    go_enter Try.func20, Try.ntmps20
    go_wp2
    refine bodyPost_ret (results_none rfl _ _ _) rfl ?_
    exact ⟨rfl, H.out, HT.out⟩
  · have E : s.re = { s with mode := 0, pk := 0, lk := 0, ip := a, iu := a, rp := b, ru := b } := by
      unfold Ls.re
      split
      · rename_i h; rw [e2] at h; cases h
      · rename_i h; rw [e2] at h; cases h; rfl
    have c9' : w.cell? ⟨g, 9, none⟩ = some (.pointer (some ⟨k, 0, none⟩)) := c9
    have k0 := Bc.cell e5 0
    have k1 := Bc.cell e5 1
    simp at k0 k1
    have hkg : k ≠ g := e3
    rw [E]
    have HS3 := hidOf2 S3
    have HT3 := hidOf2 T3
    clear h hf c9 e2 E S3 T3 e5 e4 e3
    go_enter Try.func20, Try.ntmps20
    go_wp2_with fail
    go_region
    all_goals
      go_wp2_with fail
      go_region
      all_goals
        go_wp2_with fail
        go_end0
        refine ⟨rfl, Sa.drawn (Sa.drawn ?_ 1) 1, Two.drawn (Two.drawn ?_ 1) 1⟩
        · exact Sa.set (s := { s with mode := 0, pk := 0, lk := 0, ip := a, iu := a, rp := b }) (s' := { s with mode := 0, pk := 0, lk := 0, ip := a, iu := a, rp := b, ru := b }) (Sa.set (s := { s with mode := 0, pk := 0, lk := 0, ip := a, iu := a }) (s' := { s with mode := 0, pk := 0, lk := 0, ip := a, iu := a, rp := b }) (Sa.set (s := { s with mode := 0, pk := 0, lk := 0, ip := a }) (s' := { s with mode := 0, pk := 0, lk := 0, ip := a, iu := a }) (Sa.set (s := { s with mode := 0, pk := 0, lk := 0 }) (s' := { s with mode := 0, pk := 0, lk := 0, ip := a }) HS3.out rfl rfl) rfl rfl) rfl rfl) rfl rfl
        · exact (((HT3.out.at0 _ _).at0 _ _).at0 _ _).at0 _ _
theorem lnew_ok (a : A4) (id : Int) (h : 0 ≤ id ∧ id ≤ 127) (w : World) : Calls Try.prog 8 #[.agg a.arr, .int .i64 id] w fun e w' => e = .returned (.tuple #[.pointer (some ⟨w.heap.size + 1, 0, none⟩), .int .i64 0]) ∧ (∀ n, w.heap.size + 1 ≠ n → Sa (w.heap.size + 1) n none (Ls.new a id) w') ∧ Below w.heap.size w w' := by
  have b0 : Below w.heap.size w (w.alloc (.cells a.arr 23)) := (Below.refl _ _).alloc (Nat.le_refl _) _
  have hb : Bc 23 w.heap.size a.arr (w.alloc (.cells a.arr 23)) := heap_alloc_new w _
  have hz : (w.alloc (.cells a.arr 23)).heap.size = w.heap.size + 1 := by simp
  obtain ⟨W, hW⟩ : ∃ W, w.alloc (.cells a.arr 23) = W := ⟨_, rfl⟩
  rw [hW] at b0 hb hz
  have v0 : W.cell? ⟨w.heap.size, 0, none⟩ = some (.int .u32 (a.x0 : Int)) := Bc.cell hb 0
  have v1 : W.cell? ⟨w.heap.size, 1, none⟩ = some (.int .u32 (a.x1 : Int)) := Bc.cell hb 1
  have v2 : W.cell? ⟨w.heap.size, 2, none⟩ = some (.int .u32 (a.x2 : Int)) := Bc.cell hb 2
  have v3 : W.cell? ⟨w.heap.size, 3, none⟩ = some (.int .u32 (a.x3 : Int)) := Bc.cell hb 3
  have hN : Hid (Sa (w.heap.size + 1) (w.heap.size + 1) none (Ls.new a id) (W.alloc (.cells ((Ls.new a id).arr none) 58)) ∧ Below w.heap.size w (W.alloc (.cells ((Ls.new a id).arr none) 58))) := by
    refine ⟨⟨?_, .inl ⟨rfl, rfl⟩⟩, b0.alloc b0.size _⟩
    have := heap_alloc_new W (.cells ((Ls.new a id).arr none) 58)
    rw [hz] at this
    exact this
  have d1 : decide (id < 0) = false := by simp; omega
  have d2 : decide (127 < id) = false := by simp; omega
  clear b0 hb h
  go_enter Try.func8, Try.ntmps8
  go_wp2
  go_ret2
  exact ⟨rfl, fun n hn => ⟨hN.out.1.hd, .inl ⟨rfl, rfl⟩⟩, hN.out.2⟩
theorem lnew_bad (a : A4) (id : Int) (h : ¬ (0 ≤ id ∧ id ≤ 127)) (w : World) : Calls Try.prog 8 #[.agg a.arr, .int .i64 id] w fun e w' => e = .returned (.tuple #[.pointer none, .int .i64 1]) ∧ Below w.heap.size w w' := by
  have b0 : Below w.heap.size w (w.alloc (.cells a.arr 23)) := (Below.refl _ _).alloc (Nat.le_refl _) _
  have d1 : decide (id < 0) = true ∨ decide (id < 0) = false ∧ decide (127 < id) = true := by simp; omega
  clear h
  rcases d1 with d1 | ⟨d1, d2⟩
  all_goals
    go_enter Try.func8, Try.ntmps8
    go_wp2
    go_ret2
    exact ⟨rfl, b0⟩
end
end Go.Proofs.Ythbmbabndhpdkaa
