/- The program's slave takes a command; it begins anew; a new one. -/
import Derived.Test.YthbmbabndhpdkaaLsF
namespace Go.Proofs.Ythbmbabndhpdkaa
open Go.RowKit
open Classical
set_option linter.unusedVariables false
set_option maxRecDepth 1000000
set_option linter.unusedSimpArgs false
section
variable {g n : Nat} {p : Option Nat} {s : Ls} {w x : World}
theorem one_68 (b : Bool) : Ls.one (if b then 68 else -1) = ((Ls.one (if b then 68 else -1)).1, b) := by cases b <;> rfl
theorem one_79 (b : Bool) : Ls.one (if b then 79 else -1) = ((Ls.one (if b then 79 else -1)).1, b) := by cases b <;> rfl
theorem one_80 (b : Bool) : Ls.one (if b then 80 else -1) = ((Ls.one (if b then 80 else -1)).1, b) := by cases b <;> rfl
set_option maxHeartbeats 4000000 in
theorem wait64 (h : Sa g n p s w) (hn : n < w.heap.size) (ho : s.Ok) (q : F8) (h1 : q.b0.toNat = 64) : Calls Try.prog 28 #[.pointer (some ⟨g, 0, none⟩), .agg q.arr] w (PostF g n (s.waitS q) (Ls.one (s.waitA q)) w) := by
  obtain ⟨W, k, hW, hk, q0, z0, b0, hkl⟩ := Qb.fresh2 w q
  have hgk : g < k := by rw [← hk]; exact h.lt
  have T0 : Two g g w W := by rw [← hW]; exact ((Two.refl _ _ _).alloc _).alloc _
  have S0 : Sa g n p s W := h.below b0
  have hnW : n < W.heap.size := by omega
  have u0 := q0.c0
  have u1 := q0.c1
  have u2 := q0.c2
  have l0 := q.b0.toNat_lt
  have l1 := q.b1.toNat_lt
  have l2 := q.b2.toNat_lt
  have eS : s.waitS q = s.pickS 0 (numq q) := by unfold Ls.waitS; rw [h1]; rfl
  have eA : s.waitA q = if s.pickB 0 (numq q) then 68 else -1 := by unfold Ls.waitA; rw [h1]; rfl
  rw [eS, eA]
  have lW := q0.load
  have hN : Calls Try.prog 37 #[.agg q.arr] W fun e w' => e = .returned (.int .u32 (numq q : Nat)) ∧ Below W.heap.size W w' := lnumber_any q W
  have hP : Hid (∀ y, Below W.heap.size W y → Calls Try.prog 36 #[.pointer (some ⟨g, 0, none⟩), .int .i64 0, .int .u32 (numq q : Nat)] y fun e w' => e = .returned (.bool (s.pickB 0 (numq q))) ∧ Sa g n p (s.pickS 0 (numq q)) w' ∧ Two g g y w') := fun y hy => lpick_any (S0.below hy) 0 _ (by omega)
  have hB := one_68 (s.pickB 0 (numq q))
  have hT : Hid (∀ y, Calls Try.prog 25 #[.int .u8 68, .bool (s.pickB 0 (numq q))] y fun e w' => e = .returned (.tuple #[.agg (Ls.one (if s.pickB 0 (numq q) then 68 else -1)).1.arr, .bool (s.pickB 0 (numq q))]) ∧ Below y.heap.size y w') := fun y => ltold_any y 68 (by omega) _
  rw [h1] at u0
  generalize numq q = N0 at *
  generalize s.pickB 0 N0 = PB at *
  generalize s.pickS 0 N0 = PS at *
  obtain ⟨F, hF⟩ : ∃ f, (Ls.one (if PB then 68 else -1)).1 = f := ⟨_, rfl⟩
  rw [hF] at hT hB
  rw [hB]
  have HZ := hidOf2 z0
  have HT := hidOf2 T0
  have HS := hidOf2 S0
  have HK : Hid (g < k ∧ w.heap.size = k ∧ k + 1 < W.heap.size) := ⟨hgk, hk, hkl⟩
  clear h eS eA S0 q0 z0 b0 T0 h1 ho hgk hkl hB hF
  go_enter Try.func28, Try.ntmps28
  go_upto_region 1 with fail
  change Code.wp Try.prog _ _ _ ((w.alloc (.cells q.arr 34)).alloc (.cells zA8 34))
  rw [hW]
  go_wp2_with (refine ldG lW rfl _ rfl rfl ?_)
  refine hN.mono ?_
  rintro e w1 ⟨rfl, B1⟩
  go_wp2_with fail
  refine (hP.out w1 B1).mono ?_
  rintro e w2 ⟨rfl, S2, T2⟩
  go_wp2_with fail
  refine (hT.out w2).mono ?_
  rintro e w3 ⟨rfl, B3⟩
  have K := HK.out
  have z2 : Qb (k + 1) F8.nul w3 := ((HZ.out.below B1).two T2 (by omega) (by omega)).below B3
  go_wp2_with (first | (refine sdF (g := F) z2 rfl _ _ rfl rfl rfl ?_))
  exact bodyPost_ret (wait_results (z2.row F) _ rfl rfl) rfl (PostF.mk rfl ⟨_, S2.below B3⟩ z2 (two_below ((two_below HT.out B1).trans T2) B3) (by have := HK.out; omega))
set_option maxHeartbeats 4000000 in
theorem wait65 (h : Sa g n p s w) (hn : n < w.heap.size) (ho : s.Ok) (q : F8) (h1 : q.b0.toNat = 65) : Calls Try.prog 28 #[.pointer (some ⟨g, 0, none⟩), .agg q.arr] w (PostF g n (s.waitS q) (Ls.one (s.waitA q)) w) := by
  obtain ⟨W, k, hW, hk, q0, z0, b0, hkl⟩ := Qb.fresh2 w q
  have hgk : g < k := by rw [← hk]; exact h.lt
  have T0 : Two g g w W := by rw [← hW]; exact ((Two.refl _ _ _).alloc _).alloc _
  have S0 : Sa g n p s W := h.below b0
  have hnW : n < W.heap.size := by omega
  have u0 := q0.c0
  have u1 := q0.c1
  have u2 := q0.c2
  have l0 := q.b0.toNat_lt
  have l1 := q.b1.toNat_lt
  have l2 := q.b2.toNat_lt
  have eS : s.waitS q = s.pickS 1 (numq q) := by unfold Ls.waitS; rw [h1]; rfl
  have eA : s.waitA q = if s.pickB 1 (numq q) then 68 else -1 := by unfold Ls.waitA; rw [h1]; rfl
  rw [eS, eA]
  have lW := q0.load
  have hN : Calls Try.prog 37 #[.agg q.arr] W fun e w' => e = .returned (.int .u32 (numq q : Nat)) ∧ Below W.heap.size W w' := lnumber_any q W
  have hP : Hid (∀ y, Below W.heap.size W y → Calls Try.prog 36 #[.pointer (some ⟨g, 0, none⟩), .int .i64 1, .int .u32 (numq q : Nat)] y fun e w' => e = .returned (.bool (s.pickB 1 (numq q))) ∧ Sa g n p (s.pickS 1 (numq q)) w' ∧ Two g g y w') := fun y hy => lpick_any (S0.below hy) 1 _ (by omega)
  have hB := one_68 (s.pickB 1 (numq q))
  have hT : Hid (∀ y, Calls Try.prog 25 #[.int .u8 68, .bool (s.pickB 1 (numq q))] y fun e w' => e = .returned (.tuple #[.agg (Ls.one (if s.pickB 1 (numq q) then 68 else -1)).1.arr, .bool (s.pickB 1 (numq q))]) ∧ Below y.heap.size y w') := fun y => ltold_any y 68 (by omega) _
  rw [h1] at u0
  generalize numq q = N0 at *
  generalize s.pickB 1 N0 = PB at *
  generalize s.pickS 1 N0 = PS at *
  obtain ⟨F, hF⟩ : ∃ f, (Ls.one (if PB then 68 else -1)).1 = f := ⟨_, rfl⟩
  rw [hF] at hT hB
  rw [hB]
  have HZ := hidOf2 z0
  have HT := hidOf2 T0
  have HS := hidOf2 S0
  have HK : Hid (g < k ∧ w.heap.size = k ∧ k + 1 < W.heap.size) := ⟨hgk, hk, hkl⟩
  clear h eS eA S0 q0 z0 b0 T0 h1 ho hgk hkl hB hF
  go_enter Try.func28, Try.ntmps28
  go_upto_region 1 with fail
  change Code.wp Try.prog _ _ _ ((w.alloc (.cells q.arr 34)).alloc (.cells zA8 34))
  rw [hW]
  go_wp2_with (refine ldG lW rfl _ rfl rfl ?_)
  refine hN.mono ?_
  rintro e w1 ⟨rfl, B1⟩
  go_wp2_with fail
  refine (hP.out w1 B1).mono ?_
  rintro e w2 ⟨rfl, S2, T2⟩
  go_wp2_with fail
  refine (hT.out w2).mono ?_
  rintro e w3 ⟨rfl, B3⟩
  have K := HK.out
  have z2 : Qb (k + 1) F8.nul w3 := ((HZ.out.below B1).two T2 (by omega) (by omega)).below B3
  go_wp2_with (first | (refine sdF (g := F) z2 rfl _ _ rfl rfl rfl ?_))
  exact bodyPost_ret (wait_results (z2.row F) _ rfl rfl) rfl (PostF.mk rfl ⟨_, S2.below B3⟩ z2 (two_below ((two_below HT.out B1).trans T2) B3) (by have := HK.out; omega))
set_option maxHeartbeats 4000000 in
theorem wait66 (h : Sa g n p s w) (hn : n < w.heap.size) (ho : s.Ok) (q : F8) (h1 : q.b0.toNat = 66) : Calls Try.prog 28 #[.pointer (some ⟨g, 0, none⟩), .agg q.arr] w (PostF g n (s.waitS q) (Ls.one (s.waitA q)) w) := by
  obtain ⟨W, k, hW, hk, q0, z0, b0, hkl⟩ := Qb.fresh2 w q
  have hgk : g < k := by rw [← hk]; exact h.lt
  have T0 : Two g g w W := by rw [← hW]; exact ((Two.refl _ _ _).alloc _).alloc _
  have S0 : Sa g n p s W := h.below b0
  have hnW : n < W.heap.size := by omega
  have u0 := q0.c0
  have u1 := q0.c1
  have u2 := q0.c2
  have l0 := q.b0.toNat_lt
  have l1 := q.b1.toNat_lt
  have l2 := q.b2.toNat_lt
  have eS : s.waitS q = s.pickS 2 (numq q) := by unfold Ls.waitS; rw [h1]; rfl
  have eA : s.waitA q = if s.pickB 2 (numq q) then 68 else -1 := by unfold Ls.waitA; rw [h1]; rfl
  rw [eS, eA]
  have lW := q0.load
  have hN : Calls Try.prog 37 #[.agg q.arr] W fun e w' => e = .returned (.int .u32 (numq q : Nat)) ∧ Below W.heap.size W w' := lnumber_any q W
  have hP : Hid (∀ y, Below W.heap.size W y → Calls Try.prog 36 #[.pointer (some ⟨g, 0, none⟩), .int .i64 2, .int .u32 (numq q : Nat)] y fun e w' => e = .returned (.bool (s.pickB 2 (numq q))) ∧ Sa g n p (s.pickS 2 (numq q)) w' ∧ Two g g y w') := fun y hy => lpick_any (S0.below hy) 2 _ (by omega)
  have hB := one_68 (s.pickB 2 (numq q))
  have hT : Hid (∀ y, Calls Try.prog 25 #[.int .u8 68, .bool (s.pickB 2 (numq q))] y fun e w' => e = .returned (.tuple #[.agg (Ls.one (if s.pickB 2 (numq q) then 68 else -1)).1.arr, .bool (s.pickB 2 (numq q))]) ∧ Below y.heap.size y w') := fun y => ltold_any y 68 (by omega) _
  rw [h1] at u0
  generalize numq q = N0 at *
  generalize s.pickB 2 N0 = PB at *
  generalize s.pickS 2 N0 = PS at *
  obtain ⟨F, hF⟩ : ∃ f, (Ls.one (if PB then 68 else -1)).1 = f := ⟨_, rfl⟩
  rw [hF] at hT hB
  rw [hB]
  have HZ := hidOf2 z0
  have HT := hidOf2 T0
  have HS := hidOf2 S0
  have HK : Hid (g < k ∧ w.heap.size = k ∧ k + 1 < W.heap.size) := ⟨hgk, hk, hkl⟩
  clear h eS eA S0 q0 z0 b0 T0 h1 ho hgk hkl hB hF
  go_enter Try.func28, Try.ntmps28
  go_upto_region 1 with fail
  change Code.wp Try.prog _ _ _ ((w.alloc (.cells q.arr 34)).alloc (.cells zA8 34))
  rw [hW]
  go_wp2_with (refine ldG lW rfl _ rfl rfl ?_)
  refine hN.mono ?_
  rintro e w1 ⟨rfl, B1⟩
  go_wp2_with fail
  refine (hP.out w1 B1).mono ?_
  rintro e w2 ⟨rfl, S2, T2⟩
  go_wp2_with fail
  refine (hT.out w2).mono ?_
  rintro e w3 ⟨rfl, B3⟩
  have K := HK.out
  have z2 : Qb (k + 1) F8.nul w3 := ((HZ.out.below B1).two T2 (by omega) (by omega)).below B3
  go_wp2_with (first | (refine sdF (g := F) z2 rfl _ _ rfl rfl rfl ?_))
  exact bodyPost_ret (wait_results (z2.row F) _ rfl rfl) rfl (PostF.mk rfl ⟨_, S2.below B3⟩ z2 (two_below ((two_below HT.out B1).trans T2) B3) (by have := HK.out; omega))
set_option maxHeartbeats 4000000 in
theorem wait67 (h : Sa g n p s w) (hn : n < w.heap.size) (ho : s.Ok) (q : F8) (h1 : q.b0.toNat = 67) : Calls Try.prog 28 #[.pointer (some ⟨g, 0, none⟩), .agg q.arr] w (PostF g n (s.waitS q) (Ls.one (s.waitA q)) w) := by
  obtain ⟨W, k, hW, hk, q0, z0, b0, hkl⟩ := Qb.fresh2 w q
  have hgk : g < k := by rw [← hk]; exact h.lt
  have T0 : Two g g w W := by rw [← hW]; exact ((Two.refl _ _ _).alloc _).alloc _
  have S0 : Sa g n p s W := h.below b0
  have hnW : n < W.heap.size := by omega
  have u0 := q0.c0
  have u1 := q0.c1
  have u2 := q0.c2
  have l0 := q.b0.toNat_lt
  have l1 := q.b1.toNat_lt
  have l2 := q.b2.toNat_lt
  have eS : s.waitS q = s.pickS 3 (numq q) := by unfold Ls.waitS; rw [h1]; rfl
  have eA : s.waitA q = if s.pickB 3 (numq q) then 68 else -1 := by unfold Ls.waitA; rw [h1]; rfl
  rw [eS, eA]
  have lW := q0.load
  have hN : Calls Try.prog 37 #[.agg q.arr] W fun e w' => e = .returned (.int .u32 (numq q : Nat)) ∧ Below W.heap.size W w' := lnumber_any q W
  have hP : Hid (∀ y, Below W.heap.size W y → Calls Try.prog 36 #[.pointer (some ⟨g, 0, none⟩), .int .i64 3, .int .u32 (numq q : Nat)] y fun e w' => e = .returned (.bool (s.pickB 3 (numq q))) ∧ Sa g n p (s.pickS 3 (numq q)) w' ∧ Two g g y w') := fun y hy => lpick_any (S0.below hy) 3 _ (by omega)
  have hB := one_68 (s.pickB 3 (numq q))
  have hT : Hid (∀ y, Calls Try.prog 25 #[.int .u8 68, .bool (s.pickB 3 (numq q))] y fun e w' => e = .returned (.tuple #[.agg (Ls.one (if s.pickB 3 (numq q) then 68 else -1)).1.arr, .bool (s.pickB 3 (numq q))]) ∧ Below y.heap.size y w') := fun y => ltold_any y 68 (by omega) _
  rw [h1] at u0
  generalize numq q = N0 at *
  generalize s.pickB 3 N0 = PB at *
  generalize s.pickS 3 N0 = PS at *
  obtain ⟨F, hF⟩ : ∃ f, (Ls.one (if PB then 68 else -1)).1 = f := ⟨_, rfl⟩
  rw [hF] at hT hB
  rw [hB]
  have HZ := hidOf2 z0
  have HT := hidOf2 T0
  have HS := hidOf2 S0
  have HK : Hid (g < k ∧ w.heap.size = k ∧ k + 1 < W.heap.size) := ⟨hgk, hk, hkl⟩
  clear h eS eA S0 q0 z0 b0 T0 h1 ho hgk hkl hB hF
  go_enter Try.func28, Try.ntmps28
  go_upto_region 1 with fail
  change Code.wp Try.prog _ _ _ ((w.alloc (.cells q.arr 34)).alloc (.cells zA8 34))
  rw [hW]
  go_wp2_with (refine ldG lW rfl _ rfl rfl ?_)
  refine hN.mono ?_
  rintro e w1 ⟨rfl, B1⟩
  go_wp2_with fail
  refine (hP.out w1 B1).mono ?_
  rintro e w2 ⟨rfl, S2, T2⟩
  go_wp2_with fail
  refine (hT.out w2).mono ?_
  rintro e w3 ⟨rfl, B3⟩
  have K := HK.out
  have z2 : Qb (k + 1) F8.nul w3 := ((HZ.out.below B1).two T2 (by omega) (by omega)).below B3
  go_wp2_with (first | (refine sdF (g := F) z2 rfl _ _ rfl rfl rfl ?_))
  exact bodyPost_ret (wait_results (z2.row F) _ rfl rfl) rfl (PostF.mk rfl ⟨_, S2.below B3⟩ z2 (two_below ((two_below HT.out B1).trans T2) B3) (by have := HK.out; omega))
set_option maxHeartbeats 4000000 in
theorem wait81 (h : Sa g n p s w) (hn : n < w.heap.size) (ho : s.Ok) (q : F8) (h1 : q.b0.toNat = 81) : Calls Try.prog 28 #[.pointer (some ⟨g, 0, none⟩), .agg q.arr] w (PostF g n (s.waitS q) (Ls.one (s.waitA q)) w) := by
  obtain ⟨W, k, hW, hk, q0, z0, b0, hkl⟩ := Qb.fresh2 w q
  have hgk : g < k := by rw [← hk]; exact h.lt
  have T0 : Two g g w W := by rw [← hW]; exact ((Two.refl _ _ _).alloc _).alloc _
  have S0 : Sa g n p s W := h.below b0
  have hnW : n < W.heap.size := by omega
  have u0 := q0.c0
  have u1 := q0.c1
  have u2 := q0.c2
  have l0 := q.b0.toNat_lt
  have l1 := q.b1.toNat_lt
  have l2 := q.b2.toNat_lt
  have eS : s.waitS q = if s.bare then s.scanS q else s := by unfold Ls.waitS; rw [h1]; rfl
  have eA : s.waitA q = if s.bare && s.scanB q then 79 else -1 := by unfold Ls.waitA; rw [h1]; rfl
  rw [eS, eA]
  have lW := q0.load
  have hN := lbare_any S0
  have hP := lscan_any S0 ho q
  have hT : Hid (∀ y b, Calls Try.prog 25 #[.int .u8 79, .bool b] y fun e w' => e = .returned (.tuple #[.agg (Ls.one (if b then 79 else -1)).1.arr, .bool b]) ∧ Below y.heap.size y w') := fun y b => ltold_any y 79 (by omega) _
  rw [h1] at u0
  have HZ := hidOf2 z0
  have HT := hidOf2 T0
  have HS := hidOf2 S0
  have HK : Hid (g < k ∧ w.heap.size = k ∧ k + 1 < W.heap.size) := ⟨hgk, hk, hkl⟩
  cases hb : s.bare
  · rw [hb] at hN
    simp only [Bool.false_and, if_false, Bool.false_eq_true]
    clear h eS eA S0 q0 z0 b0 T0 h1 ho hgk hkl hP hb
    go_enter Try.func28, Try.ntmps28
    go_upto_region 1 with fail
    change Code.wp Try.prog _ _ _ ((w.alloc (.cells q.arr 34)).alloc (.cells zA8 34))
    rw [hW]
    go_wp2_with (go_at_call 26; refine hN.mono ?_; rintro e w1 ⟨rfl, hw1⟩; subst hw1)
    refine (hT.out _ false).mono ?_
    rintro e w3 ⟨rfl, B3⟩
    have z2 : Qb (k + 1) F8.nul w3 := HZ.out.below B3
    go_wp2_with (first | (refine sdF (g := F8.nul) z2 rfl _ _ rfl rfl rfl ?_))
    exact bodyPost_ret (wait_results (z2.row F8.nul) _ rfl rfl) rfl (PostF.mk rfl ⟨_, HS.out.below B3⟩ z2 (two_below HT.out B3) (by have := HK.out; omega))

  · rw [hb] at hN
    simp only [Bool.true_and, if_true]
    generalize s.scanB q = PB at *
    generalize s.scanS q = PS at *
    have hB := one_79 PB
    have hT2 : Hid (∀ y, Calls Try.prog 25 #[.int .u8 79, .bool PB] y fun e w' => e = .returned (.tuple #[.agg (Ls.one (if PB then 79 else -1)).1.arr, .bool PB]) ∧ Below y.heap.size y w') := fun y => hT.out y PB
    obtain ⟨F, hF⟩ : ∃ f, (Ls.one (if PB then 79 else -1)).1 = f := ⟨_, rfl⟩
    rw [hF] at hT2 hB
    rw [hB]
    clear h eS eA S0 q0 z0 b0 T0 h1 ho hgk hkl hb hF hT hB
    go_enter Try.func28, Try.ntmps28
    go_upto_region 1 with fail
    change Code.wp Try.prog _ _ _ ((w.alloc (.cells q.arr 34)).alloc (.cells zA8 34))
    rw [hW]
    go_wp2_with (first | (go_at_call 26; refine hN.mono ?_; rintro e w1 ⟨rfl, hw1⟩; subst hw1) | (refine ldG lW rfl _ rfl rfl ?_))
    refine hP.mono ?_
    rintro e w2 ⟨rfl, S2, T2⟩
    go_wp2_with fail
    refine (hT2.out w2).mono ?_
    rintro e w3 ⟨rfl, B3⟩
    have K := HK.out
    have z2 : Qb (k + 1) F8.nul w3 := (HZ.out.two T2 (by omega) (by omega)).below B3
    go_wp2_with (first | (refine sdF (g := F) z2 rfl _ _ rfl rfl rfl ?_))
    exact bodyPost_ret (wait_results (z2.row F) _ rfl rfl) rfl (PostF.mk rfl ⟨_, S2.below B3⟩ z2 (two_below (HT.out.trans T2) B3) (by have := HK.out; omega))

set_option maxHeartbeats 4000000 in
theorem wait_else (h : Sa g n p s w) (hn : n < w.heap.size) (ho : s.Ok) (q : F8) (h1 : ¬ (64 ≤ q.b0.toNat ∧ q.b0.toNat < 68)) (h81 : q.b0.toNat ≠ 81) : Calls Try.prog 28 #[.pointer (some ⟨g, 0, none⟩), .agg q.arr] w (PostF g n (s.waitS q) (Ls.one (s.waitA q)) w) := by
  obtain ⟨W, k, hW, hk, q0, z0, b0, hkl⟩ := Qb.fresh2 w q
  have hgk : g < k := by rw [← hk]; exact h.lt
  have T0 : Two g g w W := by rw [← hW]; exact ((Two.refl _ _ _).alloc _).alloc _
  have S0 : Sa g n p s W := h.below b0
  have hnW : n < W.heap.size := by omega
  have u0 := q0.c0
  have u1 := q0.c1
  have u2 := q0.c2
  have l0 := q.b0.toNat_lt
  have l1 := q.b1.toNat_lt
  have l2 := q.b2.toNat_lt
  have eS : s.waitS q = s := by unfold Ls.waitS; rw [if_neg h1, if_neg h81]
  have eA : s.waitA q = -1 := by unfold Ls.waitA; rw [if_neg h1, if_neg h81]
  rw [eS, eA]
  have d81 : ((q.b0.toNat : Int) == 81) = false := by simp; omega
  have d1 : decide ((64 : Int) ≤ (q.b0.toNat : Int)) = false ∨ decide ((64 : Int) ≤ (q.b0.toNat : Int)) = true ∧ decide ((q.b0.toNat : Int) < 68) = false := by simp; omega
  generalize q.b0.toNat = M at *
  have HZ := hidOf2 z0
  have HT := hidOf2 T0
  have HS := hidOf2 S0
  have HK : Hid (g < k ∧ w.heap.size = k ∧ k + 1 < W.heap.size) := ⟨hgk, hk, hkl⟩
  clear h eS eA S0 q0 b0 T0 h1 ho hgk hkl h81
  rcases d1 with d1 | ⟨d1, d2⟩
  all_goals
    go_enter Try.func28, Try.ntmps28
    go_upto_region 1 with fail
    change Code.wp Try.prog _ _ _ ((w.alloc (.cells q.arr 34)).alloc (.cells zA8 34))
    rw [hW]
    go_wp2_with (first | (refine sdF (g := F8.nul) HZ.out rfl _ _ rfl rfl rfl ?_))
    exact bodyPost_ret (wait_results (HZ.out.row F8.nul) _ rfl rfl) rfl (PostF.mk rfl ⟨_, HS.out⟩ HZ.out HT.out (by have := HK.out; omega))
theorem wait_any (h : Sa g n p s w) (hn : n < w.heap.size) (ho : s.Ok) (q : F8) : Calls Try.prog 28 #[.pointer (some ⟨g, 0, none⟩), .agg q.arr] w (PostF g n (s.waitS q) (Ls.one (s.waitA q)) w) := by
  by_cases h1 : 64 ≤ q.b0.toNat ∧ q.b0.toNat < 68
  · obtain e | e | e | e : q.b0.toNat = 64 ∨ q.b0.toNat = 65 ∨ q.b0.toNat = 66 ∨ q.b0.toNat = 67 := by omega
    · exact wait64 h hn ho q e
    · exact wait65 h hn ho q e
    · exact wait66 h hn ho q e
    · exact wait67 h hn ho q e
  · by_cases h81 : q.b0.toNat = 81
    · exact wait81 h hn ho q h81
    · exact wait_else h hn ho q h1 h81
end
end Go.Proofs.Ythbmbabndhpdkaa
