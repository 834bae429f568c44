/- The law SyncCounts returns true whatever comes in. -/
import Derived.Test.YtnmjeomhmmfgmaaYaH
import Derived.Test.YtnmjeomhmmfgmaaYaG
import Derived.Test.YtnmjeomhmmfgmaaYOp
namespace Go.Proofs.Ytnmjeomhmmfgmaa
open Go.RowKit
set_option linter.unusedVariables false
set_option maxRecDepth 1000000

theorem ovO_nat {z : Int} (h : ovO z = true) : ∃ n : Nat, z = n ∧ n ≤ 240 := by
  simp [ovO] at h
  exact ⟨z.toNat, by omega, by omega⟩
set_option maxHeartbeats 2000000 in
theorem ycnt_bad (z : Int) (win : Nat) (v : Value) (w : World) (h : ¬ (ovO z = true ∧ win ≤ 4294967296)) :
    Calls Try.prog 4 #[.int .i64 z, .int .u64 win, v] w fun e w' => e = .returned (.bool true) ∧ Below w.heap.size w w' := by
  have hP := newC_bad w z win h
  have hC := counts_any w z
  have HL := lives14_any w
  cases ho : ovO z
  · rw [ho] at hC
    clear h ho
    go_enter Try.func4, Try.ntmps4
    go_wp2_with (first | (go_at_call 17; refine hP.mono ?_; rintro e w' ⟨rfl, rfl⟩) | (go_at_call 9; refine hC.mono ?_; rintro e w' ⟨rfl, rfl⟩) | (go_at_call 10; refine HL.mono ?_; rintro e w8 ⟨rfl, B8⟩))
    go_ret
    exact ⟨rfl, B8⟩
  · have d2 : decide ((4294967296 : Int) < win) = true := by have : ¬ win ≤ 4294967296 := fun x => h ⟨ho, x⟩; simp; omega
    rw [ho] at hC
    clear h ho
    go_enter Try.func4, Try.ntmps4
    go_wp2_with (first | (go_at_call 17; refine hP.mono ?_; rintro e w' ⟨rfl, rfl⟩) | (go_at_call 9; refine hC.mono ?_; rintro e w' ⟨rfl, rfl⟩) | (go_at_call 10; refine HL.mono ?_; rintro e w8 ⟨rfl, B8⟩))
    go_ret
    exact ⟨rfl, B8⟩
set_option maxHeartbeats 4000000 in
theorem ycnt_ok (ov win : Nat) (v : Value) (l : List T14) (w : World) (ho : ovO ov = true) (hwn : win ≤ 4294967296) (hov : ov ≤ 240) (hl : l.length ≤ 140737488351232) (hB : Wide 3 T14.c w v l) :
    Calls Try.prog 4 #[.int .i64 ov, .int .u64 win, v] w fun e w' => e = .returned (.bool true) ∧ Below w.heap.size w w' := by
  obtain ⟨ao, cap, rfl, _, hc⟩ := hB
  have HC : Hid (∀ (wr : World), Below w.heap.size w wr → ∀ k (hk : k < l.length), ∃ b off, ao = some ⟨b, off, none⟩ ∧ b < w.heap.size ∧ wr.rangeAt b (off + k * 3) (T14.c l[k])) := fun wr hb k hk => Wide.at hc hb k hk
  have hP := newC_ok w ov win hwn ho
  have ok0 := Cs.ok_new ov win hov hwn
  have d2 : decide ((4294967296 : Int) < win) = false := by simp; omega
  clear hc
  go_enter Try.func4, Try.ntmps4
  go_wp2_with fail
  refine hP.mono ?_
  rintro e w1 ⟨rfl, hw1⟩
  have P1 := Ca.new w ov win
  have b1 : Below w.heap.size w w1 := by rw [hw1]; exact (Below.refl _ _).alloc (Nat.le_refl _) _
  rw [← hw1] at P1
  clear hP hw1
  generalize hg : w.heap.size = g at *
  have hC := counts_any w1 ov
  rw [ho] at hC
  have hlt := P1.lt
  have P2 := P1.alloc (.cells #[.int .i64 ov, .int .u64 win, .int .i64 0, .int .u64 0, .int .u64 0, .int .u64 0] 48)
  have D2 := Cd.new w1 ov win
  have b2 : Below g w (w1.alloc (.cells #[.int .i64 ov, .int .u64 win, .int .i64 0, .int .u64 0, .int .u64 0, .int .u64 0] 48)) := b1.alloc (by have := b1.size; omega) _
  generalize hq : w1.heap.size = q at *
  have HI : Hid (∃ s : Cs, s.ok ∧ s.cyc ≤ 0 ∧ Ca g s (w1.alloc (.cells #[.int .i64 ov, .int .u64 win, .int .i64 0, .int .u64 0, .int .u64 0, .int .u64 0] 48)) ∧ Cd q s (w1.alloc (.cells #[.int .i64 ov, .int .u64 win, .int .i64 0, .int .u64 0, .int .u64 0, .int .u64 0] 48))) := ⟨_, ok0, by simp, P2, D2⟩
  clear P1 b1 P2 D2 ok0
  go_wp2_with (go_at_call 9; refine hC.mono ?_; rintro e w' ⟨rfl, rfl⟩)
  generalize w'.alloc (.cells #[.int .i64 ov, .int .u64 win, .int .i64 0, .int .u64 0, .int .u64 0, .int .u64 0] 48) = w2 at *
  clear hC hq
  go_loopw [10] (fun i x => ∃ k : Nat, k ≤ l.length ∧ i = .int .i64 k ∧ (∃ s : Cs, s.ok ∧ s.cyc ≤ k ∧ Ca g s x ∧ Cd q s x) ∧ Below g w x) (fun i _ => l.length - (intOf i).toNat)
  case atStart => exact ⟨0, by omega, rfl, HI.out, b2⟩
  case round =>
    clear HI b2
    obtain ⟨k, hk, rfl, ⟨s, hok, hcy, C1, D1⟩, B1⟩ := hrel
    by_cases hkl : k < l.length
    · have hd : decide ((k : Int) < (l.length : Int)) = true := by simp; omega
      obtain ⟨b, off, rfl, hb, hR⟩ := HC.out wr B1 k hkl
      have HC2 : Hid (∀ (wr : World), Below g w wr → wr.rangeAt b (off + k * 3) (T14.c l[k])) := fun x hx => by
        obtain ⟨b', off', e, _, h⟩ := HC.out x hx k hkl
        injection e with e
        injection e with e1 e2
        subst e1 e2
        exact h
      obtain ⟨c0, c1, c2⟩ := T14.cells hR
      have hbn := l[k].h_n
      have hbc := l[k].h_ctr
      clear hR
      generalize l[k] = a at *
      have HE : Hid (∀ x s2, s2.ok → s2.cyc ≤ k + 1 → Ca g s2 x → Cd q s2 x → Below g w x → (∃ k' : Nat, k' ≤ l.length ∧ Value.int .i64 ((k : Int) + 1) = .int .i64 k' ∧ (∃ s : Cs, s.ok ∧ s.cyc ≤ k' ∧ Ca g s x ∧ Cd q s x) ∧ Below g w x)) := fun x s2 h1 h2 h3 h4 h5 => ⟨k + 1, by omega, rfl, ⟨s2, h1, h2, h3, h4⟩, h5⟩
      cases htk : a.ticks
      · rw [htk] at c1
        have HA : Hid (∀ w1, Two g g wr w1 → w1.cell? ⟨b, off + k * 3, none⟩ = some (.int .i64 a.ctr)) := fun w1 T2 => (T14.cells (HC2.out w1 (B1.trans (T2.below (by have := B1.size; omega) (Nat.le_refl _) (Nat.le_refl _))))).1
        have HD1 : Hid (∀ w1, Two g g wr w1 → Cd q s w1) := fun w1 T2 => D1.two T2 (by omega) (by omega)
        have okt := Cs.ok_take hok a.ctr (by omega)
        have HB1 : Hid (Below g w wr) := B1
        clear B1
        go_upto_region 13 with fail
        go_region_with (first | (go_at_call 20; refine (ctake_any hok (by exact C1) a.ctr).mono ?_; rintro e w1 ⟨rfl, U2, T2⟩; have T2' : Two g g wr w1 := ⟨T2.os, T2.tape, T2.output, T2.size, T2.block⟩; have c1 := HA.out w1 T2'; have D2 := HD1.out w1 T2'; clear T2) | (go_at_call 21; refine (dtake_any hok (by assumption) a.ctr).mono ?_; rintro e w2 ⟨rfl, D3, T4⟩))
        all_goals
          have CZ := U2.two T4 (by omega) (by omega)
          have DZ := D3
          have BZ : Below g w w2 := (HB1.out.trans (T2'.below (by have := HB1.out.size; omega) (Nat.le_refl _) (Nat.le_refl _))).trans (Two.below (⟨T4.os, T4.tape, T4.output, T4.size, T4.block⟩ : Two q q w1 w2) (by have := HB1.out.size; have := T2'.size; omega) (by omega) (by omega))
          obtain ⟨okz, cyz⟩ := okt
          have cyz : (s.take a.ctr).cyc ≤ k + 1 := by omega
          have dn : ((s.tells a.ctr) != (s.tells a.ctr)) = false := by simp
          generalize s.take a.ctr = t at *
          generalize s.tells a.ctr = tl at *
          clear U2 T2' T4 D3 D2 HA HD1 HB1 C1 D1
          generalize hwz : w2 = wz at *
          clear hwz
          obtain ⟨e0, e1, e2, e3, e4, e5, _⟩ := G6.cells DZ
          have HO : ∀ n, Calls Try.prog 22 #[.pointer (some ⟨g, 0, none⟩)] (wz.drewN n) fun e w' => e = .returned (.bool t.isOpen) ∧ ∃ m, w' = (wz.drewN n).drewN m := fun n => copen_any (CZ.drawn n)
          have HP : ∀ n, Calls Try.prog 23 #[.pointer (some ⟨q, 0, none⟩)] (wz.drewN n) fun e w' => e = .returned (.bool t.isOpen) ∧ ∃ m, w' = (wz.drewN n).drewN m := fun n => dopen_any (DZ.drawn n)
          have HY : ∀ n, Calls Try.prog 24 #[.pointer (some ⟨g, 0, none⟩)] (wz.drewN n) fun e w' => e = .returned (.int .u64 t.cyc) ∧ w' = wz.drewN n := fun n => ccycle_any (CZ.drawn n)
          have HW : ∀ n, Calls Try.prog 25 #[.pointer (some ⟨g, 0, none⟩)] (wz.drewN n) fun e w' => e = .returned (.int .u64 t.wr) ∧ w' = wz.drewN n := fun n => cwrong_any (CZ.drawn n)
          have HZ : Hid (∃ t : Cs, t.ok ∧ t.cyc ≤ k + 1 ∧ Ca g t wz ∧ Cd q t wz ∧ Below g w wz) := ⟨t, okz, cyz, CZ, DZ, BZ⟩
          have s1 : (t.isOpen != t.isOpen) = false := by simp
          have s2 : ((t.cyc : Int) != (t.cyc : Int)) = false := by simp
          have s3 : ((t.wr : Int) != (t.wr : Int)) = false := by simp
          generalize t.isOpen = io at *
          generalize t.cyc = cz at *
          generalize t.wr = wz1 at *
          clear CZ DZ BZ okz cyz
          go_upto_region 15 with fail
          go_quiet ((first | (go_at_call 22; exact Calls.quiet_of (HO _)) | (go_at_call 23; exact Calls.quiet_of (HP _)) | (go_at_call 24; exact Calls.quiet_of_same (HY _)) | (go_at_call 25; exact Calls.quiet_of_same (HW _))))
          go_wp2
          go_roundw
          case rel =>
            obtain ⟨t2, y1, y2, y3, y4, y5⟩ := HZ.out
            exact HE.out _ t2 y1 y2 (y3.drawn _) (y4.drawn _) (below_drawn y5 _)
          case measure => simp [intOf]; omega
      · rw [htk] at c1
        have hT := ctick_any hok C1 a.n hbn
        go_upto_region 11 with fail
        go_wp2_with fail
        refine hT.mono ?_
        rintro e w3 ⟨rfl, C3, T3⟩
        have D3 := D1.two T3 (by omega) (by omega)
        have B3 : Below g w w3 := B1.trans (T3.below (by have := B1.size; omega) (Nat.le_refl _) (Nat.le_refl _))
        have hR3 := HC2.out w3 B3
        obtain ⟨f0, f1, f2⟩ := T14.cells hR3
        have hT2 := dctick_any hok D3 a.n hbn
        clear C1 D1 B1 hT T3 hR3
        go_wp2_with fail
        refine hT2.mono ?_
        rintro e wz ⟨rfl, DZ, T4⟩
        have CZ := C3.two T4 (by omega) (by omega)
        have BZ : Below g w wz := B3.trans (T4.below (by have := B3.size; omega) (by omega) (by omega))
        have okz := Cs.ok_tick hok a.n
        have cyz : (s.tick a.n).cyc ≤ k + 1 := by show s.cyc ≤ _; omega
        generalize s.tick a.n = t at *
        clear C3 D3 B3 T4 hT2
        obtain ⟨e0, e1, e2, e3, e4, e5, _⟩ := G6.cells DZ
        have HO : ∀ n, Calls Try.prog 22 #[.pointer (some ⟨g, 0, none⟩)] (wz.drewN n) fun e w' => e = .returned (.bool t.isOpen) ∧ ∃ m, w' = (wz.drewN n).drewN m := fun n => copen_any (CZ.drawn n)
        have HP : ∀ n, Calls Try.prog 23 #[.pointer (some ⟨q, 0, none⟩)] (wz.drewN n) fun e w' => e = .returned (.bool t.isOpen) ∧ ∃ m, w' = (wz.drewN n).drewN m := fun n => dopen_any (DZ.drawn n)
        have HY : ∀ n, Calls Try.prog 24 #[.pointer (some ⟨g, 0, none⟩)] (wz.drewN n) fun e w' => e = .returned (.int .u64 t.cyc) ∧ w' = wz.drewN n := fun n => ccycle_any (CZ.drawn n)
        have HW : ∀ n, Calls Try.prog 25 #[.pointer (some ⟨g, 0, none⟩)] (wz.drewN n) fun e w' => e = .returned (.int .u64 t.wr) ∧ w' = wz.drewN n := fun n => cwrong_any (CZ.drawn n)
        have HZ : Hid (∃ t : Cs, t.ok ∧ t.cyc ≤ k + 1 ∧ Ca g t wz ∧ Cd q t wz ∧ Below g w wz) := ⟨t, okz, cyz, CZ, DZ, BZ⟩
        have s1 : (t.isOpen != t.isOpen) = false := by simp
        have s2 : ((t.cyc : Int) != (t.cyc : Int)) = false := by simp
        have s3 : ((t.wr : Int) != (t.wr : Int)) = false := by simp
        generalize t.isOpen = io at *
        generalize t.cyc = cz at *
        generalize t.wr = wz1 at *
        clear CZ DZ BZ okz cyz
        go_upto_region 15 with fail
        go_quiet ((first | (go_at_call 22; exact Calls.quiet_of (HO _)) | (go_at_call 23; exact Calls.quiet_of (HP _)) | (go_at_call 24; exact Calls.quiet_of_same (HY _)) | (go_at_call 25; exact Calls.quiet_of_same (HW _))))
        go_wp2
        go_roundw
        case rel =>
          obtain ⟨t2, y1, y2, y3, y4, y5⟩ := HZ.out
          exact HE.out _ t2 y1 y2 (y3.drawn _) (y4.drawn _) (below_drawn y5 _)
        case measure => simp [intOf]; omega
    · have HL := lives14_any wr
      have hd : decide ((k : Int) < (l.length : Int)) = false := by simp; omega
      go_wp2_with (go_at_call 10; refine HL.mono ?_; rintro e w8 ⟨rfl, B8⟩)
      go_ret
      exact ⟨rfl, by rw [hg]; exact B1.trans (B8.mono (by have := B1.size; omega))⟩
theorem ycnt_int (z0 z1 : Int) (v : Value) (l : List T14) (h0 : -9223372036854775808 ≤ z0 ∧ z0 < 9223372036854775808) (h1 : 0 ≤ z1 ∧ z1 < 18446744073709551616) (hl : l.length ≤ 140737488351232) (w : World) (hB : Wide 3 T14.c w v l) :
    Calls Try.prog 4 #[.int .i64 z0, .int .u64 z1, v] w fun e w' => e = .returned (.bool true) ∧ Below w.heap.size w w' := by
  obtain ⟨win, rfl⟩ : ∃ p : Nat, z1 = p := ⟨z1.toNat, by omega⟩
  by_cases h : ovO z0 = true ∧ win ≤ 4294967296
  · obtain ⟨ov, rfl, ho⟩ := ovO_nat h.1
    exact ycnt_ok ov win v l w h.1 h.2 ho hl hB
  · exact ycnt_bad z0 win v w h
end Go.Proofs.Ytnmjeomhmmfgmaa
