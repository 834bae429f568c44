/- The program's sender: Start, send, isDue, Event, Sync, Tick. -/
import Derived.Test.YtkflffdoipeocaaOaA
import Derived.Deep.Cut
namespace Go.Proofs.Ytkflffdoipeocaa
open Go.RowKit
set_option linter.unusedVariables false
set_option maxRecDepth 1000000
section
variable {g : Nat} {s : Os} {w : World}
theorem start_any (h : Oa g s w) (b : Bool) : Calls Try.prog 13 #[.pointer (some ⟨g, 0, none⟩), .bool b] w fun e w' => e = .returned (.tuple #[]) ∧ Oa g (s.st b) w' ∧ Two g g w w' := by
  obtain ⟨c0, c1, c2, c3, c4, c5, c6, hf⟩ := h.cells
  have f3 := hf 3
  have f4 := hf 4
  have f5 := hf 5
  have f6 := hf 6
  cases b <;> cases hon : s.on
  · have H : Hid (Oa g (s.st false) w) := h.same rfl rfl rfl (by simp [Os.st, Os.setOn, hon]) (by simp [Os.st, Os.setOn, Os.pw, hon]) (by simp [Os.st, Os.setOn, Os.pq, hon]) (by simp [Os.st, Os.setOn, Os.ps, hon])
    generalize s.st false = S at *
    rw [hon] at c3
    clear h hon
    go_enter Try.func13, Try.ntmps13
    go_wp2
    go_end0
    exact ⟨rfl, H.out, Two.refl _ _ _⟩
  · have H : Hid (Oa g (s.st false) ((((w.setCell ⟨g, 3, none⟩ (.bool false)).setCell ⟨g, 4, none⟩ (.bool false)).setCell ⟨g, 5, none⟩ (.int .u64 0)).setCell ⟨g, 6, none⟩ (.int .u64 0))) :=
      Oa.mk (s := s) ((((Bc.set h 3 (.bool false)).set 4 (.bool false)).set 5 (.int .u64 0)).set 6 (.int .u64 0)) rfl rfl rfl (by simp [Os.st, Os.setOn]) (by simp [Os.st, Os.setOn, Os.pw]) (by simp [Os.st, Os.setOn, Os.pq]) (by simp [Os.st, Os.setOn, Os.ps])
    generalize s.st false = S at *
    rw [hon] at c3
    clear h hon
    go_enter Try.func13, Try.ntmps13
    go_wp2
    go_end0
    exact ⟨rfl, H.out, ((((Two.refl _ _ _).at0 _ _).at0 _ _).at0 _ _).at0 _ _⟩
  · have H : Hid (Oa g (s.st true) ((((w.setCell ⟨g, 3, none⟩ (.bool true)).setCell ⟨g, 4, none⟩ (.bool false)).setCell ⟨g, 5, none⟩ (.int .u64 0)).setCell ⟨g, 6, none⟩ (.int .u64 0))) :=
      Oa.mk (s := s) ((((Bc.set h 3 (.bool true)).set 4 (.bool false)).set 5 (.int .u64 0)).set 6 (.int .u64 0)) (by simp [Os.st, Os.fresh, hon]) (by simp [Os.st, Os.fresh, hon]) (by simp [Os.st, Os.fresh, hon]) (by simp [Os.st, Os.fresh, hon]) (by simp [Os.st, Os.fresh, Os.pw, hon]) (by simp [Os.st, Os.fresh, Os.pq, hon]) (by simp [Os.st, Os.fresh, Os.ps, hon])
    generalize s.st true = S at *
    rw [hon] at c3
    clear h hon
    go_enter Try.func13, Try.ntmps13
    go_wp2
    go_end0
    exact ⟨rfl, H.out, ((((Two.refl _ _ _).at0 _ _).at0 _ _).at0 _ _).at0 _ _⟩
  · have e0 : s.st true = s := by cases s; simp_all [Os.st, Os.setOn]
    rw [e0]
    have H : Hid (Oa g s w) := h
    rw [hon] at c3
    clear h hon e0
    go_enter Try.func13, Try.ntmps13
    go_wp2
    go_end0
    exact ⟨rfl, H.out, Two.refl _ _ _⟩
theorem Os.view_snd (h1 : s.on = true) (h2 : s.free = true) : s.snd.pw = false ∧ s.snd.pq = s.inh ∧ s.snd.ps = 0 := by
  have : s.snd.free = true := h2
  simp [Os.pw, Os.pq, Os.ps, this]
  simp [Os.snd, h1]
theorem send_any (h : Oa g s w) (h1 : s.on = true) (h2 : s.free = true) : Calls Try.prog 29 #[.pointer (some ⟨g, 0, none⟩)] w fun e w' => e = .returned (.bool true) ∧ Oa g s.snd w' ∧ Two g g w w' := by
  obtain ⟨c0, c1, c2, c3, c4, c5, c6, hf⟩ := h.cells
  have f3 := hf 3
  have f4 := hf 4
  have f5 := hf 5
  have f6 := hf 6
  obtain ⟨v1, v2, v3⟩ := Os.view_snd h1 h2
  have H : Hid (Oa g s.snd ((((w.setCell ⟨g, 3, none⟩ (.bool true)).setCell ⟨g, 4, none⟩ (.bool false)).setCell ⟨g, 5, none⟩ (.int .u64 s.inh)).setCell ⟨g, 6, none⟩ (.int .u64 0))) :=
    Oa.mk (s := s) ((((Bc.set h 3 (.bool true)).set 4 (.bool false)).set 5 (.int .u64 s.inh)).set 6 (.int .u64 0)) rfl rfl rfl h1 v1 (by rw [v2]) (by rw [v3]; rfl)
  generalize s.snd = S at *
  clear h v1 v2 v3
  go_enter Try.func29, Try.ntmps29
  go_wp2
  go_ret
  exact ⟨rfl, H.out, ((((Two.refl _ _ _).at0 _ _).at0 _ _).at0 _ _).at0 _ _⟩
theorem due_any (h : Oa g s w) (h1 : s.on = true) (h2 : s.free = true) : Calls Try.prog 30 #[.pointer (some ⟨g, 0, none⟩)] w fun e w' => e = .returned (.bool s.due) ∧ ∃ n, w' = w.drewN n := by
  obtain ⟨c0, c1, c2, c3, c4, c5, c6, hf⟩ := h.cells
  have e6 : s.ps = s.since := by simp [Os.ps, h1, h2]
  rw [e6] at c6
  have HO : Hid (s.due = (decide (0 < s.each) && decide (s.each ≤ s.since))) := rfl
  generalize s.due = o at *
  clear h h1 h2 e6
  generalize s.each = E at *
  generalize s.since = P at *
  by_cases hE : 0 < E
  · have d1 : decide ((0 : Int) < (E : Int)) = true := by simp; omega
    have d1' : decide (0 < E) = true := by simp; omega
    rw [d1'] at HO
    clear hE
    go_enter Try.func30, Try.ntmps30
    go_wp2_with fail
    go_quiet (fail)
    go_wp2
    go_ret
    refine ⟨ret_bool ?_, _, rfl⟩
    rw [HO.out]
    simp
  · have d1 : decide ((0 : Int) < (E : Int)) = false := by simp; omega
    have d1' : decide (0 < E) = false := by simp; omega
    rw [d1'] at HO
    clear hE
    go_enter Try.func30, Try.ntmps30
    go_wp2_with fail
    go_quiet (fail)
    go_wp2
    go_ret
    refine ⟨ret_bool ?_, _, rfl⟩
    rw [HO.out]
    simp
theorem Os.quiet_pq (h1 : s.on = true) (h2 : s.free = true) : s.quiet = decide (0 < s.pq) := by
  unfold Os.quiet Os.pq
  rw [h1, h2, Bool.eq_iff_iff]
  cases s.sent <;> simp
  omega
theorem event_any (h : Oa g s w) : Calls Try.prog 16 #[.pointer (some ⟨g, 0, none⟩)] w fun e w' => e = .returned (.bool s.evO) ∧ Oa g s.ev w' ∧ Two g g w w' := by
  obtain ⟨c0, c1, c2, c3, c4, c5, c6, hf⟩ := h.cells
  have f4 := hf 4
  cases hon : s.on
  · have e1 : s.evO = false := by simp [Os.evO, hon]
    have e2 : s.ev = s.setW false := by simp [Os.ev, e1, hon]
    rw [e1, e2]
    have H : Hid (Oa g (s.setW false) w) := h.same rfl rfl rfl rfl (by simp [Os.setW, Os.pw, hon]) (by simp [Os.setW, Os.pq, hon]) (by simp [Os.setW, Os.ps, hon])
    rw [hon] at c3
    clear h hon e1 e2
    go_enter Try.func16, Try.ntmps16
    go_wp2
    go_ret
    exact ⟨rfl, H.out, Two.refl _ _ _⟩
  · have HF := once_any w s.typ
    rw [show freeO s.typ = s.free from rfl] at HF
    have HW : Hid (Oa g (s.setW true) (w.setCell ⟨g, 4, none⟩ (.bool true))) :=
      Oa.mk (s := s) (o := true) (b := true) (q := s.pq) (n := s.ps) (by have := Bc.set h 4 (.bool true); unfold Os.pc at this; rw [hon] at this; exact this) rfl rfl rfl hon (by simp [Os.pw, Os.setW, hon]) rfl rfl
    cases hfr : s.free
    · have e1 : s.evO = false := by simp [Os.evO, hfr]
      have e2 : s.ev = s.setW true := by simp [Os.ev, e1, hon]
      rw [e1, e2]
      rw [hon] at c3
      rw [hfr] at HF
      clear h hon e1 e2 hfr
      go_enter Try.func16, Try.ntmps16
      go_wp2_with (go_at_call 28; refine HF.mono ?_; rintro e w' ⟨rfl, rfl⟩)
      go_ret
      exact ⟨rfl, HW.out, (Two.refl _ _ _).at0 _ _⟩
    · have hq := Os.quiet_pq hon hfr
      cases hqu : s.quiet
      · have e1 : s.evO = true := by simp [Os.evO, hfr, hqu, hon]
        have e2 : s.ev = s.snd := by simp [Os.ev, e1]
        rw [e1, e2]
        have HS := send_any h hon hfr
        rw [hon] at c3
        rw [hfr] at HF
        have hz : s.pq = 0 := by rw [hqu] at hq; have := hq.symm; simp at this; exact this
        rw [hz] at c5
        clear h hon e1 e2 hfr hq hqu hz HW
        go_enter Try.func16, Try.ntmps16
        go_wp2_with (first | (go_at_call 28; refine HF.mono ?_; rintro e w' ⟨rfl, rfl⟩) | (go_at_call 29; refine HS.mono ?_; rintro e w' ⟨rfl, S1, T1⟩))
        go_ret
        exact ⟨rfl, S1, T1⟩
      · have e1 : s.evO = false := by simp [Os.evO, hfr, hqu, hon]
        have e2 : s.ev = s.setW true := by simp [Os.ev, e1, hon]
        rw [e1, e2]
        rw [hon] at c3
        rw [hfr] at HF
        have hz : 0 < s.pq := by rw [hqu] at hq; have := hq.symm; simp at this; exact this
        have d1 : decide ((0 : Int) < (s.pq : Int)) = true := by simp; omega
        have d1' : decide (0 < s.pq) = true := by simp; omega
        clear h hon e1 e2 hfr hq hqu
        generalize s.pq = Q at *
        clear hz
        go_enter Try.func16, Try.ntmps16
        go_wp2_with (go_at_call 28; refine HF.mono ?_; rintro e w' ⟨rfl, rfl⟩)
        go_ret
        exact ⟨rfl, HW.out, (Two.refl _ _ _).at0 _ _⟩
theorem sync_any (hk : s.ok) (h : Oa g s w) (c : Int) : Calls Try.prog 17 #[.pointer (some ⟨g, 0, none⟩), .int .i64 c] w fun e w' => e = .returned (.bool s.syO) ∧ Oa g s.sy w' ∧ Two g g w w' := by
  obtain ⟨c0, c1, c2, c3, c4, c5, c6, hf⟩ := h.cells
  have f4 := hf 4
  have f6 := hf 6
  have HF := once_any w s.typ
  rw [show freeO s.typ = s.free from rfl] at HF
  by_cases hz : (!s.on || s.free) = true
  · have e1 : s.syO = false := by simp only [Os.syO, hz, if_true]
    have e2 : s.sy = s := by simp only [Os.sy, hz, if_true]
    rw [e1, e2]
    have H : Hid (Oa g s w) := h
    clear h e1 e2
    cases hon : s.on
    · rw [hon] at c3
      clear hz hon
      go_enter Try.func17, Try.ntmps17
      go_wp2_with (go_at_call 28; refine HF.mono ?_; rintro e w' ⟨rfl, rfl⟩)
      go_ret
      exact ⟨rfl, H.out, Two.refl _ _ _⟩
    · have hfr : s.free = true := by simpa [hon] using hz
      rw [hon] at c3
      rw [hfr] at HF
      clear hz hon hfr
      go_enter Try.func17, Try.ntmps17
      go_wp2_with (go_at_call 28; refine HF.mono ?_; rintro e w' ⟨rfl, rfl⟩)
      go_ret
      exact ⟨rfl, H.out, Two.refl _ _ _⟩
  · have hz1 : s.on = true := by cases h9 : s.on <;> simp_all
    have hz2 : s.free = false := by cases h9 : s.free <;> simp_all
    rw [hz1] at c3
    rw [hz2] at HF
    by_cases ht : s.typ = 0
    · have e1 : s.syO = s.waits := by simp [Os.syO, hz1, hz2, ht]
      have e2 : s.sy = s.setW false := by simp [Os.sy, hz1, hz2, ht]
      have e3 : s.pw = s.waits := by simp [Os.pw, hz1]
      rw [e1, e2]
      rw [e3] at c4
      have HW : Hid (Oa g (s.setW false) (w.setCell ⟨g, 4, none⟩ (.bool false))) :=
        Oa.mk (s := s) (o := true) (b := false) (q := s.pq) (n := s.ps) (by have := Bc.set h 4 (.bool false); unfold Os.pc at this; rw [hz1] at this; exact this) rfl rfl rfl hz1 (by simp [Os.pw, Os.setW]) rfl rfl
      rw [ht] at c0 HF
      clear h hz hz1 hz2 e1 e2 e3 ht
      generalize s.waits = b at *
      go_enter Try.func17, Try.ntmps17
      go_wp2_with (go_at_call 28; refine HF.mono ?_; rintro e w' ⟨rfl, rfl⟩)
      go_ret
      exact ⟨rfl, HW.out, (Two.refl _ _ _).at0 _ _⟩
    · have e1 : s.syO = decide ((s.syncs + 1) % s.typ = 0) := by simp [Os.syO, hz1, hz2, ht]
      have e2 : s.sy = s.setY (s.syncs + 1) := by simp [Os.sy, hz1, hz2, ht]
      have e3 : s.ps = s.syncs % s.typ := by simp [Os.ps, hz1, hz2, ht]
      have hm : s.ps < s.typ := by rw [e3]; exact Nat.mod_lt _ (by omega)
      have e4 : (s.ps + 1) % s.typ = (s.syncs + 1) % s.typ := by rw [e3, Nat.mod_add_mod]
      have hle := Os.typ_le hk
      have HW : Hid (∀ n, Oa g (s.setY (s.syncs + 1)) ((w.drewN n).setCell ⟨g, 6, none⟩ (.int .u64 (((s.ps + 1) % s.typ : Nat) : Int)))) := fun n =>
        Oa.mk (s := s) (o := true) (b := s.pw) (q := s.pq) (n := ((s.ps + 1) % s.typ : Nat)) (by have := Bc.set (Bc.drawn h n) 6 (.int .u64 (((s.ps + 1) % s.typ : Nat) : Int)); unfold Os.pc at this; rw [hz1] at this; exact this) rfl rfl rfl hz1 (by simp [Os.pw, Os.setY]) rfl (by rw [e4]; have : (s.setY (s.syncs + 1)).free = false := hz2; simp only [Os.ps, this]; simp [Os.setY, hz1, ht])
      rw [e1, e2, ← e4]
      have d0 : ((s.typ : Int) == 0) = false := by simp; omega
      have em : ((s.ps : Int) + 1).tmod (s.typ : Int) = (((s.ps + 1) % s.typ : Nat) : Int) := rfl
      have hr : (s.ps + 1) % s.typ < s.typ := Nat.mod_lt _ (by omega)
      clear h hz hz1 hz2 e1 e2 e3 e4 hk
      generalize hR : (s.ps + 1) % s.typ = R at *
      clear hR
      generalize s.setY (s.syncs + 1) = S at *
      generalize s.ps = P at *
      generalize s.typ = T at *
      go_enter Try.func17, Try.ntmps17
      go_wp2_with (go_at_call 28; refine HF.mono ?_; rintro e w' ⟨rfl, rfl⟩)
      go_region
      all_goals
        go_wp2
        go_ret
        refine ⟨ret_bool ?_, HW.out _, ((Two.draw _ g _).at0 _ _)⟩
        rw [Bool.eq_iff_iff]
        simp
theorem Os.pass_pq (h1 : s.on = true) (h2 : s.free = true) : s.pass.pq = s.pq - min s.pq 1 := by
  have h3 : s.pass.free = true := h2
  unfold Os.pq
  rw [h2, h3, h1]
  simp [Os.pass, h1]
  cases s.sent <;> simp
  omega
theorem tick_any (hk : s.ok) (h : Oa g s w) (hc : s.since < 4611686018427387904) : Calls Try.prog 18 #[.pointer (some ⟨g, 0, none⟩)] w fun e w' => e = .returned (.bool s.tkO) ∧ Oa g s.tk w' ∧ Two g g w w' := by
  obtain ⟨c0, c1, c2, c3, c4, c5, c6, hf⟩ := h.cells
  have f5 := hf 5
  have f6 := hf 6
  have HF := once_any w s.typ
  rw [show freeO s.typ = s.free from rfl] at HF
  by_cases hz : (!s.on || !s.free) = true
  · have e1 : s.tkO = false := by
      cases h1 : s.on <;> cases h2 : s.free <;> simp_all [Os.tkO]
    have e2 : s.tk = s := by simp only [Os.tk, hz, if_true]
    rw [e1, e2]
    have H : Hid (Oa g s w) := h
    clear h e1 e2
    cases hon : s.on
    · rw [hon] at c3
      clear hz hon
      go_enter Try.func18, Try.ntmps18
      go_wp2_with (go_at_call 28; refine HF.mono ?_; rintro e w' ⟨rfl, rfl⟩)
      go_ret
      exact ⟨rfl, H.out, Two.refl _ _ _⟩
    · have hfr : s.free = false := by simpa [hon] using hz
      rw [hon] at c3
      rw [hfr] at HF
      clear hz hon hfr
      go_enter Try.func18, Try.ntmps18
      go_wp2_with (go_at_call 28; refine HF.mono ?_; rintro e w' ⟨rfl, rfl⟩)
      go_ret
      exact ⟨rfl, H.out, Two.refl _ _ _⟩
  · have hz1 : s.on = true := by cases h9 : s.on <;> simp_all
    have hz2 : s.free = true := by cases h9 : s.free <;> simp_all
    have e6 : s.ps = s.since := by simp [Os.ps, hz1, hz2]
    have hq2 := Os.pass_pq hz1 hz2
    have hqq := Os.quiet_pq (s := s.pass) hz1 hz2
    have hql : s.pq ≤ 4294967296 := by
      have := hk.2.1
      unfold Os.pq
      split <;> omega
    have HW : Hid (∀ n, Oa g s.pass (((w.setCell ⟨g, 6, none⟩ (.int .u64 ((s.since : Int) + 1))).drewN n).setCell ⟨g, 5, none⟩ (.int .u64 (s.pass.pq : Int)))) := fun n =>
      Oa.mk (s := s) (o := true) (b := s.pw) (q := s.pass.pq) (n := (s.since : Int) + 1) (by have := Bc.set (Bc.drawn (Bc.set h 6 (.int .u64 ((s.since : Int) + 1))) n) 5 (.int .u64 (s.pass.pq : Int)); unfold Os.pc at this; rw [hz1] at this; exact this) rfl rfl rfl hz1 (by simp [Os.pw, Os.pass]) rfl (by have h3 : s.pass.free = true := hz2; simp only [Os.ps, h3]; simp [Os.pass, hz1])
    have HD : Hid (∀ w1, Oa g s.pass w1 → Calls Try.prog 30 #[.pointer (some ⟨g, 0, none⟩)] w1 fun e w' => e = .returned (.bool s.pass.due) ∧ ∃ n, w' = w1.drewN n) := fun w1 h9 => due_any h9 hz1 hz2
    have HS : Hid (∀ w1, Oa g s.pass w1 → Calls Try.prog 29 #[.pointer (some ⟨g, 0, none⟩)] w1 fun e w' => e = .returned (.bool true) ∧ Oa g s.pass.snd w' ∧ Two g g w1 w') := fun w1 h9 => send_any h9 hz1 hz2
    have HT : Hid (s.tkO = (!s.pass.quiet && (s.waits || s.pass.due)) ∧ s.tk = if s.tkO then s.pass.snd else s.pass) := by
      refine ⟨by simp [Os.tkO, hz1, hz2], by simp [Os.tk, hz1, hz2]⟩
    rw [e6] at c6
    rw [hz1] at c3
    rw [hz2] at HF
    have e5 : s.pw = s.waits := by simp [Os.pw, hz1]
    rw [e5] at c4
    have HC : Hid (∀ w1, Oa g s.pass w1 → w1.cell? ⟨g, 4, none⟩ = some (.bool s.waits) ∧ w1.cell? ⟨g, 5, none⟩ = some (.int .u64 (s.pass.pq : Nat))) := fun w1 h9 => by
      obtain ⟨x0, x1, x2, x3, x4, x5, x6, _⟩ := h9.cells
      refine ⟨?_, x5⟩
      rw [x4]
      simp [Os.pw, Os.pass, hz1]
    have HQ : Hid (s.pass.pq = s.pq - min s.pq 1 ∧ s.pass.quiet = decide (0 < s.pass.pq)) := ⟨hq2, hqq⟩
    clear h hz hz1 hz2 e6 e5 hq2 hqq hk
    generalize s.tkO = o at *
    generalize s.tk = S at *
    generalize s.pass.quiet = qt at *
    generalize s.pass.due = du at *
    generalize s.pass.pq = Q2 at *
    generalize s.pass.snd = S2 at *
    generalize s.pass = S1 at *
    generalize s.pq = Q at *
    generalize s.since = P at *
    generalize s.waits = wt at *
    have HX : Hid (∀ z : Int, z = Q2 → Oa g S1 ((w.setCell ⟨g, 6, none⟩ (.int .u64 ((P : Int) + 1))).setCell ⟨g, 5, none⟩ (.int .u64 z)).drew) := fun z hz => by subst hz; exact HW.out 0
    clear HW
    go_enter Try.func18, Try.ntmps18
    go_wp2_with (go_at_call 28; refine HF.mono ?_; rintro e w' ⟨rfl, rfl⟩)
    go_region
    have X1 := HX.out ((Q : Int) - if 1 < (Q : Int) then 1 else (Q : Int)) (by have := HQ.out.1; split <;> omega)
    obtain ⟨y4, y5⟩ := HC.out _ X1
    have T1 : Two g g w' ((w'.setCell ⟨g, 6, none⟩ (.int .u64 ((P : Int) + 1))).setCell ⟨g, 5, none⟩ (.int .u64 ((Q : Int) - if 1 < (Q : Int) then 1 else (Q : Int)))).drew := (((Two.refl _ _ _).at0 _ _).at0 _ _).drawn 1
    clear c0 c1 c2 c3 c4 c5 c6 f5 f6 hf HX
    have hq9 := HQ.out.2
    have HT1 := HT.out.1
    have HT2 := HT.out.2
    clear HQ HT HC hql
    generalize ((w'.setCell ⟨g, 6, none⟩ (.int .u64 ((P : Int) + 1))).setCell ⟨g, 5, none⟩ (.int .u64 ((Q : Int) - if 1 < (Q : Int) then 1 else (Q : Int)))).drew = W1 at *
    have hD := HD.out _ X1
    have hS := HS.out _ X1
    have hS2 : ∀ n, Calls Try.prog 29 #[.pointer (some ⟨g, 0, none⟩)] (W1.drewN n) fun e w' => e = .returned (.bool true) ∧ Oa g S2 w' ∧ Two g g (W1.drewN n) w' := fun n => HS.out _ (Bc.drawn X1 n)
    by_cases hQ2 : 0 < Q2
    · have d1 : decide ((0 : Int) < (Q2 : Int)) = true := by simp; omega
      have d1' : decide (0 < Q2) = true := by simp; omega
      rw [d1'] at hq9
      subst hq9
      have HO : Hid (o = false ∧ S = S1) := by rw [show o = false from HT1] at HT2; exact ⟨HT1, HT2⟩
      clear HT1 HT2 hS hS2 hD hQ2
      go_wp2_with fail
      all_goals
        go_ret
        rw [HO.out.1, HO.out.2]
        exact ⟨rfl, X1, T1⟩
    · have d1 : decide ((0 : Int) < (Q2 : Int)) = false := by simp; omega
      have d1' : decide (0 < Q2) = false := by simp; omega
      rw [d1'] at hq9
      subst hq9
      cases wt
      · cases du
        · have HO : Hid (o = false ∧ S = S1) := by rw [show o = false from HT1] at HT2; exact ⟨HT1, HT2⟩
          clear HT1 HT2 hS hS2 hQ2
          go_wp2_with (go_at_call 30; refine hD.mono ?_; rintro e w8 ⟨rfl, n8, rfl⟩)
          all_goals
            go_ret
            rw [HO.out.1, HO.out.2]
            exact ⟨rfl, Bc.drawn X1 _, T1.drawn _⟩
        · have HO : Hid (o = true ∧ S = S2) := by rw [show o = true from HT1] at HT2; exact ⟨HT1, HT2⟩
          clear HT1 HT2 hS hQ2
          go_wp2_with (first | (go_at_call 30; refine hD.mono ?_; rintro e w8 ⟨rfl, n8, rfl⟩) | (go_at_call 29; refine (hS2 _).mono ?_; rintro e w9 ⟨rfl, X9, T9⟩))
          all_goals
            go_ret
            rw [HO.out.1, HO.out.2]
            exact ⟨rfl, X9, (T1.drawn _).trans T9⟩
      · have HO : Hid (o = true ∧ S = S2) := by rw [show o = true from HT1] at HT2; exact ⟨HT1, HT2⟩
        clear HT1 HT2 hQ2 hS2
        go_wp2_with (go_at_call 29; refine hS.mono ?_; rintro e w9 ⟨rfl, X9, T9⟩)
        all_goals
          go_ret
          rw [HO.out.1, HO.out.2]
          exact ⟨rfl, X9, T1.trans T9⟩
end
end Go.Proofs.Ytkflffdoipeocaa
