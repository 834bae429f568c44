/- The document's sender: Start, Quiet, sends, Event, Sync, Tick. -/
import Derived.Test.YtkflffdoipeocaaOaB
namespace Go.Proofs.Ytkflffdoipeocaa
open Go.RowKit
set_option linter.unusedVariables false
set_option maxRecDepth 1000000
section
variable {g : Nat} {s : Os} {w : World}
theorem Od.at4 (h : Od g s w) (b : Bool) : Od g (s.setW b) (w.setCell ⟨g, 4, none⟩ (.bool b)) := Bc.set h 4 (.bool b)
theorem Od.at3 (h : Od g s w) (b : Bool) : Od g (s.setOn b) (w.setCell ⟨g, 3, none⟩ (.bool b)) := Bc.set h 3 (.bool b)
theorem Od.at5 (h : Od g s w) (n : Nat) : Od g ⟨s.typ, s.inh, s.each, s.on, s.waits, n, s.sent, s.syncs⟩ (w.setCell ⟨g, 5, none⟩ (.int .u64 n)) := Bc.set h 5 (.int .u64 n)
theorem Od.at6 (h : Od g s w) (b : Bool) : Od g ⟨s.typ, s.inh, s.each, s.on, s.waits, s.since, b, s.syncs⟩ (w.setCell ⟨g, 6, none⟩ (.bool b)) := Bc.set h 6 (.bool b)
theorem Od.at7 (h : Od g s w) (n : Nat) : Od g (s.setY n) (w.setCell ⟨g, 7, none⟩ (.int .i64 n)) := Bc.set h 7 (.int .i64 n)
theorem dstart_any (h : Od g s w) (b : Bool) : Calls Try.prog 14 #[.pointer (some ⟨g, 0, none⟩), .bool b] w fun e w' => e = .returned (.tuple #[]) ∧ Od g (s.st b) w' ∧ Two g g w w' := by
  obtain ⟨c0, c1, c2, c3, c4, c5, c6, c7, hf⟩ := h.cells
  have f3 := hf 3
  have f4 := hf 4
  have f5 := hf 5
  have f6 := hf 6
  have f7 := hf 7
  cases b
  · have H : Hid (Od g (s.st false) (w.setCell ⟨g, 3, none⟩ (.bool false))) := h.at3 false
    generalize s.st false = S at *
    clear h
    go_enter Try.func14, Try.ntmps14
    go_wp2
    go_end0
    exact ⟨rfl, H.out, (Two.refl _ _ _).at0 _ _⟩
  · cases hon : s.on
    · have H : Hid (Od g (s.st true) (((((w.setCell ⟨g, 4, none⟩ (.bool false)).setCell ⟨g, 5, none⟩ (.int .u64 0)).setCell ⟨g, 6, none⟩ (.bool false)).setCell ⟨g, 7, none⟩ (.int .i64 0)).setCell ⟨g, 3, none⟩ (.bool true))) := by
        show Od _ _ _
        have e : s.st true = s.fresh := by simp [Os.st, hon]
        rw [e]
        exact ((((h.at4 false).at5 0).at6 false).at7 0).at3 true
      generalize s.st true = S at *
      rw [hon] at c3
      clear h hon
      go_enter Try.func14, Try.ntmps14
      go_wp2
      go_end0
      exact ⟨rfl, H.out, (((((Two.refl _ _ _).at0 _ _).at0 _ _).at0 _ _).at0 _ _).at0 _ _⟩
    · have H : Hid (Od g (s.st true) (w.setCell ⟨g, 3, none⟩ (.bool true))) := by
        show Od _ _ _
        have e : s.st true = s.setOn true := by simp [Os.st, hon]
        rw [e]
        exact h.at3 true
      generalize s.st true = S at *
      rw [hon] at c3
      clear h hon
      go_enter Try.func14, Try.ntmps14
      go_wp2
      go_end0
      exact ⟨rfl, H.out, (Two.refl _ _ _).at0 _ _⟩
theorem dquiet_any (h : Od g s w) : Calls Try.prog 32 #[.pointer (some ⟨g, 0, none⟩)] w fun e w' => e = .returned (.bool s.quiet) ∧ ∃ n, w' = w.drewN n := by
  obtain ⟨c0, c1, c2, c3, c4, c5, c6, c7, hf⟩ := h.cells
  have HO : Hid (s.quiet = (s.sent && decide (s.since < s.inh))) := rfl
  generalize s.quiet = o at *
  clear h
  generalize s.since = P at *
  generalize s.inh = I at *
  generalize s.sent = b at *
  cases b
  all_goals
    go_enter Try.func32, Try.ntmps32
    go_wp2_with fail
    go_quiet (fail)
    go_wp2
    go_ret
    refine ⟨ret_bool ?_, _, rfl⟩
    rw [HO.out]
    simp
theorem dsends_any (h : Od g s w) : Calls Try.prog 33 #[.pointer (some ⟨g, 0, none⟩)] w fun e w' => e = .returned (.bool true) ∧ Od g s.snd w' ∧ Two g g w w' := by
  obtain ⟨c0, c1, c2, c3, c4, c5, c6, c7, hf⟩ := h.cells
  have f4 := hf 4
  have f5 := hf 5
  have f6 := hf 6
  have H : Hid (Od g s.snd (((w.setCell ⟨g, 4, none⟩ (.bool false)).setCell ⟨g, 5, none⟩ (.int .u64 0)).setCell ⟨g, 6, none⟩ (.bool true))) := ((h.at4 false).at5 0).at6 true
  generalize s.snd = S at *
  clear h
  go_enter Try.func33, Try.ntmps33
  go_wp2
  go_ret
  exact ⟨rfl, H.out, (((Two.refl _ _ _).at0 _ _).at0 _ _).at0 _ _⟩
theorem devent_any (h : Od g s w) : Calls Try.prog 25 #[.pointer (some ⟨g, 0, none⟩)] w fun e w' => e = .returned (.bool s.evO) ∧ Od g s.ev w' ∧ Two g g w w' := by
  obtain ⟨c0, c1, c2, c3, c4, c5, c6, c7, hf⟩ := h.cells
  have f4 := hf 4
  have HF := dfree_any w s.typ
  rw [show freeO s.typ = s.free from rfl] at HF
  have HQ := dquiet_any h
  cases hev : s.evO
  · have e2 : s.ev = s.setW s.on := by simp [Os.ev, hev]
    rw [e2]
    cases hon : s.on
    · have H : Hid (Od g (s.setW false) (w.setCell ⟨g, 4, none⟩ (.bool false))) := h.at4 false
      rw [hon] at c3
      clear h hon e2 hev
      go_enter Try.func25, Try.ntmps25
      go_wp2
      go_ret
      exact ⟨rfl, H.out, (Two.refl _ _ _).at0 _ _⟩
    · have H : Hid (∀ n, Od g (s.setW true) ((w.drewN n).setCell ⟨g, 4, none⟩ (.bool true))) := fun n => Od.at4 (Bc.drawn h n) true
      have HC : ∀ n, (w.drewN n).cell? ⟨g, 3, none⟩ = some (.bool true) := fun n => by rw [hon] at c3; exact c3
      rw [hon] at c3
      cases hfr : s.free
      · rw [hfr] at HF
        clear h hon e2 hev hfr HC
        go_enter Try.func25, Try.ntmps25
        go_wp2_with (go_at_call 15; refine HF.mono ?_; rintro e w' ⟨rfl, rfl⟩)
        go_ret
        exact ⟨rfl, H.out 0, (Two.refl _ _ _).at0 _ _⟩
      · have hq : s.quiet = true := by cases h9 : s.quiet <;> simp_all [Os.evO]
        rw [hfr] at HF
        rw [hq] at HQ
        clear h hon e2 hev hfr hq
        go_enter Try.func25, Try.ntmps25
        go_wp2_with (first | (go_at_call 15; refine HF.mono ?_; rintro e w' ⟨rfl, rfl⟩) | (go_at_call 32; refine HQ.mono ?_; rintro e w8 ⟨rfl, n8, rfl⟩; have c9 := HC n8; have f9 := f4))
        go_ret
        exact ⟨rfl, H.out _, (Two.draw _ g _).at0 _ _⟩
  · have e2 : s.ev = s.snd := by simp [Os.ev, hev]
    have hon : s.on = true := by cases h9 : s.on <;> simp_all [Os.evO]
    have hfr : s.free = true := by cases h9 : s.free <;> simp_all [Os.evO]
    have hq : s.quiet = false := by cases h9 : s.quiet <;> simp_all [Os.evO]
    have HS : ∀ n, Calls Try.prog 33 #[.pointer (some ⟨g, 0, none⟩)] (w.drewN n) fun e w' => e = .returned (.bool true) ∧ Od g s.snd w' ∧ Two g g (w.drewN n) w' := fun n => dsends_any (Bc.drawn h n)
    rw [e2]
    rw [hon] at c3
    rw [hfr] at HF
    rw [hq] at HQ
    clear h hon e2 hev hfr hq
    go_enter Try.func25, Try.ntmps25
    go_wp2_with (first | (go_at_call 15; refine HF.mono ?_; rintro e w' ⟨rfl, rfl⟩) | (go_at_call 32; refine HQ.mono ?_; rintro e w8 ⟨rfl, n8, rfl⟩) | (go_at_call 33; refine (HS _).mono ?_; rintro e w9 ⟨rfl, X9, T9⟩))
    go_ret
    exact ⟨rfl, X9, (Two.draw _ g _).trans T9⟩
theorem dsync_any (hk : s.ok) (h : Od g s w) (hc : s.syncs < 4611686018427387904) : Calls Try.prog 26 #[.pointer (some ⟨g, 0, none⟩)] w fun e w' => e = .returned (.bool s.syO) ∧ Od g s.sy w' ∧ Two g g w w' := by
  obtain ⟨c0, c1, c2, c3, c4, c5, c6, c7, hf⟩ := h.cells
  have f4 := hf 4
  have f7 := hf 7
  have HF := dfree_any w s.typ
  rw [show freeO s.typ = s.free from rfl] at HF
  by_cases hz : (!s.on || s.free) = true
  · have e1 : s.syO = false := by simp only [Os.syO, hz, if_true]
    have e2 : s.sy = s := by simp only [Os.sy, hz, if_true]
    rw [e1, e2]
    have H : Hid (Od g s w) := h
    clear h e1 e2
    cases hon : s.on
    · rw [hon] at c3
      clear hz hon
      go_enter Try.func26, Try.ntmps26
      go_wp2_with (go_at_call 15; refine HF.mono ?_; rintro e w' ⟨rfl, rfl⟩)
      go_ret
      exact ⟨rfl, H.out, Two.refl _ _ _⟩
    · have hfr : s.free = true := by simpa [hon] using hz
      rw [hon] at c3
      rw [hfr] at HF
      clear hz hon hfr
      go_enter Try.func26, Try.ntmps26
      go_wp2_with (go_at_call 15; refine HF.mono ?_; rintro e w' ⟨rfl, rfl⟩)
      go_ret
      exact ⟨rfl, H.out, Two.refl _ _ _⟩
  · have hz1 : s.on = true := by cases h9 : s.on <;> simp_all
    have hz2 : s.free = false := by cases h9 : s.free <;> simp_all
    rw [hz1] at c3
    rw [hz2] at HF
    by_cases ht : s.typ = 0
    · have e1 : s.syO = s.waits := by simp [Os.syO, hz1, hz2, ht]
      have e2 : s.sy = s.setW false := by simp [Os.sy, hz1, hz2, ht]
      rw [e1, e2]
      have HW : Hid (Od g (s.setW false) (w.setCell ⟨g, 4, none⟩ (.bool false))) := h.at4 false
      rw [ht] at c0 HF
      clear h hz hz1 hz2 e1 e2 ht
      generalize s.waits = b at *
      go_enter Try.func26, Try.ntmps26
      go_wp2_with (go_at_call 15; refine HF.mono ?_; rintro e w' ⟨rfl, rfl⟩)
      go_ret
      exact ⟨rfl, HW.out, (Two.refl _ _ _).at0 _ _⟩
    · have e1 : s.syO = decide ((s.syncs + 1) % s.typ = 0) := by simp [Os.syO, hz1, hz2, ht]
      have e2 : s.sy = s.setY (s.syncs + 1) := by simp [Os.sy, hz1, hz2, ht]
      have hle := Os.typ_le hk
      have HW : Hid (Od g (s.setY (s.syncs + 1)) (w.setCell ⟨g, 7, none⟩ (.int .i64 ((s.syncs : Int) + 1)))) := h.at7 (s.syncs + 1)
      rw [e1, e2]
      have d0 : ((s.typ : Int) == 0) = false := by simp; omega
      have em : ((s.syncs : Int) + 1).tmod (s.typ : Int) = (((s.syncs + 1) % s.typ : Nat) : Int) := rfl
      clear h hz hz1 hz2 e1 e2 hk
      generalize hR : (s.syncs + 1) % s.typ = R at *
      clear hR
      generalize s.setY (s.syncs + 1) = S at *
      generalize s.syncs = P at *
      generalize s.typ = T at *
      go_enter Try.func26, Try.ntmps26
      go_wp2_with (go_at_call 15; refine HF.mono ?_; rintro e w' ⟨rfl, rfl⟩)
      go_quiet (fail)
      go_wp2
      go_ret
      refine ⟨ret_bool ?_, HW.out, ((Two.refl _ _ _).at0 _ _).drawn _⟩
      rw [Bool.eq_iff_iff]
      simp
theorem dtick_any (hk : s.ok) (h : Od g s w) (hc : s.since < 4611686018427387904) : Calls Try.prog 27 #[.pointer (some ⟨g, 0, none⟩)] w fun e w' => e = .returned (.bool s.tkO) ∧ Od g s.tk w' ∧ Two g g w w' := by
  obtain ⟨c0, c1, c2, c3, c4, c5, c6, c7, hf⟩ := h.cells
  have f5 := hf 5
  have HF := dfree_any w s.typ
  rw [show freeO s.typ = s.free from rfl] at HF
  by_cases hz : (!s.on || !s.free) = true
  · have e1 : s.tkO = false := by
      cases h1 : s.on <;> cases h2 : s.free <;> simp_all [Os.tkO]
    have e2 : s.tk = s := by simp only [Os.tk, hz, if_true]
    rw [e1, e2]
    have H : Hid (Od g s w) := h
    clear h e1 e2
    cases hon : s.on
    · rw [hon] at c3
      clear hz hon
      go_enter Try.func27, Try.ntmps27
      go_wp2_with (go_at_call 15; refine HF.mono ?_; rintro e w' ⟨rfl, rfl⟩)
      go_ret
      exact ⟨rfl, H.out, Two.refl _ _ _⟩
    · have hfr : s.free = false := by simpa [hon] using hz
      rw [hon] at c3
      rw [hfr] at HF
      clear hz hon hfr
      go_enter Try.func27, Try.ntmps27
      go_wp2_with (go_at_call 15; refine HF.mono ?_; rintro e w' ⟨rfl, rfl⟩)
      go_ret
      exact ⟨rfl, H.out, Two.refl _ _ _⟩
  · have hz1 : s.on = true := by cases h9 : s.on <;> simp_all
    have hz2 : s.free = true := by cases h9 : s.free <;> simp_all
    have X1 : Od g s.pass (w.setCell ⟨g, 5, none⟩ (.int .u64 ((s.since : Int) + 1))) := h.at5 (s.since + 1)
    have T1 : Two g g w (w.setCell ⟨g, 5, none⟩ (.int .u64 ((s.since : Int) + 1))) := (Two.refl _ _ _).at0 _ _
    have HT : Hid (s.tkO = (!s.pass.quiet && (s.waits || s.pass.due)) ∧ s.tk = if s.tkO then s.pass.snd else s.pass) := by
      refine ⟨by simp [Os.tkO, hz1, hz2], by simp [Os.tk, hz1, hz2]⟩
    rw [hz1] at c3
    rw [hz2] at HF
    have HX : Hid (Od g s.pass (w.setCell ⟨g, 5, none⟩ (.int .u64 ((s.since : Int) + 1))) ∧ Two g g w (w.setCell ⟨g, 5, none⟩ (.int .u64 ((s.since : Int) + 1)))) := ⟨X1, T1⟩
    have HD : Hid (s.pass.due = (decide (0 < s.each) && decide ((s.each : Int) ≤ (s.since : Int) + 1)) ∧ s.pass.waits = s.waits ∧ s.pass.each = s.each ∧ s.pass.since = s.since + 1) := by
      refine ⟨?_, rfl, rfl, rfl⟩
      unfold Os.due Os.pass
      rw [Bool.eq_iff_iff]
      simp
      omega
    clear h hz hz1 hz2 X1 T1 hk
    generalize s.tkO = o at *
    generalize s.tk = S at *
    generalize hpass : s.pass = S1 at *
    clear hpass
    go_enter Try.func27, Try.ntmps27
    go_wp2_with (go_at_call 15; refine HF.mono ?_; rintro e w' ⟨rfl, rfl⟩)
    obtain ⟨X1, T1⟩ := HX.out
    obtain ⟨z1, z2, z3, z4⟩ := HD.out
    obtain ⟨HT1, HT2⟩ := HT.out
    clear c0 c1 c2 c3 c4 c5 c6 c7 f5 hf HX HD HT
    obtain ⟨c0, c1, c2, c3, c4, c5, c6, c7, hf⟩ := X1.cells
    have HQ : Hid (∀ w1, Od g S1 w1 → Calls Try.prog 32 #[.pointer (some ⟨g, 0, none⟩)] w1 fun e w' => e = .returned (.bool S1.quiet) ∧ ∃ n, w' = w1.drewN n) := fun w1 h1 => dquiet_any h1
    rw [z2] at c4
    rw [z3] at c2
    rw [z4, show ((s.since + 1 : Nat) : Int) = (s.since : Int) + 1 from rfl] at c5
    have hS : ∀ n, Calls Try.prog 33 #[.pointer (some ⟨g, 0, none⟩)] (World.drewN (World.setCell _ ⟨g, 5, none⟩ (.int .u64 ((s.since : Int) + 1))) n) _ := fun n => dsends_any (Bc.drawn X1 n)
    clear z2 z3 z4
    generalize World.setCell _ ⟨g, 5, none⟩ (.int .u64 ((s.since : Int) + 1)) = W1 at *
    have HQ2 : ∀ n, Calls Try.prog 32 #[.pointer (some ⟨g, 0, none⟩)] (W1.drewN n) fun e w' => e = .returned (.bool S1.quiet) ∧ ∃ m, w' = (W1.drewN n).drewN m := fun n => HQ.out _ (Bc.drawn X1 n)
    clear HQ
    generalize S1.quiet = qt at *
    generalize S1.due = du at *
    generalize s.waits = wt at *
    have hde : ((0 < s.each) ∨ ¬ (0 < s.each)) ∧ (((s.each : Int) ≤ (s.since : Int) + 1) ∨ ¬ ((s.each : Int) ≤ (s.since : Int) + 1)) := ⟨Classical.em _, Classical.em _⟩
    generalize s.each = E at *
    generalize s.since = P at *
    cases qt
    · cases wt
      · by_cases hE : 0 < E
        · have d1 : decide ((0 : Int) < (E : Int)) = true := by simp; omega
          have d1' : decide (0 < E) = true := by simp; omega
          by_cases hP : (E : Int) ≤ (P : Int) + 1
          · have d2 : decide ((E : Int) ≤ (P : Int) + 1) = true := by simp; omega
            have HO : Hid (o = true ∧ S = S1.snd) := by
              rw [d1', d2] at z1
              subst z1
              rw [show o = true from HT1] at HT2; exact ⟨HT1, HT2⟩
            clear HT1 HT2 z1 hE hde
            go_quiet ((go_at_call 32; exact Calls.quiet_of (HQ2 _)))
            go_wp2_with (go_at_call 33; refine (hS _).mono ?_; rintro e w9 ⟨rfl, X9, T9⟩)
            go_ret
            rw [HO.out.1, HO.out.2]
            exact ⟨rfl, X9, (T1.drawn _).trans T9⟩
          · have d2 : decide ((E : Int) ≤ (P : Int) + 1) = false := by simp; omega
            have HO : Hid (o = false ∧ S = S1) := by
              rw [d1', d2] at z1
              subst z1
              rw [show o = false from HT1] at HT2; exact ⟨HT1, HT2⟩
            clear HT1 HT2 z1 hE hde
            go_quiet ((go_at_call 32; exact Calls.quiet_of (HQ2 _)))
            go_wp2_with fail
            go_ret
            rw [HO.out.1, HO.out.2]
            exact ⟨rfl, Bc.drawn X1 _, T1.drawn _⟩
        · have d1 : decide ((0 : Int) < (E : Int)) = false := by simp; omega
          have d1' : decide (0 < E) = false := by simp; omega
          have HO : Hid (o = false ∧ S = S1) := by
            rw [d1'] at z1
            subst z1
            rw [show o = false from HT1] at HT2; exact ⟨HT1, HT2⟩
          clear HT1 HT2 z1 hE hde
          go_quiet ((go_at_call 32; exact Calls.quiet_of (HQ2 _)))
          go_wp2_with fail
          go_ret
          rw [HO.out.1, HO.out.2]
          exact ⟨rfl, Bc.drawn X1 _, T1.drawn _⟩
      · have HO : Hid (o = true ∧ S = S1.snd) := by rw [show o = true from HT1] at HT2; exact ⟨HT1, HT2⟩
        clear HT1 HT2 z1 hde
        go_quiet ((go_at_call 32; exact Calls.quiet_of (HQ2 _)))
        go_wp2_with (go_at_call 33; refine (hS _).mono ?_; rintro e w9 ⟨rfl, X9, T9⟩)
        go_ret
        rw [HO.out.1, HO.out.2]
        exact ⟨rfl, X9, (T1.drawn _).trans T9⟩
    · have HO : Hid (o = false ∧ S = S1) := by rw [show o = false from HT1] at HT2; exact ⟨HT1, HT2⟩
      clear HT1 HT2 z1 hde
      go_quiet ((go_at_call 32; exact Calls.quiet_of (HQ2 _)))
      go_wp2_with fail
      go_ret
      rw [HO.out.1, HO.out.2]
      exact ⟨rfl, Bc.drawn X1 _, T1.drawn _⟩
end
end Go.Proofs.Ytkflffdoipeocaa
