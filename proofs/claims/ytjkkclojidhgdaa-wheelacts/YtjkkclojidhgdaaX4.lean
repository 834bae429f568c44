/- The document's Tick. -/
import Derived.Test.YtjkkclojidhgdaaX3
namespace Go.Proofs.Ytjkkclojidhgdaa
open Go.RowKit Go.Maps Go.WideMaps
set_option linter.unusedVariables false
set_option maxRecDepth 1000000
set_option linter.unusedSimpArgs false
/-- The document's timers, of the program's. -/
def dtOf (now : Nat) (t : Tm) : Dt := ⟨t.no, t.due - now, t.per, t.what⟩
def dts (now : Nat) (ts : List Tm) : List Dt := ts.map (dtOf now)
theorem dts_er (now : Nat) (ts : List Tm) : dts now (ts.map er) = dts now ts := by unfold dts; rw [List.map_map]; rfl
theorem fold_min (r : List Dt) : ∀ a, r.foldl (fun a x => min a x.left) a ≤ a ∧ (∀ t ∈ r, r.foldl (fun a x => min a x.left) a ≤ t.left) ∧ (r.foldl (fun a x => min a x.left) a = a ∨ ∃ t ∈ r, r.foldl (fun a x => min a x.left) a = t.left) := by
  induction r with
  | nil => intro a; exact ⟨Nat.le_refl _, fun t h => (by cases h), .inl rfl⟩
  | cons y r ih =>
    intro a
    obtain ⟨h1, h2, h3⟩ := ih (min a y.left)
    rw [List.foldl_cons]
    refine ⟨by omega, fun t ht => ?_, ?_⟩
    · rcases List.mem_cons.1 ht with rfl | ht
      · clear h3 h2; omega
      · exact h2 t ht
    · rcases h3 with h3 | ⟨t, ht, h3⟩
      · rcases Nat.le_total a y.left with h | h
        · exact .inl (by rw [h3]; omega)
        · exact .inr ⟨y, List.mem_cons_self .., by rw [h3]; omega⟩
      · exact .inr ⟨t, List.mem_cons_of_mem _ ht, h3⟩
theorem lst_le {l : List Dt} {t : Dt} (ht : t ∈ l) : lstN l ≤ t.left := by
  cases l with
  | nil => cases ht
  | cons y r =>
    obtain ⟨h1, h2, _⟩ := fold_min r y.left
    rcases List.mem_cons.1 ht with rfl | ht
    · exact h1
    · exact h2 t ht
theorem lst_in {l : List Dt} (h : l ≠ []) : ∃ t ∈ l, lstN l = t.left := by
  cases l with
  | nil => exact absurd rfl h
  | cons y r =>
    obtain ⟨_, _, h3⟩ := fold_min r y.left
    rcases h3 with h3 | ⟨t, ht, h3⟩
    · exact ⟨y, List.mem_cons_self .., h3⟩
    · exact ⟨t, List.mem_cons_of_mem _ ht, h3⟩
theorem take_app (N : Nat) (A X : List Int) : (A.take N ++ X).take N = (A ++ X).take N := by
  by_cases h : A.length ≤ N
  · rw [List.take_of_length_le h]
  · rw [List.take_append_of_le_length (by rw [List.length_take]; omega), List.take_append_of_le_length (by omega), List.take_take, Nat.min_self]
/-- One jump. -/
theorem pd_dts {now d : Nat} {ts : List Tm} (h : ∀ t ∈ ts, now + d ≤ t.due) : pdL d (dts now ts) = dts (now + d) (passF (now + d) ts) := by
  unfold pdL dts passF
  rw [List.filterMap_map, List.map_filterMap]
  refine fm_congr (fun t ht => ?_)
  have h1 := h t ht
  show dpF d (dtOf now t) = (pfT (now + d) t).map (dtOf (now + d))
  unfold dpF pfT dtOf
  by_cases h2 : t.due ≤ now + d
  · have e : t.due = now + d := by omega
    rw [if_neg (by show ¬ d < t.due - now; omega), if_pos h2]
    by_cases hp : t.per = 0
    · rw [if_pos hp, if_neg (by show ¬ 0 < t.per; omega)]
      rfl
    · rw [if_neg hp, if_pos (by show 0 < t.per; omega)]
      show some _ = some _
      have e2 : nextDue t (now + d) - (now + d) = t.per := by
        unfold nextDue
        rw [e, Nat.sub_self, Nat.zero_div, Nat.zero_mul]
        omega
      simp [e2]
  · rw [if_pos (by show d < t.due - now; omega), if_neg h2]
    show some _ = some _
    have e3 : t.due - now - d = t.due - (now + d) := by omega
    simp [e3]
theorem tells_dts {now d : Nat} {ts : List Tm} (h : ∀ t ∈ ts, now + d ≤ t.due) (hd : 1 ≤ d) : tells d (dts now ts) = tkW d now ts := by
  obtain ⟨c, rfl⟩ : ∃ c, d = c + 1 := ⟨d - 1, by omega⟩
  obtain ⟨q1, q2⟩ := tk_quiet now ts c (fun t ht => by have := h t ht; omega)
  show _ = tkW c now ts ++ (outs (now + c + 1) (tkT c now ts)).map (·.what)
  rw [q1, q2, List.nil_append]
  unfold tells dts outs
  rw [List.filter_map, List.map_map]
  have e : List.filter ((fun t => !decide (c + 1 < t.left)) ∘ dtOf now) ts = List.filter (fun t => t.due == now + c + 1) ts := by
    apply List.filter_congr
    intro t ht
    have h5 := h t ht
    show (!decide (c + 1 < t.due - now)) = (t.due == now + c + 1)
    by_cases e : t.due = now + c + 1
    · rw [decide_eq_false (by omega)]
      simp [e]
    · rw [decide_eq_true (by omega)]
      simp [e]
  rw [e]
  rfl
/-- What a jump comes to, of what was gone by. -/
theorem jump {now c d : Nat} {ts : List Tm} (hr : Rise ts) (hG : Good now ts) (h : ∀ t ∈ passF (now + c) ts, now + c + d ≤ t.due) (hd : 1 ≤ d) :
    pdL d (dts (now + c) (passF (now + c) ts)) = dts (now + (c + d)) (passF (now + (c + d)) ts) ∧ tlK ((tkW c now ts).take 65536) d (dts (now + c) (passF (now + c) ts)) = (tkW (c + d) now ts).take 65536 := by
  constructor
  · rw [pd_dts h, pass_pass ts (by omega), Nat.add_assoc]
  · unfold tlK
    rw [tells_dts h hd, take_app, (tk_add c now ts d).2, pass_tk hr hG]
/-- The document's wheel behind c ticks of a Tick. -/
def TkX (E now : Nat) (ts : List Tm) (last : Nat) (w : World) (c : Nat) (tvk : Value) (x : World) : Prop :=
  ∃ v', Xw E (dts (now + c) (passF (now + c) ts)) (now + c) last v' x ∧ x.ownsRow w.heap.size 3 1 tvk ((tkW c now ts).take 65536).length (((tkW c now ts).take 65536).map (Value.int .i64)) ∧ w.grownBy x (some E)
section
variable {E now last : Nat} {ts : List Tm} {w wr : World} {c : Nat} {tvk : Value}
theorem good_left (hG : Good now ts) (c : Nat) : ∀ t ∈ dts (now + c) (passF (now + c) ts), 1 ≤ t.left ∧ t.left < 9223372036854775808 ∧ t.per < 9223372036854775808 := by
  intro t ht
  obtain ⟨x, hx, rfl⟩ := List.mem_map.1 ht
  have := (pass_good hG (E := now + c) (by omega)).all x hx
  show 1 ≤ x.due - (now + c) ∧ x.due - (now + c) < _ ∧ x.per < _
  omega
theorem TkX.step (h : TkX E now ts last w c tvk wr) (hr : Rise ts) (hG : Good now ts) {w4 : World} (b4 : Below wr.heap.size wr w4) (d : Nat) (hd : 1 ≤ d) (hl : ∀ t ∈ dts (now + c) (passF (now + c) ts), d ≤ t.left) (hb : now + c + d < 9223372036854775808) :
    Calls Try.prog 34 #[.pointer (some ⟨E, 0, none⟩), .int .u64 d, tvk] w4 fun e w5 => ∃ tv5, e = .returned tv5 ∧ TkX E now ts last w (c + d) tv5 w5 := by
  obtain ⟨v', q1, q2, q3⟩ := h
  have r4 : w4.ownsRow w.heap.size 3 1 tvk ((tkW c now ts).take 65536).length (((tkW c now ts).take 65536).map (Value.int .i64)) := row_apart q2 (fun q cur _ hq => b4.block q (Array.getElem?_eq_some_iff.1 hq).1)
  refine (Xpass_any (q1.below b4) d (fun t ht => ⟨hl t ht, (good_left hG c t ht).2⟩) hb (Nat.le_trans q3.size b4.size) r4 (by rw [List.length_take]; omega)).mono ?_
  rintro e w5 ⟨tv5, v5, rfl, x5, r5, k5, b5⟩
  obtain ⟨j1, j2⟩ := jump hr hG (fun t ht => by
    have h1 := hl (dtOf (now + c) t) (List.mem_map.2 ⟨t, ht, rfl⟩)
    have h2 : d ≤ t.due - (now + c) := h1
    have h3 := (pass_good hG (E := now + c) (by omega)).all t ht
    omega) hd
  rw [j1] at x5
  rw [j2] at r5
  refine ⟨tv5, rfl, v5, by rw [← Nat.add_assoc]; rw [← Nat.add_assoc] at x5; exact x5, r5, ?_⟩
  refine ⟨k5.os.trans (b4.os.trans q3.os), k5.tape.trans (b4.tape.trans q3.tape), k5.output.trans (b4.output.trans q3.output), Nat.le_trans q3.size (Nat.le_trans b4.size k5.size), fun k hk hne => ?_⟩
  have hk2 : k < wr.heap.size := Nat.lt_of_lt_of_le hk q3.size
  refine (k5.keep k (Nat.lt_of_lt_of_le hk2 b4.size) ?_).trans ((b4.block k hk2).trans (q3.block k hk hne))
  rintro (e | e)
  · exact hne (by rw [e])
  · have := own_base q2 e
    omega
end
set_option maxHeartbeats 4000000 in
theorem XTick_any {E now last : Nat} {ts : List Tm} {v : Value} {w : World} (h : Xw E (dts now ts) now last v w) (hr : Rise ts) (hG : Good now ts) (A m : Nat) (hA : min A 1048576 = m) (hnow : now < 576460752303423488) :
    Calls Try.prog 23 #[.pointer (some ⟨E, 0, none⟩), .int .u64 A] w fun e w' => ∃ tv, e = .returned tv ∧ TkX E now ts last w m tv w' := by
  have HT0 : Hid (TkX E now ts last w 0 (.slice (some ⟨w.heap.size, 0, none⟩) 0 0) (w.alloc (.cells #[] 3))) := by
    refine ⟨v, ?_, own_empty_e w 3 1, gb_any (one_alloc _ _) _⟩
    rw [Nat.add_zero, pass_id hG]
    exact h.below (one_alloc _ _)
  have HR : Hid (Rise ts ∧ Good now ts) := ⟨hr, hG⟩
  have hm1 : m ≤ 1048576 := by omega
  clear h hr hG
  by_cases hAm : 1048576 < A
  · have hgA : decide ((1048576 : Int) < (A : Int)) = true := by simp; omega
    have HM : Hid (1048576 = m) := by show 1048576 = m; omega
    clear hA
    go_enter Try.func23, Try.ntmps23
    go_wp2
    go_loopw [1, 5] (fun nv tvk x => ∃ c : Nat, c ≤ m ∧ nv = .int .u64 ((m - c : Nat) : Int) ∧ TkX E now ts last w c tvk x) (fun nv _ _ => (intOf nv).toNat)
    case atStart => exact ⟨0, by omega, by rw [Nat.sub_zero, ← HM.out]; rfl, HT0.out⟩
    case round =>
      obtain ⟨c, hc, rfl, hT⟩ := hrel
      clear HT0
      obtain ⟨r, hr⟩ : ∃ r, m - c = r := ⟨_, rfl⟩
      rw [hr]
      by_cases hr0 : 0 < r
      · have hgr : decide ((0 : Int) < (r : Int)) = true := by simp; omega
        obtain ⟨v', q1, q2, q3⟩ := hT
        have hN := XNext_any q1
        have hl := good_left HR.out.2 c
        have hle := fun t (ht : t ∈ dts (now + c) (passF (now + c) ts)) => lst_le ht
        have hin : dts (now + c) (passF (now + c) ts) ≠ [] → ∃ t ∈ dts (now + c) (passF (now + c) ts), lstN (dts (now + c) (passF (now + c) ts)) = t.left := lst_in
        have hT : TkX E now ts last w c u5 wr := ⟨v', q1, q2, q3⟩
        have HT := toHid2 hT
        clear q1 q2 q3
        have hemp : (dts (now + c) (passF (now + c) ts)).length = 0 → dts (now + c) (passF (now + c) ts) = [] := fun h => List.length_eq_zero_iff.1 h
        generalize hll : dts (now + c) (passF (now + c) ts) = l at *
        go_wp2_with fail
        refine hN.mono ?_
        rintro e w4 ⟨rfl, b4⟩
        clear hN
        by_cases hz : l.length = 0
        · have hlz := hemp hz
          have hdz : decide (0 < l.length) = false := by simp; omega
          rw [hdz]
          generalize lstN l = lst at *
          clear hin hemp
          have hS := hT.step HR.out.1 HR.out.2 b4 r (by omega) (by rw [hll, hlz]; intro t ht; cases ht) (by omega)
          have hsb : (r : Int) - (r : Int) = 0 := by omega
          clear hT b4 hl hle hll hlz
          go_wp2_with fail
          refine hS.mono ?_
          rintro e w5 ⟨tv5, rfl, T5⟩
          have HT5 := toHid2 T5
          clear hS T5
          go_wp2
          go_roundw
          case rel => exact ⟨c + r, by omega, by rw [show m - (c + r) = 0 by omega]; rfl, HT5.out⟩
          case measure => simp [intOf]; omega
        · have hdz : decide (0 < l.length) = true := by simp; omega
          rw [hdz]
          obtain ⟨t0, ht0, hlt0⟩ := hin (fun e => hz (by rw [e]; rfl))
          have hl1 := (hl t0 ht0).1
          have hl2 := (hl t0 ht0).2.1
          rw [← hlt0] at hl1 hl2
          generalize lstN l = lst at *
          clear hin hemp hlt0 ht0
          by_cases hgt : r < lst
          · have hdg : decide ((r : Int) < (lst : Int)) = true := by simp; omega
            have hS := hT.step HR.out.1 HR.out.2 b4 r (by omega) (by rw [hll]; intro t ht; have := hle t ht; omega) (by omega)
            have hsb : (r : Int) - (r : Int) = 0 := by omega
            clear hT b4 hl hle hll
            go_wp2_with fail
            refine hS.mono ?_
            rintro e w5 ⟨tv5, rfl, T5⟩
            have HT5 := toHid2 T5
            clear hS T5
            go_wp2
            go_roundw
            case rel => exact ⟨c + r, by omega, by rw [show m - (c + r) = 0 by omega]; rfl, HT5.out⟩
            case measure => simp [intOf]; omega
          · have hdg : decide ((r : Int) < (lst : Int)) = false := by simp; omega
            have hS := hT.step HR.out.1 HR.out.2 b4 lst (by omega) (by rw [hll]; exact hle) (by omega)
            have hsb : (r : Int) - (lst : Int) = ((r - lst : Nat) : Int) := by omega
            clear hT b4 hl hle hll
            go_wp2_with fail
            refine hS.mono ?_
            rintro e w5 ⟨tv5, rfl, T5⟩
            have HT5 := toHid2 T5
            clear hS T5
            obtain ⟨r2, hr2⟩ : ∃ x, r - lst = x := ⟨_, rfl⟩
            rw [hr2] at hsb
            go_wp2
            go_roundw
            case rel => exact ⟨c + lst, by omega, by rw [show m - (c + lst) = r2 by omega], HT5.out⟩
            case measure => simp [intOf]; omega
      · have hgr : decide ((0 : Int) < (r : Int)) = false := by simp; omega
        have HX : Hid (TkX E now ts last w m u5 wr) := by
          have : c = m := by omega
          rw [this] at hT
          exact hT
        clear hT
        go_wp2
        go_ret
        exact ⟨_, rfl, HX.out⟩
  · have hgA : decide ((1048576 : Int) < (A : Int)) = false := by simp; omega
    have hAm2 : A = m := by omega
    subst hAm2
    clear hA
    go_enter Try.func23, Try.ntmps23
    go_wp2
    go_loopw [1, 5] (fun nv tvk x => ∃ c : Nat, c ≤ A ∧ nv = .int .u64 ((A - c : Nat) : Int) ∧ TkX E now ts last w c tvk x) (fun nv _ _ => (intOf nv).toNat)
    case atStart => exact ⟨0, by omega, by rw [Nat.sub_zero], HT0.out⟩
    case round =>
      obtain ⟨c, hc, rfl, hT⟩ := hrel
      clear HT0
      obtain ⟨r, hr⟩ : ∃ r, A - c = r := ⟨_, rfl⟩
      rw [hr]
      by_cases hr0 : 0 < r
      · have hgr : decide ((0 : Int) < (r : Int)) = true := by simp; omega
        obtain ⟨v', q1, q2, q3⟩ := hT
        have hN := XNext_any q1
        have hl := good_left HR.out.2 c
        have hle := fun t (ht : t ∈ dts (now + c) (passF (now + c) ts)) => lst_le ht
        have hin : dts (now + c) (passF (now + c) ts) ≠ [] → ∃ t ∈ dts (now + c) (passF (now + c) ts), lstN (dts (now + c) (passF (now + c) ts)) = t.left := lst_in
        have hT : TkX E now ts last w c u5 wr := ⟨v', q1, q2, q3⟩
        have HT := toHid2 hT
        clear q1 q2 q3
        have hemp : (dts (now + c) (passF (now + c) ts)).length = 0 → dts (now + c) (passF (now + c) ts) = [] := fun h => List.length_eq_zero_iff.1 h
        generalize hll : dts (now + c) (passF (now + c) ts) = l at *
        go_wp2_with fail
        refine hN.mono ?_
        rintro e w4 ⟨rfl, b4⟩
        clear hN
        by_cases hz : l.length = 0
        · have hlz := hemp hz
          have hdz : decide (0 < l.length) = false := by simp; omega
          rw [hdz]
          generalize lstN l = lst at *
          clear hin hemp
          have hS := hT.step HR.out.1 HR.out.2 b4 r (by omega) (by rw [hll, hlz]; intro t ht; cases ht) (by omega)
          have hsb : (r : Int) - (r : Int) = 0 := by omega
          clear hT b4 hl hle hll hlz
          go_wp2_with fail
          refine hS.mono ?_
          rintro e w5 ⟨tv5, rfl, T5⟩
          have HT5 := toHid2 T5
          clear hS T5
          go_wp2
          go_roundw
          case rel => exact ⟨c + r, by omega, by rw [show A - (c + r) = 0 by omega]; rfl, HT5.out⟩
          case measure => simp [intOf]; omega
        · have hdz : decide (0 < l.length) = true := by simp; omega
          rw [hdz]
          obtain ⟨t0, ht0, hlt0⟩ := hin (fun e => hz (by rw [e]; rfl))
          have hl1 := (hl t0 ht0).1
          have hl2 := (hl t0 ht0).2.1
          rw [← hlt0] at hl1 hl2
          generalize lstN l = lst at *
          clear hin hemp hlt0 ht0
          by_cases hgt : r < lst
          · have hdg : decide ((r : Int) < (lst : Int)) = true := by simp; omega
            have hS := hT.step HR.out.1 HR.out.2 b4 r (by omega) (by rw [hll]; intro t ht; have := hle t ht; omega) (by omega)
            have hsb : (r : Int) - (r : Int) = 0 := by omega
            clear hT b4 hl hle hll
            go_wp2_with fail
            refine hS.mono ?_
            rintro e w5 ⟨tv5, rfl, T5⟩
            have HT5 := toHid2 T5
            clear hS T5
            go_wp2
            go_roundw
            case rel => exact ⟨c + r, by omega, by rw [show A - (c + r) = 0 by omega]; rfl, HT5.out⟩
            case measure => simp [intOf]; omega
          · have hdg : decide ((r : Int) < (lst : Int)) = false := by simp; omega
            have hS := hT.step HR.out.1 HR.out.2 b4 lst (by omega) (by rw [hll]; exact hle) (by omega)
            have hsb : (r : Int) - (lst : Int) = ((r - lst : Nat) : Int) := by omega
            clear hT b4 hl hle hll
            go_wp2_with fail
            refine hS.mono ?_
            rintro e w5 ⟨tv5, rfl, T5⟩
            have HT5 := toHid2 T5
            clear hS T5
            obtain ⟨r2, hr2⟩ : ∃ x, r - lst = x := ⟨_, rfl⟩
            rw [hr2] at hsb
            go_wp2
            go_roundw
            case rel => exact ⟨c + lst, by omega, by rw [show A - (c + lst) = r2 by omega], HT5.out⟩
            case measure => simp [intOf]; omega
      · have hgr : decide ((0 : Int) < (r : Int)) = false := by simp; omega
        have HX : Hid (TkX E now ts last w A u5 wr) := by
          have : c = A := by omega
          rw [this] at hT
          exact hT
        clear hT
        go_wp2
        go_ret
        exact ⟨_, rfl, HX.out⟩
end Go.Proofs.Ytjkkclojidhgdaa
