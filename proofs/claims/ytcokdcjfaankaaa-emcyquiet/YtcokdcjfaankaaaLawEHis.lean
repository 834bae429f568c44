/- The law EmcyHistory returns true whatever errors come in. -/
import Derived.Test.YtcokdcjfaankaaaEmQ
namespace Go.Proofs.Ytcokdcjfaankaaa
open Go.RowKit
set_option linter.unusedVariables false
set_option maxRecDepth 1000000
set_option linter.unusedSimpArgs false
/-- The law's own row of what was raised, beside a teller. -/
structure HI (p g n k : Nat) (w x : World) (s : Te) (R : List Tr) (rv : Value) : Prop where
  pt : Pt g (fun z => p ≤ z ∧ rv.ownBlock ≠ some z) s x
  own : x.ownsRow 0 37 7 rv R.length (flatW DT R)
  old : ∀ z, rv.ownBlock = some z → p ≤ z
  below : Below p w x
  hist : s.hist = n
  past : s.past = R.take n
  len : s.now.length ≤ k
  rlen : R.length ≤ k
theorem HI.fit {p g n k : Nat} {w x : World} {s : Te} {R : List Tr} {rv : Value} (h : HI p g n k w x s R rv) : s.Fit := by
  unfold Te.Fit
  rw [h.past, h.hist, List.length_take]
  omega
theorem HI.room {p g n k : Nat} {w x : World} {s : Te} {R : List Tr} {rv : Value} (h : HI p g n k w x s R rv) (hp : p ≤ x.heap.size) : ∀ z, x.heap.size ≤ z → p ≤ z ∧ rv.ownBlock ≠ some z := fun z hz => ⟨by omega, fun e => by have := (own_lt2 h.own e).2; omega⟩
/-- A call changes the teller alone. -/
theorem HI.call {p g n k k' : Nat} {w x y : World} {s t : Te} {R : List Tr} {rv : Value} (h : HI p g n k w x s R rv) (hp : p ≤ x.heap.size) (h1 : Pt g (fun z => p ≤ z ∧ rv.ownBlock ≠ some z) t y) (h2 : Kq (fun z => p ≤ z ∧ rv.ownBlock ≠ some z) x y) (e1 : t.hist = s.hist) (e2 : t.past = s.past) (e3 : t.now.length ≤ k') (hk : k ≤ k') : HI p g n k' w y t R rv :=
  ⟨h1, own_kq h.own h2 (fun z e hz => hz.2 e), h.old, h2.below h.below hp (fun z hz => hz.1), e1.trans h.hist, e2.trans h.past, e3, by have := h.rlen; omega⟩
theorem Te.clear_hist (s : Te) (c : Nat) : (s.clear c).hist = s.hist ∧ (s.clear c).past = s.past := by
  unfold Te.clear
  split <;> exact ⟨rfl, rfl⟩
theorem Te.raise_hist (s : Te) (x : Tr) : (s.raise x).hist = s.hist := by
  unfold Te.raise
  split <;> rfl
theorem own_one (w : World) (t : Tr) : (w.alloc (.cells t.arr 37)).ownsRow w.heap.size 37 7 (.slice (some ⟨w.heap.size, 0, none⟩) 1 1) [t].length (flatW DT [t]) := by
  refine ⟨by rw [flatW_len]; rfl, .inr ⟨w.heap.size, 1, t.arr, rfl, Nat.le_refl _, heap_alloc_new w _, Nat.le_refl _, by decide, rfl, ?_⟩⟩
  show t.arr.toList.take 7 = flatW DT [t]
  simp [flatW, DT, Tr.arr, Tr.cs]
theorem HI.below_size {p g n k : Nat} {w x : World} {s : Te} {R : List Tr} {rv : Value} (h : HI p g n k w x s R rv) (hp : p = w.heap.size := by omega) : p ≤ x.heap.size := by rw [hp]; exact h.below.size
/-- One more was raised. -/
theorem HI.more {p g n k : Nat} {w x y z : World} {s : Te} {R : List Tr} {rv rv' : Value} {t : Tr} (h : HI p g n k w x s R rv) (hp : p ≤ x.heap.size) (hc : s.can t = true) (h1 : Pt g (fun z => p ≤ z ∧ rv.ownBlock ≠ some z) (s.raise t) y) (h2 : Kq (fun z => p ≤ z ∧ rv.ownBlock ≠ some z) x y) (ho : z.ownsRow y.heap.size 37 7 rv' (R.length + 1) (flatW DT (t :: R))) (hb : Below y.heap.size y z) : HI p g n (k + 1) w z (s.raise t) (t :: R) rv' := by
  have hnew : ∀ q, rv'.ownBlock = some q → y.heap.size ≤ q := fun q e => (own_lt2 ho e).1
  have hpy : p ≤ y.heap.size := Nat.le_trans hp h2.size
  refine ⟨(h1.wide (fun q hq hP => ⟨hP.1, fun e => by have := hnew q e; omega⟩)).below hb, own_lower ho (Nat.zero_le _), fun q e => Nat.le_trans hpy (hnew q e), ?_, (Te.raise_hist s t).trans h.hist, ?_, ?_, by simpa using h.rlen⟩
  · exact (h2.below h.below hp (fun z hz => hz.1)).trans (hb.mono hpy)
  · have : (s.raise t).past = (t :: s.past).take s.hist := by unfold Te.raise; rw [hc]; rfl
    rw [this, h.past, h.hist]
    cases n with
    | zero => rfl
    | succ n => rw [List.take_succ_cons, List.take_succ_cons, List.take_take]; congr 2; omega
  · have := Te.raise_len s t
    have := h.len
    omega
theorem Te.raise_no {s : Te} {x : Tr} (h : s.can x = false) : s.raise x = s := by unfold Te.raise; rw [h]; rfl
set_option maxHeartbeats 4000000 in
theorem ehis_walk (a : Nat) (ha : a < 256) (v : Value) (l : List Tr) (hl : l.length ≤ 17592186043904) (w : World) (hB : Wide 7 Tr.cs w v l) :
    Calls Try.prog 5 #[.int .u8 a, v] w fun r w' => r = .returned (.bool true) ∧ Below w.heap.size w w' := by
  obtain ⟨ao, cap, rfl, _, hc⟩ := hB
  obtain ⟨p, hp⟩ : ∃ p, w.heap.size = p := ⟨_, rfl⟩
  have HC : Hid (∀ (wr : World), Below p w wr → ∀ k (hk : k < l.length), ∃ b off, ao = some ⟨b, off, none⟩ ∧ b < p ∧ wr.rangeAt b (off + k * 7) (Tr.cs l[k])) := fun wr hb k hk => by rw [← hp] at hb ⊢; exact Wide.at hc hb k hk
  clear hc
  obtain ⟨n, hn⟩ : ∃ n : Nat, 1 + a % 254 = n := ⟨_, rfl⟩
  have hn1 : 1 ≤ n := by omega
  have hn2 : n ≤ 254 := by omega
  have e1 : (1 : Int) + (a : Int) % 254 = (n : Int) := by omega
  have hN : Calls Try.prog 7 #[.int .i64 (n : Int), .int .u64 0] w fun e w' => e = .returned (.tuple #[.pointer (some ⟨p, 0, none⟩), .int .i64 0]) ∧ Pt p (fun z => p ≤ z) ⟨n, 0, [], [], [], 0⟩ w' ∧ Below p w w' := by
    rw [← hp]
    exact newP n 0 hn1 hn2 (by decide) w _ (Nat.le_refl _)
  rw [hp]
  go_enter Try.func5, Try.ntmps5
  go_upto_region 5 with (go_at_call 7; refine hN.mono ?_; rintro e w1 ⟨rfl, t1, b1⟩)
  obtain ⟨w2, hw2⟩ : ∃ y, w1.alloc (.cells #[] 37) = y := ⟨_, rfl⟩
  have HI0 : Hid (HI p p n 0 w w2 ⟨n, 0, [], [], [], 0⟩ [] (.slice (some ⟨w1.heap.size, 0, none⟩) 0 0)) := by
    have bb : Below w1.heap.size w1 w2 := by rw [← hw2]; exact (Below.refl _ _).alloc (Nat.le_refl _) _
    have hpw := b1.size
    refine ⟨(t1.wide (fun q hq hP => ⟨hP, fun e => by simp [Value.ownBlock] at e; omega⟩)).below bb, ?_, fun q e => by simp [Value.ownBlock] at e; omega, b1.trans (bb.mono (by omega)), rfl, by simp, Nat.zero_le _, Nat.zero_le _⟩
    rw [← hw2]
    have := own_empty_e w1 37 7
    exact own_lower (by simpa [flatW] using this) (Nat.zero_le _)
  clear t1 b1 hN
  go_upto_region 6 with (refine wpList_plain rfl fun K hK => ?_; refine wp_bs0g Try.underlying30 infoT rfl ?_; refine hK _ _ ?_)
  clear hw2
  generalize (w1.heap.size) = q0 at *
  go_wp2_with fail
  go_loopw [8, 9] (fun rv iv x => ∃ k s R, k ≤ l.length ∧ iv = .int .i64 (k : Nat) ∧ HI p p n k w x s R rv) (fun _ iv _ => l.length - (intOf iv).toNat)
  case atStart => exact ⟨0, _, [], by omega, rfl, HI0.out⟩
  case round =>
    clear HI0
    obtain ⟨k, s, R, hk, rfl, hI⟩ := hrel
    rename_i rv _
    have hB5 := hI.below
    have hsz := hB5.size
    have hpr : p ≤ wr.heap.size := by omega
    obtain ⟨ar, cr, hrv⟩ := own_shape5 hI.own
    subst hrv
    by_cases hkl : k < l.length
    · have hd : decide ((k : Int) < (l.length : Int)) = true := by simp; omega
      obtain ⟨b, off, rfl, hb, hR⟩ := HC.out wr hB5 k hkl
      have HR := hidOf2 (fun (y : World) (hy : Below p w y) => show y.rangeAt b (off + k * 7) l[k].cs from by
        obtain ⟨b', off', e, _, h9⟩ := HC.out y hy k hkl
        injection e with e; injection e with e1 e2; subst e1; subst e2; exact h9)
      have hl9 := hI.len
      have hr9 := hI.rlen
      have hRa := raiseP hI.pt (hI.room hpr) (by omega) hI.fit l[k]
      obtain ⟨t, ht⟩ : ∃ t, l[k] = t := ⟨_, rfl⟩
      rw [ht] at hR HR hRa
      have hmod : (k : Int) % 3 = ((k % 3 : Nat) : Int) := by omega
      have hdm : decide (((k % 3 : Nat) : Int) = 0) = decide (k % 3 = 0) := by simp; omega
      cases hcan : s.can t with
      | false =>
        rw [hcan, Te.raise_no hcan] at hRa
        by_cases hm : (k : Int) % 3 = 0
        · have hm1 : ((k : Int) % 3 == 0) = true := by simp [hm]
          clear hm hmod hdm
          go_wp2_with (first | (refine Tr.ld hR rfl _ rfl rfl ?_) | (go_at_call 9; refine hRa.mono ?_; rintro e w3 ⟨rfl, t3, k3⟩; have I3 := hI.call (k' := k + 1) hpr t3 k3 rfl rfl (by omega) (by omega); have r3 := (HR.out w3 I3.below) 0 (.int .u16 t.c) rfl; have hC3 := clearP I3.pt (I3.room (Nat.le_trans hpr k3.size)) (by omega) t.c; rw [Nat.add_zero] at r3) | (go_at_call 11; refine hC3.mono ?_; rintro e w4 ⟨rfl, t4, k4⟩; have I4 := I3.call (k' := k + 1) (by have := I3.below.size; omega) t4 k4 (Te.clear_hist _ _).1 (Te.clear_hist _ _).2 (Nat.le_trans (Te.clear_len _ _) (by omega)) (by omega)))
          go_roundw
          case measure => simp [intOf]; omega
          case rel => exact ⟨k + 1, _, R, by omega, rfl, I4⟩
        · have hm1 : ((k : Int) % 3 == 0) = false := by simp [hm]
          clear hm hmod hdm
          go_wp2_with (first | (refine Tr.ld hR rfl _ rfl rfl ?_) | (go_at_call 9; refine hRa.mono ?_; rintro e w3 ⟨rfl, t3, k3⟩; have I3 := hI.call (k' := k + 1) hpr t3 k3 rfl rfl (by omega) (by omega); have r3 := (HR.out w3 I3.below) 0 (.int .u16 t.c) rfl; have hC3 := clearP I3.pt (I3.room (Nat.le_trans hpr k3.size)) (by omega) t.c; rw [Nat.add_zero] at r3))
          go_roundw
          case measure => simp [intOf]; omega
          case rel => exact ⟨k + 1, _, R, by omega, rfl, I3⟩
      | true =>
        rw [hcan] at hRa
        by_cases hm : (k : Int) % 3 = 0
        · have hm1 : ((k : Int) % 3 == 0) = true := by simp [hm]
          clear hm hmod hdm
          go_upto_region 10 with (first | (refine Tr.ld hR rfl _ rfl rfl ?_) | (go_at_call 9; refine hRa.mono ?_; rintro e w3 ⟨rfl, t3, k3⟩))
          have hB3 := k3.below hB5 hpr (fun z hz => hz.1)
          have hs3 := hB3.size
          have hR3 := HR.out w3 hB3
          obtain ⟨q3, hq3⟩ : ∃ q, w3.heap.size = q := ⟨_, rfl⟩
          obtain ⟨w5, hw5⟩ : ∃ y, w3.alloc (.cells t.arr 37) = y := ⟨_, rfl⟩
          have b5 : Below w3.heap.size w3 w5 := by rw [← hw5]; exact (Below.refl _ _).alloc (Nat.le_refl _) _
          have o5 : w5.ownsRow q3 37 7 (.slice (some ⟨q3, 0, none⟩) 1 1) [t].length (flatW DT [t]) := by rw [← hw5, ← hq3]; exact own_one w3 t
          have W5 : Wide 7 Tr.cs w5 (.slice ar R.length cr) R := wide_of_own DT (own_belowE (own_kq hI.own k3 (fun z e hz => hz.2 e)) b5)
          have hs5 : q3 ≤ w5.heap.size := by have := b5.size; omega
          go_upto_region 11 with (first | (refine Tr.ld hR3 rfl _ rfl rfl ?_) | (refine one_bs DT t 30 37 _ 8 rfl _ rfl rfl Try.underlying30 infoT (by decide) ?_; change wpList _ _ _ _ _ (w3.alloc (.cells t.arr 37)); rw [hw5, hq3]) | (at_builtin; go_loud (refine wpList_plain rfl fun K hK => ?_; refine wp_append_wide DT _ _ 30 37 _ 8 Try.underlying30 infoT rfl rfl q3 _ [t] rfl (by exact o5) _ R rfl (by exact W5) (by unfold maxLen; simp; omega) (by simp; omega) hs5 ?_; intro v6 w6 o6 g6; refine hK _ _ ?_)))
          have e9 : ([t] ++ R).length = R.length + 1 := by simp
          rw [e9] at o6
          have hl5 : ∀ z, (Value.slice (some ⟨q3, 0, none⟩) 1 1).ownBlock = some z → w3.heap.size ≤ z := fun z e => by rw [hq3]; exact own_lt o5 z e
          have b6 : Below w3.heap.size w3 w6 := b5.grown g6 b5.size hl5
          have I3 := hI.more (z := w6) (rv' := v6) hpr hcan t3 k3 (by rw [hq3]; exact o6) b6
          have r3 := (HR.out w6 I3.below) 0 (.int .u16 t.c) rfl
          have hC3 := clearP I3.pt (I3.room I3.below_size) (by have := I3.len; omega) t.c
          rw [Nat.add_zero] at r3
          obtain ⟨a6, c6, hv6⟩ := own_shape5 I3.own
          subst hv6
          clear b5 o5 W5 hs5 g6 o6 hw5 hs3 hR3
          go_wp2_with ((go_at_call 11; refine hC3.mono ?_; rintro e w4 ⟨rfl, t4, k4⟩; have I4 := I3.call (k' := k + 1) I3.below_size t4 k4 (Te.clear_hist _ _).1 (Te.clear_hist _ _).2 (Nat.le_trans (Te.clear_len _ _) I3.len) (Nat.le_refl _)))
          go_roundw
          case measure => simp [intOf]; omega
          case rel => exact ⟨k + 1, _, (t :: R), by omega, rfl, I4⟩
        · have hm1 : ((k : Int) % 3 == 0) = false := by simp [hm]
          clear hm hmod hdm
          go_upto_region 10 with (first | (refine Tr.ld hR rfl _ rfl rfl ?_) | (go_at_call 9; refine hRa.mono ?_; rintro e w3 ⟨rfl, t3, k3⟩))
          have hB3 := k3.below hB5 hpr (fun z hz => hz.1)
          have hs3 := hB3.size
          have hR3 := HR.out w3 hB3
          obtain ⟨q3, hq3⟩ : ∃ q, w3.heap.size = q := ⟨_, rfl⟩
          obtain ⟨w5, hw5⟩ : ∃ y, w3.alloc (.cells t.arr 37) = y := ⟨_, rfl⟩
          have b5 : Below w3.heap.size w3 w5 := by rw [← hw5]; exact (Below.refl _ _).alloc (Nat.le_refl _) _
          have o5 : w5.ownsRow q3 37 7 (.slice (some ⟨q3, 0, none⟩) 1 1) [t].length (flatW DT [t]) := by rw [← hw5, ← hq3]; exact own_one w3 t
          have W5 : Wide 7 Tr.cs w5 (.slice ar R.length cr) R := wide_of_own DT (own_belowE (own_kq hI.own k3 (fun z e hz => hz.2 e)) b5)
          have hs5 : q3 ≤ w5.heap.size := by have := b5.size; omega
          go_upto_region 11 with (first | (refine Tr.ld hR3 rfl _ rfl rfl ?_) | (refine one_bs DT t 30 37 _ 8 rfl _ rfl rfl Try.underlying30 infoT (by decide) ?_; change wpList _ _ _ _ _ (w3.alloc (.cells t.arr 37)); rw [hw5, hq3]) | (at_builtin; go_loud (refine wpList_plain rfl fun K hK => ?_; refine wp_append_wide DT _ _ 30 37 _ 8 Try.underlying30 infoT rfl rfl q3 _ [t] rfl (by exact o5) _ R rfl (by exact W5) (by unfold maxLen; simp; omega) (by simp; omega) hs5 ?_; intro v6 w6 o6 g6; refine hK _ _ ?_)))
          have e9 : ([t] ++ R).length = R.length + 1 := by simp
          rw [e9] at o6
          have hl5 : ∀ z, (Value.slice (some ⟨q3, 0, none⟩) 1 1).ownBlock = some z → w3.heap.size ≤ z := fun z e => by rw [hq3]; exact own_lt o5 z e
          have b6 : Below w3.heap.size w3 w6 := b5.grown g6 b5.size hl5
          have I3 := hI.more (z := w6) (rv' := v6) hpr hcan t3 k3 (by rw [hq3]; exact o6) b6
          have r3 := (HR.out w6 I3.below) 0 (.int .u16 t.c) rfl
          have hC3 := clearP I3.pt (I3.room I3.below_size) (by have := I3.len; omega) t.c
          rw [Nat.add_zero] at r3
          obtain ⟨a6, c6, hv6⟩ := own_shape5 I3.own
          subst hv6
          clear b5 o5 W5 hs5 g6 o6 hw5 hs3 hR3
          go_wp2
          go_roundw
          case measure => simp [intOf]; omega
          case rel => exact ⟨k + 1, _, (t :: R), by omega, rfl, I3⟩
    · obtain rfl : k = l.length := by omega
      have hd : decide ((l.length : Int) < (l.length : Int)) = false := by simp
      have hH := histP hI.pt
      rw [hI.past] at hH
      have hr9 := hI.rlen
      by_cases hrn : n < R.length
      · have hd2 : decide ((n : Int) < (R.length : Int)) = true := by simp; omega
        obtain ⟨gR, cR, cur, hsl, _, _, hcR, _⟩ := own_row hI.own (by omega)
        injection hsl with e2 _ e3
        subst e2 e3
        have ct := cut_to Try.underlying30 infoT gR R.length cr n (by omega)
        have hl9 : (R.take n).length = n := by rw [List.length_take]; omega
        have HW : Hid (∀ y, Below wr.heap.size wr y → Wide 7 Tr.cs y (.slice (some ⟨gR, 0, none⟩) n cr) (R.take n)) := fun y hy => by
          obtain ⟨v', h1, _, h3⟩ := own_cut (D := DT) hI.own n (by omega)
          cases v' with
          | slice a' m' c' =>
            simp only at h1
            obtain ⟨rfl, rfl, rfl⟩ := h1
            exact wide_of_own DT (own_belowE h3 hy)
          | _ => exact absurd h1 (by simp)
        have hRb : (R.take n).length ≤ 2305843009213693951 := by omega
        clear HC hI hl9
        generalize R.take n = R' at *
        go_wp2_with (first | (go_at_call 21; refine hH.mono ?_; rintro e w4 ⟨a4, c4, rfl, W4, b4⟩) | (go_at_call 20; refine (same_any _ _ R' w4 W4 (HW.out w4 b4) hRb).mono ?_; rintro e w5 ⟨rfl, m, hw5⟩; rw [hw5]) | (go_at_call 8; refine (lives_any _).mono ?_; rintro e w6 ⟨rfl, b6⟩))
        go_ret
        exact ⟨rfl, hB5.trans ((b4.trans ((below_drawn (Below.refl _ w4) m |>.trans b6).mono b4.size)).mono hpr)⟩
      · have hd2 : decide ((n : Int) < (R.length : Int)) = false := by simp; omega
        have hRt : R.take n = R := List.take_of_length_le (by omega)
        rw [hRt] at hH
        have HW : Hid (∀ y, Below wr.heap.size wr y → Wide 7 Tr.cs y (.slice ar R.length cr) R) := fun y hy => wide_of_own DT (own_belowE hI.own hy)
        have hRb : R.length ≤ 2305843009213693951 := by omega
        clear HC hI hRt
        go_wp2_with (first | (go_at_call 21; refine hH.mono ?_; rintro e w4 ⟨a4, c4, rfl, W4, b4⟩) | (go_at_call 20; refine (same_any _ _ R w4 W4 (HW.out w4 b4) hRb).mono ?_; rintro e w5 ⟨rfl, m, hw5⟩; rw [hw5]) | (go_at_call 8; refine (lives_any _).mono ?_; rintro e w6 ⟨rfl, b6⟩))
        go_ret
        exact ⟨rfl, hB5.trans ((b4.trans ((below_drawn (Below.refl _ w4) m |>.trans b6).mono b4.size)).mono hpr)⟩
theorem ehis_int (a : Int) (v : Value) (l : List Tr) (ha : 0 ≤ a ∧ a < 256) (hl : l.length ≤ 17592186043904) (w : World) (hB : Wide 7 Tr.cs w v l) : Calls Try.prog 5 #[.int .u8 a, v] w fun r w' => r = .returned (.bool true) ∧ Below w.heap.size w w' := by
  obtain ⟨n, rfl⟩ : ∃ n : Nat, a = (n : Int) := ⟨a.toNat, by omega⟩
  exact ehis_walk n (by omega) v l hl w hB
end Go.Proofs.Ytcokdcjfaankaaa
