/- Contracts: Feed of a receiver. -/
import Derived.Test.YtebjofkblfmkmaaBkN4
namespace Go.Proofs.Ytebjofkblfmkmaa
open Go.RowKit Go.Proofs.Ty Go.Proofs.Bits
set_option linter.unusedVariables false
set_option maxRecDepth 1000000
set_option linter.unusedSimpArgs false
theorem rfeed_results {Q : Nat} {f : F8} {b : Bool} {w : World} (h : Qb Q f w) (tmps : Array Value) (h2 : tmps[4]?.getD undef = .pointer (some ⟨Q, 0, none⟩)) (h3 : tmps[5]?.getD undef = .bool b) :
    (results Try.f15 tmps).run Try.prog w = .ok (.tuple #[.agg f.arr, .bool b]) w := by
  have l0 := h.load
  simp [Go.results, Try.results15, h2, h3, asAddr, l0]
section
variable {R : Nat} {r t : Rc} {v u : Value} {w x : World}
/-- A call whose answer is handed on. -/
def Hand (w : World) (R q : Nat) (v : Value) (res : Option F8 × Rc) (ga : F8) (b : Bool) (w' : World) : Prop :=
  Qb q F8.nul w' ∧ Qb q ga (w'.setRow q ga.arr) ∧ RPost w R v res (.returned (.tuple #[.agg ga.arr, .bool b])) (w'.setRow q ga.arr)
theorem RPost.hand {V w' : World} {res : Option F8 × Rc} {e : Ending} {q : Nat} {rv : Rc} (hKV : Kp (rB R v) w V) (hRV : Rv R rv v V) (hQV : Qb q F8.nul V) (hqw : w.heap.size ≤ q) (hpost : RPost V R v res e w') : e = .returned (.tuple #[.agg (res.1.getD F8.nul).arr, .bool res.1.isSome]) ∧ Hand w R q v res (res.1.getD F8.nul) res.1.isSome w' := by
  have HH := RPost.fin hKV (fun b hb => .inl hb) hRV hQV hqw hpost
  have he := hpost.1
  subst he
  exact ⟨rfl, HH.1, HH.2 _⟩
set_option maxHeartbeats 8000000 in
theorem rFeed_any (h : Rv R r v w) (hok : r.Ok) (f : F8) : Calls Try.prog 15 #[.pointer (some ⟨R, 0, none⟩), .agg f.arr] w fun e w' => RPost w R v (rFeed r f) e w' := by
  obtain ⟨p, hp⟩ : ∃ p, w.heap.size = p := ⟨_, rfl⟩
  obtain ⟨W0, hW0⟩ : ∃ W, w.alloc (.cells f.arr 30) = W := ⟨_, rfl⟩
  have hW0s : W0.heap.size = p + 1 := by rw [← hW0, size_alloc, hp]
  obtain ⟨q, hq⟩ : ∃ q, W0.heap.size = q := ⟨_, rfl⟩
  obtain ⟨W, hW⟩ : ∃ W, W0.alloc (.cells zA8 30) = W := ⟨_, rfl⟩
  have b0 : Below w.heap.size w W := by
    rw [← hW, ← hW0]
    exact ((Below.refl _ _).alloc (Nat.le_refl _) _).alloc (by rw [size_alloc]; omega) _
  have p0 : Qb p f W := by
    rw [← hW]
    refine (Lib.alloc_old W0 _ p (by omega)).trans ?_
    rw [← hW0, ← hp]
    exact Qb.new w f
  have q0 : Qb q F8.nul W := by rw [← hW, ← hq]; exact heap_alloc_new W0 _
  have hqw : w.heap.size ≤ q := by omega
  have r0 := h.below b0
  have y0 := r0.c0
  have lf := p0.load
  have HS := hidOf2 r0
  have HP0 := hidOf2 p0
  have HQ0 := hidOf2 q0
  have HK := hidOf2 (Kp.of_below (bs := rB R v) b0)
  have HR : Hid (rFeed r f = if r.st = 1 then rTake r f
  else if r.st = 2 ∧ f.b0.toNat / 32 = 4 then (none, .fin (num4 f) [])
  else if r.st = 2 ∧ f.b0.toNat / 32 = 6 ∧ f.b0.toNat % 2 = 1 then rEnd r f
  else (none, r)) := rfl
  generalize rFeed r f = RS at *
  have HN : Hid (∀ V, Kp (rB R v) w V → Rv R r v V → Qb q F8.nul V → RS = (none, r) → Hand w R q v RS F8.nul false V) := fun V hk hr hqq e => by
    have := (RPost.hand (w := w) (V := V) (w' := V) (res := (none, r)) (e := .returned (ansV none)) hk hr hqq hqw (RPost.same hr (Kp.refl _ _))).2
    rw [e]
    exact this
  have hst := h.ok.st
  clear p0 q0 b0 r0 hW0s
  by_cases c1 : r.st = 1
  · have d1 : ((r.st : Int) == 1) = true := by simp; omega
    have hT : Calls Try.prog 33 #[.pointer (some ⟨R, 0, none⟩), .agg f.arr] W fun e w' => e = .returned (.tuple #[.agg (RS.1.getD F8.nul).arr, .bool RS.1.isSome]) ∧ Hand w R q v RS (RS.1.getD F8.nul) RS.1.isSome w' := by
      rw [show RS = rTake r f by rw [HR.out, if_pos c1]]
      exact (take_any HS.out hok c1 f).mono fun e w' hp => RPost.hand HK.out HS.out HQ0.out hqw hp
    clear HR HN
    generalize RS.1.getD F8.nul = ga at *
    generalize RS.1.isSome = bb at *
    go_enter Try.func15, Try.ntmps15
    go_upto_region 1 with fail
    first | (change Code.wp Try.prog _ _ _ ((w.alloc (.cells f.arr 30)).alloc (.cells zA8 30)); rw [hW0, hW]) | (change Code.wp Try.prog _ _ _ (W0.alloc (.cells zA8 30)); rw [hW]) | (change Code.wp Try.prog _ _ _ W)
    go_wp2_with (first | (refine ldG lf rfl _ rfl rfl ?_) | (go_at_call 33; refine hT.mono ?_; rintro e w3 ⟨rfl, q3, hz3, hp3⟩; have HZ := hidOf2 hz3; have HP := hidOf2 hp3; clear hz3 hp3) | (refine sdF (g := ga) q3 rfl _ _ rfl rfl rfl ?_))
    exact bodyPost_ret (rfeed_results HZ.out _ rfl rfl) rfl HP.out
  · have d1 : ((r.st : Int) == 1) = false := by simp; omega
    by_cases c2 : r.st = 2
    · have d2 : ((r.st : Int) == 2) = true := by simp; omega
      have hA := isAbort_any f W
      by_cases c3 : f.b0.toNat / 32 = 4
      · rw [decide_eq_true c3] at hA
        have e1 : RS = (none, .fin (num4 f) []) := by rw [HR.out, if_neg c1, if_pos ⟨c2, c3⟩]
        have HC := hidOf2 (fun y => codeOf_any f y)
        have hN := num4_lt f
        have HEN : Hid (∀ V, Rv R r v V → Kp (rB R v) w V → Qb q F8.nul V → Calls Try.prog 34 #[.pointer (some ⟨R, 0, none⟩), .int .u32 ((num4 f : Nat) : Int), .slice none 0 0] V fun e w' => e = .returned (.tuple #[]) ∧ Hand w R q v RS F8.nul false w') := fun V hr hk hqq => by
          have hE := rend_any hr (num4 f) (num4_lt f) [] (by simp) none 0 (World.ownsRow_nil _ _ _ _) (by simp)
          refine hE.mono fun e w' hp => ?_
          obtain ⟨he, hr', hk'⟩ := hp
          have := (RPost.hand (w := w) (V := V) (w' := w') (res := (none, .fin (num4 f) [])) (e := .returned (ansV none)) hk hr hqq hqw ⟨rfl, _, hr', hk'.more (by simp [rB]), fun b hb => by cases hb⟩).2
          rw [e1]
          exact ⟨he, this⟩
        clear HR e1 HN
        generalize num4 f = N at *
        go_enter Try.func15, Try.ntmps15
        go_upto_region 1 with fail
        first | (change Code.wp Try.prog _ _ _ ((w.alloc (.cells f.arr 30)).alloc (.cells zA8 30)); rw [hW0, hW]) | (change Code.wp Try.prog _ _ _ (W0.alloc (.cells zA8 30)); rw [hW]) | (change Code.wp Try.prog _ _ _ W)
        go_wp2_with (first | (refine ldG lf rfl _ rfl rfl ?_) | (go_at_call 21; refine hA.mono ?_; rintro e w1 ⟨rfl, b1⟩; have lf := (HP0.out.below b1).load; have y0 := (HS.out.below b1).c0; have HS1 := hidOf2 (HS.out.below b1); have HQ1 := hidOf2 (HQ0.out.below b1); have HK1 := hidOf2 (HK.out.trans (Kp.of_below b1)); have hC := HC.out w1; clear b1) | (go_at_call 23; refine hC.mono ?_; rintro e w2 ⟨rfl, b2⟩; have hE := HEN.out w2 (HS1.out.below b2) (HK1.out.trans (Kp.of_below b2)) (HQ1.out.below b2); clear b2) | (go_at_call 34; refine hE.mono ?_; rintro e w3 ⟨rfl, q3, hz3, hp3⟩; have HZ := hidOf2 hz3; have HP := hidOf2 hp3; clear hz3 hp3) | (refine sdF (g := F8.nul) q3 rfl _ _ rfl rfl rfl ?_))
        exact bodyPost_ret (rfeed_results HZ.out _ rfl rfl) rfl HP.out
      · rw [decide_eq_false c3] at hA
        have HI := hidOf2 (fun y => isEnd_any f y)
        by_cases c4 : f.b0.toNat / 32 = 6 ∧ f.b0.toNat % 2 = 1
        · have HI2 : Hid (∀ y, Calls Try.prog 35 #[.agg f.arr] y fun e w' => e = .returned (.bool true) ∧ Below y.heap.size y w') := fun y => by have := HI.out y; rwa [decide_eq_true c4] at this
          have HF : Hid (∀ V, Rv R r v V → Kp (rB R v) w V → Qb q F8.nul V → Calls Try.prog 36 #[.pointer (some ⟨R, 0, none⟩), .agg f.arr] V fun e w' => e = .returned (.tuple #[.agg (RS.1.getD F8.nul).arr, .bool RS.1.isSome]) ∧ Hand w R q v RS (RS.1.getD F8.nul) RS.1.isSome w') := fun V hr hk hqq => by
            rw [show RS = rEnd r f by rw [HR.out, if_neg c1, if_neg (fun hh => c3 hh.2), if_pos ⟨c2, c4⟩]]
            exact (finish_any hr hok c2 f).mono fun e w' hp => RPost.hand hk hr hqq hqw hp
          clear HR HN HI
          generalize RS.1.getD F8.nul = ga at *
          generalize RS.1.isSome = bb at *
          go_enter Try.func15, Try.ntmps15
          go_upto_region 1 with fail
          first | (change Code.wp Try.prog _ _ _ ((w.alloc (.cells f.arr 30)).alloc (.cells zA8 30)); rw [hW0, hW]) | (change Code.wp Try.prog _ _ _ (W0.alloc (.cells zA8 30)); rw [hW]) | (change Code.wp Try.prog _ _ _ W)
          go_wp2_with (first | (refine ldG lf rfl _ rfl rfl ?_) | (go_at_call 21; refine hA.mono ?_; rintro e w1 ⟨rfl, b1⟩; have lf := (HP0.out.below b1).load; have y0 := (HS.out.below b1).c0; have HS1 := hidOf2 (HS.out.below b1); have HQ1 := hidOf2 (HQ0.out.below b1); have HP1 := hidOf2 (HP0.out.below b1); have HK1 := hidOf2 (HK.out.trans (Kp.of_below b1)); have hI := HI2.out w1; clear b1) | (go_at_call 35; refine hI.mono ?_; rintro e w2 ⟨rfl, b2⟩; have lf := (HP1.out.below b2).load; have hE := HF.out w2 (HS1.out.below b2) (HK1.out.trans (Kp.of_below b2)) (HQ1.out.below b2); clear b2) | (go_at_call 36; refine hE.mono ?_; rintro e w3 ⟨rfl, q3, hz3, hp3⟩; have HZ := hidOf2 hz3; have HP := hidOf2 hp3; clear hz3 hp3) | (refine sdF (g := ga) q3 rfl _ _ rfl rfl rfl ?_))
          exact bodyPost_ret (rfeed_results HZ.out _ rfl rfl) rfl HP.out
        · have HI2 : Hid (∀ y, Calls Try.prog 35 #[.agg f.arr] y fun e w' => e = .returned (.bool false) ∧ Below y.heap.size y w') := fun y => by have := HI.out y; rwa [decide_eq_false c4] at this
          have e1 : RS = (none, r) := by rw [HR.out, if_neg c1, if_neg (fun hh => c3 hh.2), if_neg (fun hh => c4 hh.2)]
          have HE := hidOf2 e1
          clear HR HI e1
          go_enter Try.func15, Try.ntmps15
          go_upto_region 1 with fail
          first | (change Code.wp Try.prog _ _ _ ((w.alloc (.cells f.arr 30)).alloc (.cells zA8 30)); rw [hW0, hW]) | (change Code.wp Try.prog _ _ _ (W0.alloc (.cells zA8 30)); rw [hW]) | (change Code.wp Try.prog _ _ _ W)
          go_wp2_with (first | (refine ldG lf rfl _ rfl rfl ?_) | (go_at_call 21; refine hA.mono ?_; rintro e w1 ⟨rfl, b1⟩; have lf := (HP0.out.below b1).load; have y0 := (HS.out.below b1).c0; have HS1 := hidOf2 (HS.out.below b1); have HQ1 := hidOf2 (HQ0.out.below b1); have HK1 := hidOf2 (HK.out.trans (Kp.of_below b1)); have hI := HI2.out w1; clear b1) | (go_at_call 35; refine hI.mono ?_; rintro e w2 ⟨rfl, b2⟩; have HH := HN.out w2 (HK1.out.trans (Kp.of_below b2)) (HS1.out.below b2) (HQ1.out.below b2) HE.out; have q3 := HH.1; have HZ := hidOf2 HH.2.1; have HP := hidOf2 HH.2.2; clear HH b2) | (refine sdF (g := F8.nul) q3 rfl _ _ rfl rfl rfl ?_))
          exact bodyPost_ret (rfeed_results HZ.out _ rfl rfl) rfl HP.out
    · have d2 : ((r.st : Int) == 2) = false := by simp; omega
      have e1 : RS = (none, r) := by rw [HR.out, if_neg c1, if_neg (fun hh => c2 hh.1), if_neg (fun hh => c2 hh.1)]
      have HH := HN.out W HK.out HS.out HQ0.out e1
      have q3 := HH.1
      have HZ := hidOf2 HH.2.1
      have HP := hidOf2 HH.2.2
      clear HH HR e1 HN
      go_enter Try.func15, Try.ntmps15
      go_upto_region 1 with fail
      first | (change Code.wp Try.prog _ _ _ ((w.alloc (.cells f.arr 30)).alloc (.cells zA8 30)); rw [hW0, hW]) | (change Code.wp Try.prog _ _ _ (W0.alloc (.cells zA8 30)); rw [hW]) | (change Code.wp Try.prog _ _ _ W)
      go_wp2_with (first | (refine sdF (g := F8.nul) q3 rfl _ _ rfl rfl rfl ?_))
      exact bodyPost_ret (rfeed_results HZ.out _ rfl rfl) rfl HP.out
end
end Go.Proofs.Ytebjofkblfmkmaa
