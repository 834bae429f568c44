/- Contracts: Feed and Begin of a sender. -/
import Derived.Test.YtebjofkblfmkmaaBkF1
namespace Go.Proofs.Ytebjofkblfmkmaa
open Go.RowKit Go.Proofs.Ty Go.Proofs.Bits
set_option linter.unusedVariables false
set_option maxRecDepth 1000000
set_option linter.unusedSimpArgs false
section
variable {S : Nat} {s t : Sn} {ao ap : Option Addr} {cp cq : Nat} {w x : World}
theorem SPost.back {V : World} {r : List F8 × Sn} {e : Ending} {w' : World} (hK : Kp [S] w V) (h : SPost V S ao cp r e w') : SPost w S ao cp r e w' := by
  obtain ⟨v, aq, cq, he, hl, hs, hk, ho⟩ := h
  exact ⟨v, aq, cq, he, hl.low hK.size, hs, hK.trans hk, ho⟩
set_option maxHeartbeats 8000000 in
theorem sFeed_any (h : Sd S s ao cp w) (hok : s.Ok) (a : F8) : Calls Try.prog 8 #[.pointer (some ⟨S, 0, none⟩), .agg a.arr] w fun e w' => SPost w S ao cp (sFeed s a) e w' := by
  obtain ⟨V, hV⟩ : ∃ V, w.alloc (.cells a.arr 30) = V := ⟨_, rfl⟩
  have b0 : Below w.heap.size w V := by rw [← hV]; exact (Below.refl _ _).alloc (Nat.le_refl _) _
  obtain ⟨q, hq⟩ : ∃ q, w.heap.size = q := ⟨_, rfl⟩
  have q0 : Qb q a V := by rw [← hV, ← hq]; exact Qb.new w a
  have s0 := h.below b0
  have HS := hidOf2 s0
  have HK := hidOf2 (Kp.of_below (bs := [S]) b0)
  have y0 := s0.c0
  have hst := h.ok.st
  have HR : Hid (sFeed s a = if s.st = 0 ∨ s.st = 3 then ([], s)
    else if a.b0.toNat / 32 = 4 then ([], .fin (num4 a))
    else if s.st = 1 then sAns s a
    else if a.b0.toNat ≠ 161 then sGive 84148225
    else ([], .fin 0)) := rfl
  generalize sFeed s a = RS at *
  have HP0 : Hid (∀ y, Kp [S] w y → Sd S s ao cp y → RS = ([], s) → SPost w S ao cp RS (.returned (.slice none 0 0)) y) := fun y hk hs e => by
    show SPost _ _ _ _ _ _ _
    rw [e]
    exact ⟨_, ao, cp, rfl, Lf.nil _ _, hs, hk, .inl ⟨rfl, rfl⟩⟩
  by_cases c0 : s.st = 0 ∨ s.st = 3
  · have HP := hidOf2 (HP0.out V HK.out HS.out (by rw [HR.out, if_pos c0]))
    clear HP0 HR s0 b0 q0 HS HK h hok
    rcases c0 with c0 | c0
    · have d : ((s.st : Int) == 0) = true := by simp; omega
      go_enter Try.func8, Try.ntmps8
      go_wp2
      go_ret
      exact HP.out
    · have d : ((s.st : Int) == 0) = false := by simp; omega
      have d3 : ((s.st : Int) == 3) = true := by simp; omega
      go_enter Try.func8, Try.ntmps8
      go_wp2
      go_ret
      exact HP.out
  · have d0 : ((s.st : Int) == 0) = false := by simp; omega
    have d3 : ((s.st : Int) == 3) = false := by simp; omega
    have hA := isAbort_any a V
    have HQ := hidOf2 q0
    have lq := q0.load
    by_cases c1 : a.b0.toNat / 32 = 4
    · have e1 : RS = ([], .fin (num4 a)) := by rw [HR.out, if_neg c0, if_pos c1]
      rw [decide_eq_true c1] at hA
      have HC := hidOf2 (fun y => codeOf_any a y)
      have hN := num4_lt a
      have HE1 := hidOf2 e1
      clear HR e1 s0 b0 q0 h hok c1 c0 HP0
      generalize num4 a = N at *
      go_enter Try.func8, Try.ntmps8
      go_wp2_with (first | (refine ldG lq rfl _ rfl rfl ?_) | (go_at_call 21; refine hA.mono ?_; rintro e w1 ⟨rfl, b1⟩; have lq := (HQ.out.below b1).load; have HS1 := hidOf2 (HS.out.below b1); have HK1 := hidOf2 (HK.out.trans (Kp.of_below b1)); clear b1; have hC := HC.out w1) | (go_at_call 23; refine hC.mono ?_; rintro e w2 ⟨rfl, b2⟩; have hE := end_any (HS1.out.below b2) N hN; have HK2 := hidOf2 (HK1.out.trans (Kp.of_below b2)); clear b2) | (go_at_call 22; refine hE.mono ?_; rintro e w3 ⟨rfl, s3, k3⟩))
      go_ret
      show SPost _ _ _ _ _ _ _
      rw [HE1.out]
      exact ⟨_, none, 0, rfl, Lf.nil _ _, s3, HK2.out.trans k3, .inr ⟨rfl, rfl⟩⟩
    · rw [decide_eq_false c1] at hA
      by_cases c2 : s.st = 1
      · have e1 : RS = sAns s a := by rw [HR.out, if_neg c0, if_neg c1, if_pos c2]
        have d1 : ((s.st : Int) == 1) = true := by simp; omega
        have HAN : Hid (∀ y, Sd S s ao cp y → Kp [S] w y → Calls Try.prog 24 #[.pointer (some ⟨S, 0, none⟩), .agg a.arr] y fun e w' => ∃ v, e = .returned v ∧ SPost w S ao cp RS (.returned v) w') := fun y hy hk => (answered_any hy hok c2 a).mono fun e w' hp => by
          obtain ⟨v, aq, cq, rfl, hr⟩ := hp
          exact ⟨v, rfl, by rw [e1]; exact SPost.back hk ⟨v, aq, cq, rfl, hr⟩⟩
        clear HR e1 s0 b0 q0 h hok c1 c0 HP0 c2
        go_enter Try.func8, Try.ntmps8
        go_wp2_with (first | (refine ldG lq rfl _ rfl rfl ?_) | (go_at_call 21; refine hA.mono ?_; rintro e w1 ⟨rfl, b1⟩; have lq := (HQ.out.below b1).load; have y0 := (HS.out.below b1).c0; have hAN := HAN.out w1 (HS.out.below b1) (HK.out.trans (Kp.of_below b1)); clear b1) | (go_at_call 24; refine hAN.mono ?_; rintro e w2 ⟨v, rfl, hp⟩))
        go_ret
        exact hp
      · have d1 : ((s.st : Int) == 1) = false := by simp; omega
        have x0 := q0.c0
        by_cases c3 : a.b0.toNat = 161
        · have e1 : RS = ([], .fin 0) := by rw [HR.out, if_neg c0, if_neg c1, if_neg c2, if_neg (by simpa using c3)]
          have d4 : ((a.b0.toNat : Int) != 161) = false := by simp; omega
          have HE1 := hidOf2 e1
          clear HR e1 s0 b0 q0 h hok c1 c0 HP0 c2 c3
          go_enter Try.func8, Try.ntmps8
          go_wp2_with (first | (refine ldG lq rfl _ rfl rfl ?_) | (go_at_call 21; refine hA.mono ?_; rintro e w1 ⟨rfl, b1⟩; have x0 := (HQ.out.below b1).c0; have y0 := (HS.out.below b1).c0; have hE := end_any (HS.out.below b1) 0 (by decide); have HK2 := hidOf2 (HK.out.trans (Kp.of_below b1)); clear b1) | (go_at_call 22; refine hE.mono ?_; rintro e w3 ⟨rfl, s3, k3⟩))
          go_ret
          show SPost _ _ _ _ _ _ _
          rw [HE1.out]
          exact ⟨_, none, 0, rfl, Lf.nil _ _, s3, HK2.out.trans k3, .inr ⟨rfl, rfl⟩⟩
        · have e1 : RS = sGive 84148225 := by rw [HR.out, if_neg c0, if_neg c1, if_neg c2, if_pos c3]
          have d4 : ((a.b0.toNat : Int) != 161) = true := by simp; omega
          have HGV : Hid (∀ y, Sd S s ao cp y → Kp [S] w y → Calls Try.prog 25 #[.pointer (some ⟨S, 0, none⟩), .int .u32 84148225] y fun e w' => ∃ v, e = .returned v ∧ SPost w S ao cp RS (.returned v) w') := fun y hy hk => by
            rw [e1]
            exact give_post h y hk hy 84148225 (by decide)
          clear HR e1 s0 b0 q0 h hok c1 c0 HP0 c2 c3
          go_enter Try.func8, Try.ntmps8
          go_wp2_with (first | (refine ldG lq rfl _ rfl rfl ?_) | (go_at_call 21; refine hA.mono ?_; rintro e w1 ⟨rfl, b1⟩; have x0 := (HQ.out.below b1).c0; have y0 := (HS.out.below b1).c0; have hG := HGV.out w1 (HS.out.below b1) (HK.out.trans (Kp.of_below b1)); clear b1) | (go_at_call 25; refine hG.mono ?_; rintro e w2 ⟨v, rfl, hp⟩))
          go_ret
          exact hp
/-- One that has begun. -/
def Sn.beg (s : Sn) (size : Nat) : Sn := ⟨1, s.bs, s.cm, min size (segs s.bs.length - s.cm), s.cd⟩
theorem sBegin_any (h : Sd S (Sn.new t.bs) ao cp w) (size : Nat) (h1 : 1 ≤ size) (h2 : size ≤ 127) : Calls Try.prog 9 #[.pointer (some ⟨S, 0, none⟩), .int .i64 (size : Int)] w fun e w' => ∃ v, e = .returned (.tuple #[v, .int .i64 0]) ∧ Lf w.heap.size w' v (blkF t.bs 0 size) ∧ Sd S ((Sn.new t.bs).beg size) ao cp w' ∧ Kp [S] w w' := by
  have hcb := canBe_any (size : Int)
  rw [decide_eq_true (show (1 : Int) ≤ (size : Int) ∧ (size : Int) ≤ 127 by omega)] at hcb
  have y0 : w.cell? ⟨S, 0, none⟩ = some (.int .i64 0) := h.c0
  have f0 := h.fr 0
  have HX : Hid (∀ Z, Z = w.setCell ⟨S, 0, none⟩ (.int .i64 1) → Sd S ⟨1, t.bs, 0, 0, 0⟩ ao cp Z ∧ Kp [S] w Z) := fun Z hZ => by
    subst hZ
    exact ⟨h.set 0 _ (by simp [snA, Sn.new]) rfl ⟨by simp, h.ok.bs, by simp, by simp, by simp⟩, Kp.cell1 _ _ _ _⟩
  have HB : Hid (∀ y, Sd S ⟨1, t.bs, 0, 0, 0⟩ ao cp y → Calls Try.prog 27 #[.pointer (some ⟨S, 0, none⟩), .int .i64 (size : Int)] y fun e w' => ∃ v, e = .returned v ∧ Lf y.heap.size w' v (blkF t.bs 0 size) ∧ Sd S ((Sn.new t.bs).beg size) ao cp w' ∧ Kp [S] y w') := fun y hy => block_any hy (segs_pos _) size h1 h2
  go_enter Try.func9, Try.ntmps9
  go_upto_region 6 with (first | (go_at_call 26; refine (hcb _).mono ?_; rintro e w1 ⟨rfl, hw1⟩; rw [hw1]; clear hw1 w1))
  obtain ⟨X, hX⟩ : ∃ X, w.setCell ⟨S, 0, none⟩ (.int .i64 1) = X := ⟨_, rfl⟩
  rw [hX]
  obtain ⟨sX, kX⟩ := HX.out X hX.symm
  have hB := HB.out X sX
  have HK := hidOf2 kX
  clear HX HB hX sX kX y0 f0
  go_wp2_with (go_at_call 27; refine hB.mono ?_; rintro e w1 ⟨v, rfl, hl, hs, hk⟩)
  go_ret2
  exact ⟨v, rfl, hl.low HK.out.size, hs, HK.out.trans hk⟩
theorem sBegin_bad (h : Sd S s ao cp w) (h0 : s.st = 0) (z : Int) (hz : ¬ (1 ≤ z ∧ z ≤ 127)) : Calls Try.prog 9 #[.pointer (some ⟨S, 0, none⟩), .int .i64 z] w fun e w' => e = .returned (.tuple #[.slice none 0 0, .int .i64 1]) ∧ w' = w := by
  have hcb := canBe_any z
  rw [decide_eq_false hz] at hcb
  have y0 := h.c0
  rw [h0] at y0
  go_enter Try.func9, Try.ntmps9
  go_wp2_with (first | (go_at_call 26; refine (hcb _).mono ?_; rintro e w1 ⟨rfl, hw1⟩; rw [hw1]; clear hw1 w1))
  go_ret2
  exact ⟨rfl, rfl⟩
theorem sBegin_state (h : Sd S s ao cp w) (h0 : s.st ≠ 0) (z : Int) : Calls Try.prog 9 #[.pointer (some ⟨S, 0, none⟩), .int .i64 z] w fun e w' => e = .returned (.tuple #[.slice none 0 0, .int .i64 6]) ∧ w' = w := by
  have y0 := h.c0
  have d0 : ((s.st : Int) != 0) = true := by simp; omega
  go_enter Try.func9, Try.ntmps9
  go_wp2
  go_ret2
  exact ⟨rfl, rfl⟩
end
end Go.Proofs.Ytebjofkblfmkmaa
