/- Contracts: a sender is answered. -/
import Derived.Test.YtebjofkblfmkmaaBkE0
namespace Go.Proofs.Ytebjofkblfmkmaa
open Go.RowKit Go.Proofs.Ty Go.Proofs.Bits
set_option linter.unusedVariables false
set_option maxRecDepth 1000000
set_option linter.unusedSimpArgs false
/-- What is told, and how the sender is then. -/
def SPost (w : World) (S : Nat) (ao : Option Addr) (cp : Nat) (r : List F8 × Sn) (e : Ending) (w' : World) : Prop :=
  ∃ v aq cq, e = .returned v ∧ Lf w.heap.size w' v r.1 ∧ Sd S r.2 aq cq w' ∧ Kp [S] w w' ∧ ((aq = ao ∧ cq = cp) ∨ (aq = none ∧ cq = 0))
section
variable {S : Nat} {s t : Sn} {ao ap : Option Addr} {cp cq : Nat} {w x : World}
theorem Kp.drawn (bs : List Nat) (w : World) (n : Nat) : Kp bs w (w.drewN n) := ⟨rfl, rfl, rfl, Nat.le_refl _, fun _ _ _ => rfl⟩
/-- It gives up, behind what left the sender as it was. -/
theorem give_post (h : Sd S s ao cp w) (V : World) (hK : Kp [S] w V) (hV : Sd S s ao cp V) (cd : Nat) (hcd : cd < 4294967296) : Calls Try.prog 25 #[.pointer (some ⟨S, 0, none⟩), .int .u32 (cd : Int)] V fun e w' => ∃ v, e = .returned v ∧ SPost w S ao cp (sGive cd) (.returned v) w' :=
  (giveUp_any hV cd hcd).mono fun e w' ⟨v, he, hl, hs, hk⟩ => ⟨v, he, v, none, 0, rfl, hl.low hK.size, hs, hK.trans hk, .inr ⟨rfl, rfl⟩⟩
set_option maxHeartbeats 8000000 in
theorem answered_any (h : Sd S s ao cp w) (hok : s.Ok) (h1 : s.st = 1) (a : F8) : Calls Try.prog 24 #[.pointer (some ⟨S, 0, none⟩), .agg a.arr] w fun e w' => SPost w S ao cp (sAns s a) e w' := by
  have hle : s.cm + s.sn ≤ segs s.bs.length := hok.le.resolve_right (fun e => e h1)
  have hbs := h.ok.bs
  have hsl := segs_le s.bs.length
  have hsn := h.ok.sn
  obtain ⟨V, hV⟩ : ∃ V, w.alloc (.cells a.arr 30) = V := ⟨_, rfl⟩
  have b0 : Below w.heap.size w V := by rw [← hV]; exact (Below.refl _ _).alloc (Nat.le_refl _) _
  obtain ⟨q, hq⟩ : ∃ q, w.heap.size = q := ⟨_, rfl⟩
  have q0 : Qb q a V := by rw [← hV, ← hq]; exact Qb.new w a
  have s0 := h.below b0
  have HSn : Hid (∀ n, Sd S s ao cp (V.drewN n)) := fun n => s0.drawn n
  have HKn : Hid (∀ n, Kp [S] w (V.drewN n)) := fun n => (Kp.of_below b0).trans (Kp.drawn _ _ _)
  have HQ := hidOf2 q0
  have x0 := q0.c0
  have x1 := q0.c1
  have x2 := q0.c2
  have y3 := s0.c3
  have l0 := a.b0.toNat_lt
  have l1 := a.b1.toNat_lt
  have l2 := a.b2.toNat_lt
  have HF := hidOf2 h
  have hcb := fun w => canBe_any (a.b2.toNat : Int) w
  have HR : Hid (sAns s a = if a.b0.toNat ≠ 162 then sGive 84148225
      else if s.sn < a.b1.toNat then sGive 84148227
      else if ¬ (1 ≤ a.b2.toNat ∧ a.b2.toNat ≤ 127) then sGive 84148226
      else if s.cm + a.b1.toNat < segs s.bs.length then (blkF s.bs (s.cm + a.b1.toNat) a.b2.toNat, ⟨1, s.bs, s.cm + a.b1.toNat, min a.b2.toNat (segs s.bs.length - (s.cm + a.b1.toNat)), s.cd⟩)
      else ([endF s.bs], ⟨2, s.bs, s.cm + a.b1.toNat, s.sn, s.cd⟩)) := rfl
  generalize sAns s a = RS at *
  generalize a.b0.toNat = a0 at *
  generalize a.b1.toNat = a1 at *
  generalize a.b2.toNat = a2 at *
  generalize a.arr = A at *
  have go3 : ∀ cd : Nat, cd < 4294967296 → RS = sGive cd → ∀ n, Calls Try.prog 25 #[.pointer (some ⟨S, 0, none⟩), .int .u32 (cd : Int)] (V.drewN n) fun e w' => ∃ v, e = .returned v ∧ SPost w S ao cp RS (.returned v) w' := fun cd hcd e n => by
    rw [e]
    exact give_post HF.out _ (HKn.out n) (HSn.out n) cd hcd
  have HG3 := hidOf2 go3
  clear go3 s0 h q0 b0
  by_cases c0 : a0 = 162
  · have d0 : ((a0 : Int) != 162) = false := by simp; omega
    by_cases c1 : s.sn < a1
    · have d1 : decide ((s.sn : Int) < (a1 : Int)) = true := by simp; omega
      have hG := HG3.out 84148227 (by decide) (by rw [HR.out, if_neg (by simpa using c0), if_pos c1])
      clear HR
      go_enter Try.func24, Try.ntmps24
      go_upto_region 1 with fail
      go_quiet (fail)
      have hG := hG nq
      go_wp2_with (go_at_call 25; refine hG.mono ?_; rintro e w1 ⟨v, rfl, hp⟩)
      go_ret
      exact hp
    · have d1 : decide ((s.sn : Int) < (a1 : Int)) = false := by simp; omega
      by_cases c2 : 1 ≤ a2 ∧ a2 ≤ 127
      · have d2 : decide ((1 : Int) ≤ (a2 : Int) ∧ (a2 : Int) ≤ 127) = true := by simp; omega
        have d2' : (decide ((1 : Int) ≤ (a2 : Int)) && decide ((a2 : Int) ≤ 127)) = true := by simp; omega
        have d2'' : decide ((1 : Int) ≤ (a2 : Int)) = true := by simp; omega
        rw [d2] at hcb
        obtain ⟨s2, hs2⟩ : ∃ z : Sn, z = ⟨1, s.bs, s.cm + a1, s.sn, s.cd⟩ := ⟨_, rfl⟩
        have w2 : s2.Wk := by
          rw [hs2]
          exact ⟨by simp, hok.bs, by show s.cm + a1 ≤ segs s.bs.length; omega, hok.sn, hok.cd⟩
        have HX : Hid (∀ n Z, Z = (V.drewN n).setCell ⟨S, 2, none⟩ (.int .i64 ((s.cm : Int) + (a1 : Int))) → Sd S s2 ao cp Z ∧ Kp [S] w Z) := fun n Z hZ => by
          subst hZ
          refine ⟨(HSn.out n).set 2 _ ?_ (by rw [hs2]) w2, (HKn.out n).trans (Kp.cell1 _ _ _ _)⟩
          rw [hs2]
          simp [snA, h1]
        have y2 : V.cell? ⟨S, 2, none⟩ = some (.int .i64 (s.cm : Int)) := (HSn.out 0).c2
        have f2 : V.frozen? ⟨S, 2, none⟩ = false := (HSn.out 0).fr 2
        have hcm : s.cm ≤ segs s.bs.length := hok.cm
        have hbsl : s2.bs = s.bs := by rw [hs2]
        have hcm2 : s2.cm = s.cm + a1 := by rw [hs2]
        have HR2 := hidOf2 (HR.out)
        clear HR HG3 w2
        go_enter Try.func24, Try.ntmps24
        go_upto_region 1 with fail
        go_quiet (fail)
        have HX := hidOf2 (HX.out nq)
        go_upto_region 9 with (first | (go_at_call 26; refine (hcb _).mono ?_; rintro e w1 ⟨rfl, hw1⟩; rw [hw1]; clear hw1 w1))
        obtain ⟨X, hX⟩ : ∃ X, (V.drewN nq).setCell ⟨S, 2, none⟩ (.int .i64 ((s.cm : Int) + (a1 : Int))) = X := ⟨_, rfl⟩
        rw [hX]
        obtain ⟨sX, kX⟩ := HX.out X hX.symm
        have z2 : X.cell? ⟨S, 2, none⟩ = some (.int .i64 ((s.cm : Int) + (a1 : Int))) := by rw [sX.c2, hcm2]; simp
        have hSg : ∀ n, Calls Try.prog 39 #[.pointer (some ⟨S, 0, none⟩)] (X.drewN n) (fun e w' => e = .returned (.int .i64 ((segs s.bs.length : Nat) : Int)) ∧ w' = X.drewN n) := fun n => by
          have := segments_any (sX.drawn n)
          rwa [hbsl] at this
        have HS := hidOf2 sX
        have HK := hidOf2 kX
        have hGb : segs s.bs.length ≤ 100000 := by omega
        clear HX hX sX kX y2 f2 HKn HSn HF x0 x1 y3 hcb
        have HRR := hidOf2 HR2.out
        by_cases c3 : s.cm + a1 < segs s.bs.length
        · have d3 : decide ((s.cm : Int) + (a1 : Int) < ((segs s.bs.length : Nat) : Int)) = true := by simp; omega
          have hB : ∀ n, Calls Try.prog 27 #[.pointer (some ⟨S, 0, none⟩), .int .i64 (a2 : Int)] (X.drewN n) fun e w' => ∃ v, e = .returned v ∧ SPost w S ao cp RS (.returned v) w' := fun n => (block_any (HS.out.drawn n) (by rw [hcm2, hbsl]; exact c3) a2 c2.1 c2.2).mono fun e w' ⟨v, he, hl, hs, hk⟩ => by
            have e2 : RS = (blkF s.bs (s.cm + a1) a2, s2.sent (min a2 (segs s.bs.length - (s.cm + a1)))) := by
              rw [HRR.out, if_neg (by simpa using c0), if_neg c1, if_neg (by simpa using c2), if_pos c3, hs2]
              rfl
            rw [hcm2, hbsl] at hl hs
            refine ⟨v, he, v, ao, cp, rfl, ?_, ?_, (HK.out.trans (Kp.drawn _ _ n)).trans hk, .inl ⟨rfl, rfl⟩⟩
            · rw [e2]; exact hl.low HK.out.size
            · rw [e2]; exact hs
          clear HRR HR2 hs2 hcm2 hbsl hle
          go_quiet (first | (go_at_call 39; refine Calls.quiet_of_same (hSg _)))
          have hB := hB nq
          go_wp2_with (go_at_call 27; refine hB.mono ?_; rintro e w1 ⟨v, rfl, hp⟩)
          go_ret
          exact hp
        · have d3 : decide ((s.cm : Int) + (a1 : Int) < ((segs s.bs.length : Nat) : Int)) = false := by simp; omega
          have e2 : RS = ([endF s.bs], ⟨2, s.bs, s.cm + a1, s.sn, s.cd⟩) := by
            rw [HRR.out, if_neg (by simpa using c0), if_neg c1, if_neg (by simpa using c2), if_neg c3]
          have HZ : Hid (∀ n Z, Z = (X.drewN n).setCell ⟨S, 0, none⟩ (.int .i64 2) → Sd S ⟨2, s.bs, s.cm + a1, s.sn, s.cd⟩ ao cp Z ∧ Kp [S] w Z) := fun n Z hZ => by
            subst hZ
            have w2 := HS.out.ok
            rw [hs2] at w2
            refine ⟨(HS.out.drawn n).set 0 _ (by rw [hs2]; simp [snA]) (by rw [hs2]) ⟨by simp, w2.bs, w2.cm, w2.sn, w2.cd⟩, (HK.out.trans (Kp.drawn _ _ n)).trans (Kp.cell1 _ _ _ _)⟩
          have y0 : X.cell? ⟨S, 0, none⟩ = some (.int .i64 (s2.st : Int)) := HS.out.c0
          have f0 : X.frozen? ⟨S, 0, none⟩ = false := HS.out.fr 0
          have HE2 := hidOf2 e2
          clear HRR HR2 hs2 hcm2 hbsl hle e2
          go_quiet (first | (go_at_call 39; refine Calls.quiet_of_same (hSg _)))
          have HZ := hidOf2 (HZ.out nq)
          go_upto_region 12 with fail
          obtain ⟨Z, hZ⟩ : ∃ Z, (X.drewN nq).setCell ⟨S, 0, none⟩ (.int .i64 2) = Z := ⟨_, rfl⟩
          rw [hZ]
          obtain ⟨sZ, kZ⟩ := HZ.out Z hZ.symm
          have hE := ending_any sZ
          have HS3 := hidOf2 sZ
          have HK3 := hidOf2 kZ
          clear HZ hZ sZ kZ y0 f0 z2 hSg
          go_wp2_with fail
          refine hE.mono ?_
          rintro e w3 ⟨rfl, b3⟩
          have b4 : Below w3.heap.size w3 (w3.alloc (.cells (endF s.bs).arr 30)) := (Below.refl _ _).alloc (Nat.le_refl _) _
          have HP : Hid (SPost w S ao cp RS (.returned (.slice (some ⟨w3.heap.size, 0, none⟩) 1 1)) (w3.alloc (.cells (endF s.bs).arr 30))) := by
            show SPost _ _ _ _ _ _ _
            rw [HE2.out]
            exact ⟨_, ao, cp, rfl, (Lf.new w3 (endF s.bs)).low (Nat.le_trans HK3.out.size b3.size), (HS3.out.below b3).below b4, (HK3.out.trans (Kp.of_below b3)).trans (Kp.of_below b4), .inl ⟨rfl, rfl⟩⟩
          clear hE b3 b4 HE2 HS3 HK3
          generalize endF s.bs = ff at *
          go_wp2_with (first | (refine bs1 ff rfl _ rfl rfl ?_))
          go_ret
          exact HP.out
      · have d2 : decide ((1 : Int) ≤ (a2 : Int) ∧ (a2 : Int) ≤ 127) = false := by simp; omega
        have hG := HG3.out 84148226 (by decide) (by rw [HR.out, if_neg (by simpa using c0), if_neg c1, if_pos c2])
        rw [d2] at hcb
        clear HR
        go_enter Try.func24, Try.ntmps24
        go_upto_region 1 with fail
        go_quiet (fail)
        have hG := hG nq
        go_wp2_with (first | (go_at_call 26; refine (hcb _).mono ?_; rintro e w1 ⟨rfl, hw1⟩; rw [hw1]; clear hw1 w1) | (go_at_call 25; refine hG.mono ?_; rintro e w1 ⟨v, rfl, hp⟩))
        go_ret
        exact hp
  · have d0 : ((a0 : Int) != 162) = true := by simp; omega
    have hG := HG3.out 84148225 (by decide) (by rw [HR.out, if_pos c0])
    clear HR
    go_enter Try.func24, Try.ntmps24
    go_upto_region 1 with fail
    go_quiet (fail)
    have hG := hG nq
    go_wp2_with (go_at_call 25; refine hG.mono ?_; rintro e w1 ⟨v, rfl, hp⟩)
    go_ret
    exact hp
end
end Go.Proofs.Ytebjofkblfmkmaa
