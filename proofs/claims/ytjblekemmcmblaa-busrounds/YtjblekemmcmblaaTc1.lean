/- The contract of the document's own round. -/
import Derived.Test.YtjblekemmcmblaaTb1
namespace Go.Proofs.Ytjblekemmcmblaa
open Go.RowKit Go.Proofs.Bits
set_option linter.unusedVariables false
set_option maxRecDepth 1000000

theorem up_alone {l : List Se} (h : firstE (frs l) = 0) : 1 ≤ upN l ∧ (alone l = ((upN l : Int) == 1)) ∧ ((!alone l) = decide ((1 : Int) < (upN l : Int))) ∧ upN l ≤ l.length := by
  obtain ⟨h1, h2, _⟩ := win_least h
  have hu : upAt l (winN l) = true := by unfold sndAt at h2; unfold upAt; simp at h2; exact h2.1
  have hm : winN l ∈ (List.range l.length).filter (upAt l) := List.mem_filter.2 ⟨List.mem_range.2 h1, hu⟩
  have hp : 1 ≤ upN l := by unfold upN upK; exact List.length_pos_of_mem hm
  refine ⟨hp, ?_, ?_, upK_le l l.length⟩
  · unfold alone; rw [Bool.eq_iff_iff]; simp; omega
  · unfold alone; rw [Bool.eq_iff_iff]; simp; omega
theorem last_up {l : List Se} (h : firstE (frs l) = 0) {f : Fl} {n : Nat} (hu : upAt l f.nd.toNat = false) : lastB (winN l) n f = false := by
  obtain ⟨h1, h2, _⟩ := win_least h
  unfold lastB
  rw [Bool.and_eq_false_iff]
  left
  rw [decide_eq_false_iff_not]
  intro e
  rw [e, Int.toNat_natCast] at hu
  unfold sndAt at h2
  unfold upAt at hu
  rw [hu] at h2
  simp at h2
theorem below3 (w : World) (a b c : Obj) (k : Nat) : Below w.heap.size w ((((w.alloc a).alloc b).alloc c).drewN k) :=
  below_drawn ((((Below.refl _ w).alloc (Nat.le_refl _) a).alloc (by rw [size_alloc]; omega) b).alloc (by rw [size_alloc, size_alloc]; omega) c) k
theorem t3a (w : World) (a b c : Obj) (k : Nat) : ((((w.alloc a).alloc b).alloc c).drewN k).heap[w.heap.size]? = some a := by
  show (((w.heap.push a).push b).push c)[w.heap.size]? = _
  simp only [Array.getElem?_push, Array.size_push]; rw [if_neg (by omega), if_neg (by omega), if_pos trivial]
theorem t3b (w : World) (a b c : Obj) (k : Nat) : ((((w.alloc a).alloc b).alloc c).drewN k).heap[w.heap.size + 1]? = some b := by
  show (((w.heap.push a).push b).push c)[w.heap.size + 1]? = _
  simp only [Array.getElem?_push, Array.size_push]; rw [if_neg (by omega), if_pos trivial]
theorem t3c (w : World) (a b c : Obj) (k : Nat) : ((((w.alloc a).alloc b).alloc c).drewN k).heap[w.heap.size + 1 + 1]? = some c := by
  show (((w.heap.push a).push b).push c)[w.heap.size + 1 + 1]? = _
  simp only [Array.getElem?_push, Array.size_push]; rw [if_pos trivial]
theorem out_start {w1 x : World} {l : List Se} {q ge gg : Nat} (hb : Below w1.heap.size w1 x) (h1 : x.heap[q]? = some (.cells #[.int .i64 (-1), .int .i64 11, .bool false, .slice (some ⟨ge, 0, none⟩) l.length l.length, .slice (some ⟨gg, 0, none⟩) l.length l.length] 27 (0, 0))) (h2 : x.heap[ge]? = some (errsO l.length)) (h3 : x.heap[gg]? = some (gotO l.length)) (b1 : w1.heap.size ≤ q) (b2 : w1.heap.size ≤ ge) (b3 : w1.heap.size ≤ gg) (d1 : q ≠ ge) (d2 : q ≠ gg) (d3 : ge ≠ gg) : OutAt w1 q ge gg l.length (rnN l) x := by
  refine ⟨hb, h1, ?_, ?_, b1, b2, b3, d1, d2, d3, by simp [rnN, rn0], by simp [rnN, rn0]⟩
  · obtain ⟨cur, T, lo, hi, hh, rest⟩ := row_errs x l.length
    exact ⟨cur, T, lo, hi, h2.trans ((heap_alloc_new x _).symm.trans hh), rest⟩
  · obtain ⟨cur, T, lo, hi, hh, rest⟩ := row_got x l.length
    exact ⟨cur, T, lo, hi, h3.trans ((heap_alloc_new x _).symm.trans hh), rest⟩
theorem fo_step {l : List Se} {n : Nat} {fl : List Fl} {k : Nat} (h : k < fl.length) :
    (cntB l n fl[k] = true → (fl[k].bit < atV n (foK l n fl k) ∨ fl[k].bit = atV n (foK l n fl k) ∧ fl[k].nd < byV (foK l n fl k)) → foK l n fl (k + 1) = some fl[k]) ∧
    (cntB l n fl[k] = true → ¬ (fl[k].bit < atV n (foK l n fl k) ∨ fl[k].bit = atV n (foK l n fl k) ∧ fl[k].nd < byV (foK l n fl k)) → foK l n fl (k + 1) = foK l n fl k) ∧
    (cntB l n fl[k] = false → foK l n fl (k + 1) = foK l n fl k) := by
  rw [foK_succ l n fl k h]
  generalize fl[k] = f
  refine ⟨fun hc hb => ?_, fun hc hb => ?_, fun hc => fo1_no hc⟩
  · cases ho : foK l n fl k with
    | none => rw [fo1_new hc]
    | some g =>
      rw [ho] at hb
      rw [fo1_old hc, if_pos]
      unfold befB
      simp only [atV, byV] at hb
      simpa using hb
  · cases ho : foK l n fl k with
    | none =>
      exfalso
      rw [ho] at hb
      apply hb
      left
      unfold cntB at hc
      simp at hc
      show f.bit < (n : Int)
      omega
    | some g =>
      rw [ho] at hb
      rw [fo1_old hc, if_neg]
      unfold befB
      simp only [atV, byV] at hb
      simpa using hb
theorem ref_done {l : List Se} {fl : List Fl} {w w2 x : World} {q ge gg q0 : Nat} {R : Rn} {z : Int} (H : ∀ q ge gg x e A, OutAt w2 q ge gg l.length (rnd l fl) x → rndE l fl = 0 → e = .returned (.tuple #[.agg ((rnd l fl).out (sl ge l.length) (sl gg l.length)), .int .i64 (rnd l fl).late, .int .i64 0]) → RefRes l fl w e (x.setRow q0 A))
    (h : OutAt w2 q ge gg l.length R x) (hz : rndE l fl = 0) (e : (rnd l fl).win = R.win ∧ (rnd l fl).bits = R.bits ∧ (rnd l fl).sent = R.sent ∧ (rnd l fl).errs = R.errs ∧ (rnd l fl).got = R.got ∧ (rnd l fl).late = z) :
    RefRes l fl w (.returned (.tuple #[.agg (R.out (sl ge l.length) (sl gg l.length)), .int .i64 z, .int .i64 0])) (x.setRow q0 (R.out (sl ge l.length) (sl gg l.length))) := by
  obtain ⟨e1, e2, e3, e4, e5, e6⟩ := e
  have ho : ∀ a b, (rnd l fl).out a b = R.out a b := fun a b => by unfold Rn.out; rw [e1, e2, e3]
  refine H q ge gg x _ _ ?_ hz (by rw [ho, e6])
  exact { h with ou := by have := h.ou; unfold Oa at *; rw [ho]; exact this, er := by rw [e4]; exact h.er, go := by rw [e5]; exact h.go, le := by rw [e4]; exact h.le, lg := by rw [e5]; exact h.lg }
set_option maxHeartbeats 8000000 in
theorem r4Round_any (v vf : Value) (l : List Se) (fl : List Fl) (w : World) (hl : l.length ≤ maxLen) (hfl : fl.length ≤ maxLen) (hS : Senders w v l) (hF : Flips w vf fl) :
    Calls Try.prog 9 #[v, vf] w fun e w' => RefRes l fl w e w' := by
  unfold maxLen at hl
  have HRes : Hid (∀ e x, rndE l fl ≠ 0 → e = .returned (.tuple #[.agg (rnZ.out nilV nilV), .int .i64 (-1), .int .i64 (rndE l fl)]) → Below w.heap.size w x → RefRes l fl w e x) := fun e x h1 h2 h3 => ⟨fun _ => h2, fun h => absurd h h1, h3⟩
  obtain ⟨w1, hw1⟩ : ∃ w1, w.alloc (.cells #[.int .i64 0, .int .i64 0, .bool false, .slice none 0 0, .slice none 0 0] 27) = w1 := ⟨_, rfl⟩
  have B1 : Below w.heap.size w w1 := by rw [← hw1]; exact (Below.refl _ _).alloc (Nat.le_refl _) _
  have O1 : Oa w.heap.size rnZ nilV nilV w1 := by rw [← hw1]; exact Oa.new w rnZ nilV nilV
  have hLk := r4Check_any l.length vf fl w1 hfl (hF.below B1)
  have hS1 := hS.below B1
  have hF1 := hF.below B1
  have HROk : Hid (∀ q ge gg x e A, OutAt w1 q ge gg l.length (rnd l fl) x → rndE l fl = 0 → e = .returned (.tuple #[.agg ((rnd l fl).out (sl ge l.length) (sl gg l.length)), .int .i64 (rnd l fl).late, .int .i64 0]) → RefRes l fl w e (x.setRow w.heap.size A)) := fun q ge gg x e A h hz he => refres_ok B1 h _ A (Nat.le_refl _) O1.lt hz he
  obtain ⟨q0, hq0⟩ : ∃ q, w.heap.size = q := ⟨_, rfl⟩
  rw [hq0] at B1 O1 HROk HRes
  clear hS hF
  by_cases h0 : lookV l.length fl = 0
  · obtain ⟨h127, h65, hok⟩ := look_ok h0
    have hm1 := run_make_row' (P := Try.prog) 24 28 (.int .i64 0) 8 Try.underlying24 infoEr rfl .i64 .i64 l.length (by omega) (by omega)
    have hm2 := run_make_row' (P := Try.prog) 25 4 (.bool false) 1 Try.underlying25 infoBo rfl .i64 .i64 l.length (by omega) (by omega)
    have HOK : Hid _ := hok
    have HE : Hid (rndE l fl = beE l) := by show _ = _; unfold rndE beE; rw [if_neg (by simpa using h0)]
    have HS1 : Hid (Senders w1 v l) := hS1
    have HF1 : Hid (Flips w1 vf fl) := hF1
    obtain ⟨ao, cap, rfl, _⟩ := hS1
    obtain ⟨af, capf, rfl, _⟩ := hF1
    generalize lookV l.length fl = lv at *
    subst h0
    clear hok
    go_enter Try.func9, Try.ntmps9
    go_wp2_with fail
    refine hLk.mono ?_
    rintro e w2 ⟨rfl, rfl⟩
    clear hLk hw1
    go_upto_region 4 with fail
    go_cut [8] from 33 to 39 (fun v8 wx => ∃ q ge gg, v8 = .pointer (some ⟨q, 0, none⟩) ∧ OutAt w2 q ge gg l.length (rnN l) wx)
    case first =>
      go_region
      all_goals go_wp2_with fail
      all_goals go_meet
      all_goals
        first
        | exact ⟨_, _, _, rfl, out_start (below3 w2 _ _ _ 1) (t3a w2 _ _ _ 1) (t3b w2 _ _ _ 1) (t3c w2 _ _ _ 1) (by omega) (by omega) (by omega) (by omega) (by omega) (by omega)⟩
        | exact ⟨_, _, _, rfl, out_start (below3 w2 _ _ _ 1) (t3a w2 _ _ _ 1) (t3c w2 _ _ _ 1) (t3b w2 _ _ _ 1) (by omega) (by omega) (by omega) (by omega) (by omega) (by omega)⟩
        | exact ⟨_, _, _, rfl, out_start (below3 w2 _ _ _ 1) (t3b w2 _ _ _ 1) (t3a w2 _ _ _ 1) (t3c w2 _ _ _ 1) (by omega) (by omega) (by omega) (by omega) (by omega) (by omega)⟩
        | exact ⟨_, _, _, rfl, out_start (below3 w2 _ _ _ 1) (t3b w2 _ _ _ 1) (t3c w2 _ _ _ 1) (t3a w2 _ _ _ 1) (by omega) (by omega) (by omega) (by omega) (by omega) (by omega)⟩
        | exact ⟨_, _, _, rfl, out_start (below3 w2 _ _ _ 1) (t3c w2 _ _ _ 1) (t3a w2 _ _ _ 1) (t3b w2 _ _ _ 1) (by omega) (by omega) (by omega) (by omega) (by omega) (by omega)⟩
        | exact ⟨_, _, _, rfl, out_start (below3 w2 _ _ _ 1) (t3c w2 _ _ _ 1) (t3b w2 _ _ _ 1) (t3a w2 _ _ _ 1) (by omega) (by omega) (by omega) (by omega) (by omega) (by omega)⟩
    case rest =>
    obtain ⟨q, ge, gg, rfl, h1⟩ := hcut
    clear hm1 hm2
    have o1 := own_empty_e wc 38 12
    have o2 := own_empty_e (wc.alloc (.cells #[] 38)) 3 1
    rw [size_alloc] at o2
    have p1 : ((wc.alloc (.cells #[] 38)).alloc (.cells #[] 3)).ownsRow wc.heap.size 38 12 (.slice (some ⟨wc.heap.size, 0, none⟩) 0 0) 0 [] := ownsRow_alloc o1 _
    have p2 : ((wc.alloc (.cells #[] 38)).alloc (.cells #[] 3)).ownsRow wc.heap.size 3 1 (.slice (some ⟨wc.heap.size + 1, 0, none⟩) 0 0) 0 [] := by
      obtain ⟨q1, q2⟩ := o2
      refine ⟨q1, ?_⟩
      rcases q2 with q2 | ⟨g, cap, cur, e, hg, r⟩
      · exact .inl q2
      · exact .inr ⟨g, cap, cur, e, by omega, r⟩
    have b5 : Below wc.heap.size wc ((wc.alloc (.cells #[] 38)).alloc (.cells #[] 3)) := ((Below.refl _ wc).alloc (Nat.le_refl _) _).alloc (by rw [size_alloc]; omega) _
    have HP1 : Hid (World.ownsRow ((wc.alloc (.cells #[] 38)).alloc (.cells #[] 3)) wc.heap.size 38 12 (.slice (some ⟨wc.heap.size, 0, none⟩) 0 0) 0 []) := p1
    have HP2 : Hid (World.ownsRow ((wc.alloc (.cells #[] 38)).alloc (.cells #[] 3)) wc.heap.size 3 1 (.slice (some ⟨wc.heap.size + 1, 0, none⟩) 0 0) 0 []) := p2
    have HB5 : Hid _ := b5
    have HH1 : Hid _ := h1
    clear o1 o2 p1 p2 b5 h1
    go_wp2
    go_loopw [9, 10, 11, 12] (fun fv pv up i x => ∃ k : Nat, k ≤ l.length ∧ i = .int .i64 k ∧ up = .int .i64 (upK l k) ∧ Below wc.heap.size wc x ∧ x.ownsRow wc.heap.size 3 1 pv ((whoK l k).map natV).length ((whoK l k).map natV) ∧ x.ownsRow wc.heap.size 38 12 fv (frsK l k).length (flatW DF (frsK l k))) (fun _ _ _ i _ => l.length - (intOf i).toNat)
    case atStart => exact ⟨0, Nat.zero_le _, rfl, rfl, HB5.out, HP2.out, HP1.out⟩
    case round =>
      clear HP1 HP2 HB5
      obtain ⟨k, hk, rfl, rfl, B3, P1, F1⟩ := hrel
      have s3 := B3.size
      have hwk := whoK_le l k
      have hlk := frsK_length l k
      have huk := upK_le l k
      by_cases hkl : k < l.length
      · have hc := (HS1.out.below ((HH1.out : OutAt w2 q ge gg l.length (rnN l) wc).below B3).bel)
        obtain ⟨ao', cap', hv', _, hc⟩ := hc
        obtain ⟨b, off, hao, hb, hR⟩ := hc k hkl
        have hao2 : ao = some ⟨b, off, none⟩ := by injection hv' with e1; rw [e1]; exact hao
        subst hao2
        have e0 : wr.cell? ⟨b, off + k * 14, none⟩ = some (.bool l[k].up) := hR 0 _ rfl
        have e1 : wr.cell? ⟨b, off + k * 14 + 1, none⟩ = some (.bool l[k].sends) := hR 1 _ rfl
        have rF : wr.rangeAt b (off + k * 14 + 2) l[k].f.cells := fun j u hj => by
          have := hR (2 + j) u (by unfold Se.cells; rw [List.getElem?_append_right (by simp)]; simpa using hj)
          rw [← Nat.add_assoc] at this; exact this
        have HW : Hid (whoK l (k + 1) = whoK l k ++ if l[k].up && l[k].sends then [k] else []) := by
          have := whoK_succ l k; unfold sndAt at this; rw [seAt_eq hkl] at this; exact this
        have HFr : Hid (frsK l (k + 1) = frsK l k ++ if l[k].up && l[k].sends then [l[k].f] else []) := by
          have := frsK_succ l k; unfold sndAt at this; rw [seAt_eq hkl] at this; exact this
        have HUp : Hid (upK l (k + 1) = upK l k + if l[k].up then 1 else 0) := by
          have := upK_succ l k; unfold upAt at this; rw [seAt_eq hkl] at this; exact this
        have hm : ((whoK l k).map natV).length = (whoK l k).length := by simp
        clear hc hR HH1 HS1 HF1 hao hv' HOK HRes HROk
        generalize l[k] = s at *
        generalize hup : s.up = up at *
        generalize hse : s.sends = se at *
        cases up
        · have H1 : Hid (whoK l (k + 1) = whoK l k) := by show _ = _; rw [HW.out]; simp
          have H2 : Hid (frsK l (k + 1) = frsK l k) := by show _ = _; rw [HFr.out]; simp
          have H3 : Hid (upK l (k + 1) = upK l k) := by show _ = _; rw [HUp.out]; simp
          clear HW HFr HUp
          go_wp2
          go_roundw
          case rel => exact ⟨k + 1, by omega, by go_num, by rw [H3.out], B3, by rw [H1.out]; exact P1, by rw [H2.out]; exact F1⟩
          case measure => simp [intOf]; omega
        · have H3 : Hid (upK l (k + 1) = upK l k + 1) := by show _ = _; rw [HUp.out]; simp
          clear HUp
          cases se
          · have H1 : Hid (whoK l (k + 1) = whoK l k) := by show _ = _; rw [HW.out]; simp
            have H2 : Hid (frsK l (k + 1) = frsK l k) := by show _ = _; rw [HFr.out]; simp
            clear HW HFr
            go_wp2
            go_roundw
            case rel => exact ⟨k + 1, by omega, by go_num, by rw [H3.out]; go_num, B3, by rw [H1.out]; exact P1, by rw [H2.out]; exact F1⟩
            case measure => simp [intOf]; omega
          · have H1 : Hid ((whoK l (k + 1)).map natV = (whoK l k).map natV ++ [natV k]) := by show _ = _; rw [HW.out]; simp
            have H2 : Hid (frsK l (k + 1) = frsK l k ++ [s.f]) := by show _ = _; rw [HFr.out]; simp
            clear HW HFr
            generalize (whoK l k).map natV = xs at *
            generalize frsK l k = fs at *
            generalize upK l k = uk at *
            go_wp2_with (first | refine fld_ld rF rfl _ rfl rfl ?_ | refine one_bs DF s.f 42 38 _ _ rfl _ rfl rfl Try.underlying42 infoFZ (by decide) ?_ | (at_builtin; refine append_wide DF rfl _ _ 42 38 _ _ Try.underlying42 infoFZ rfl rfl wc.heap.size _ fs rfl (by exact ownsRow_alloc F1 _) _ [s.f] rfl (by exact wide_new DF wr s.f 38) (by unfold maxLen; simp; omega) (by simp; omega) (by rw [size_alloc]; omega) ?_))
            intro v5 w5 F5 G5
            have P5 := own_grown (ownsRow_alloc P1 _) (ownsRow_alloc F1 _) (by decide) G5
            have B5 := below_grown (B3.alloc s3 _) (ownsRow_alloc F1 _) (by rw [size_alloc]; omega) G5
            have s5 := B5.size
            clear F1 B3 G5 P1 rF e0 e1
            go_wp2_with (at_builtin; refine append_slots rfl _ _ 71 3 (.int .i64 0) 8 Try.underlying71 infoI rfl rfl wc.heap.size _ xs rfl (by exact ownsRow_alloc P5 _) _ [natV k] rfl (by exact slots_new w5 _ _) (by intro u hu; simp at hu; subst hu; rfl) (by unfold maxLen; simp; omega) (by simp; omega) (by rw [size_alloc]; omega) ?_)
            intro v6 w6 P6 G6 _
            have F6 := own_grown (ownsRow_alloc F5 _) (ownsRow_alloc P5 _) (by decide) G6
            have B6 := below_grown (B5.alloc s5 _) (ownsRow_alloc P5 _) (by rw [size_alloc]; omega) G6
            have HP6 : Hid (w6.ownsRow wc.heap.size 3 1 v6 ((whoK l (k + 1)).map natV).length ((whoK l (k + 1)).map natV)) := by
              show World.ownsRow _ _ _ _ _ _ _
              rw [H1.out]; simpa [hm] using P6
            have HF6 : Hid (w6.ownsRow wc.heap.size 38 12 v5 (frsK l (k + 1)).length (flatW DF (frsK l (k + 1)))) := by
              show World.ownsRow _ _ _ _ _ _ _
              have e : (fs ++ [s.f]).length = (whoK l k).length + 1 := by simp [hlk]
              rw [H2.out, e]; exact F6
            clear P6 F6 G6 P5 F5 B5
            go_wp2
            go_roundw
            case rel => exact ⟨k + 1, by omega, by go_num, by rw [H3.out]; go_num, B6, HP6.out, HF6.out⟩
            case measure => simp [intOf]; omega
      · obtain rfl : k = l.length := by omega
        have h3 := (HH1.out : OutAt w2 q ge gg l.length (rnN l) wc).below B3
        have O3 : Oa q0 rnZ nilV nilV wr := O1.kept (h3.bel.block _ O1.lt)
        have ql := O1.lt
        obtain ⟨ao1, cap1, hv1⟩ := own_shape P1
        have hm : ((whoK l l.length).map natV).length = (whoK l l.length).length := by simp
        rw [hm] at hv1
        clear HH1
        by_cases hw0 : (whoK l l.length).length = 0
        · have hwo : who l = [] := List.length_eq_zero_iff.1 hw0
          have HR : Hid (rnd l fl = rnN l) := by show _ = _; unfold rnd; rw [if_pos hwo]
          have hz : rndE l fl = 0 := by rw [HE.out]; unfold beE; rw [if_pos hwo]
          have HZ : Hid _ := hz
          have h4 := h3.ou
          have O5 := O3.row (rnN l) (sl ge l.length) (sl gg l.length)
          obtain ⟨d0, d1, d2, d3', d4⟩ := O5.cells
          rw [hw0] at hv1
          subst hv1
          have HX : Hid (RefRes l fl w (.returned (.tuple #[.agg ((rnN l).out (sl ge l.length) (sl gg l.length)), .int .i64 (-1), .int .i64 0])) (wr.setRow q0 ((rnN l).out (sl ge l.length) (sl gg l.length)))) := by
            refine HROk.out q ge gg wr _ _ ?_ hz ?_
            · rw [HR.out]; exact h3
            · rw [HR.out]; rfl
          clear HRes HROk hz HE P1 F1 h3
          go_wp2_with (first | refine h4.ld rfl _ rfl rfl ?_ | refine O3.sd (rnN l) (sl ge l.length) (sl gg l.length) rfl rfl rfl _ _ rfl rfl rfl ?_)
          exact bodyPost_ret (v := .tuple #[.agg ((rnN l).out (sl ge l.length) (sl gg l.length)), .int .i64 (-1), .int .i64 0]) (by simp [results, Try.results9, go_sem, d0, d1, d2, d3', d4]; rfl) rfl HX.out
        · have hwo : ¬ who l = [] := fun h => hw0 (List.length_eq_zero_iff.2 h)
          have HE2 : Hid (rndE l fl = firstE (frsK l l.length)) := by show _ = _; rw [HE.out]; unfold beE; rw [if_neg hwo]; rfl
          have Fr1 : Frames wr _ (frsK l l.length) := wide_of_own DF F1
          have hFi := r2First_any _ _ wr (by omega) Fr1
          have hd : ((((whoK l l.length).length : Nat) : Int) == 0) = false := by rw [beq_eq_false_iff_ne]; omega
          subst hv1
          clear HE
          rcases (by rcases firstE_neg (frsK l l.length) with h | h | h | h <;> simp [h] : firstE (frsK l l.length) = 0 ∨ firstE (frsK l l.length) ≠ 0) with hz | hz
          · have hsm : firstN (frsK l l.length) < (frsK l l.length).length := first_small hz
            obtain ⟨ua1, ua2, ua3, ua4⟩ := up_alone (l := l) hz
            obtain ⟨wl1, wl2, _⟩ := win_least (l := l) hz
            have HLU : Hid (∀ (f : Fl) (n : Nat), upAt l f.nd.toNat = false → lastB (winN l) n f = false) := fun f n hu => last_up hz hu
            have HZ : Hid (rndE l fl = 0) := by show _ = _; rw [HE2.out]; exact hz
            have HR : Hid (rnd l fl = rnEnd l fl (rnW l) (winN l)) := by show _ = _; unfold rnd; rw [if_neg hwo]
            have hfe : (frsK l l.length)[firstN (frsK l l.length)] = winF l := winF_eq (l := l) hz hsm
            have hEn := r2Encode_any (winF l) (!alone l)
            have hlen := stuffed_bound (winF l) (!alone l)
            have HL : Hid (winL l = (encV (winF l) (!alone l)).length) := rfl
            have HWn : Hid (∀ j (hj : j < ((whoK l l.length).map natV).length), j = firstN (frsK l l.length) → ((whoK l l.length).map natV)[j] = natV (winN l)) := by
              rintro j hj rfl
              have hj2 : firstN (frsK l l.length) < (whoK l l.length).length := by simpa using hj
              rw [List.getElem_map]
              unfold winN who frs
              simp [List.getD_eq_getElem?_getD, List.getElem?_eq_getElem hj2]
            obtain ⟨ao2, cap2, hv2, _, hc2⟩ := Fr1
            obtain ⟨b2, off2, hao2, hb2, hR2⟩ := hc2 _ hsm
            have S3 := slots_of_own P1
            obtain ⟨ao3, cap3, hv3, _, hc3⟩ := S3
            have hj3 : firstN (frsK l l.length) < ((whoK l l.length).map natV).length := by simpa [← hlk] using hsm
            obtain ⟨b3, off3, hao3, hb3, hC3⟩ := hc3 _ hj3
            rw [HWn.out _ hj3 rfl] at hC3
            rw [hfe] at hR2
            have hl3 : ((whoK l l.length).map natV).length = (whoK l l.length).length := by simp
            rw [hlk] at hv2
            rw [hl3] at hv3
            injection hv3 with hv3a hv3b hv3c
            subst hv3a hv3c
            subst hao2 hao3
            rw [hv2] at hFi
            rw [hv2]
            rw [hz] at hFi
            have hfs : firstN (frsK l l.length) < (whoK l l.length).length := by omega
            unfold natV at hC3
            unfold Fr.val at hEn
            have huu : (upK l l.length : Int) = (upN l : Int) := rfl
            rw [huu]
            obtain ⟨al, hal⟩ : ∃ al, alone l = al := ⟨_, rfl⟩
            rw [hal] at hEn hlen HL
            have ua2' : ((upN l : Int) == 1) = al := by rw [← ua2, hal]
            have ua3' : decide ((1 : Int) < (upN l : Int)) = !al := by rw [← ua3, hal]
            have HAl : Hid (alone l = al) := hal
            clear ua2 ua3 hal
            generalize firstN (frsK l l.length) = fi at *
            clear F1 P1 HWn hc2 hc3 hfe hz hv2 HRes HE2
            go_wp2_with fail
            refine hFi.mono ?_
            rintro e w5 ⟨rfl, b5⟩
            have h5 := h3.below b5
            have hR3 : w5.rangeAt b2 (off2 + fi * 12) (winF l).cells := fun j v hv => (b5.cell (p := ⟨b2, off2 + fi * 12 + j, none⟩) hb2).trans (hR2 j v hv)
            have hC4 := (b5.cell (p := ⟨b3, off3 + fi, none⟩) hb3).trans hC3
            have hb3' : b3 < w5.heap.size := Nat.lt_of_lt_of_le hb3 b5.size
            clear hFi b5 h3 hR2 hC3 O3
            go_wp2_with (first | refine fld_ld hR3 rfl _ rfl rfl ?_)
            refine (hEn _).mono ?_
            rintro e w6 ⟨rfl, b6⟩
            have h6 := h5.below b6
            have hC6 := (b6.cell (p := ⟨b3, off3 + fi, none⟩) hb3').trans hC4
            obtain ⟨c0, c1, c2, c3, c4⟩ := h6.ou.cells
            have hf := h6.ou.free 0
            have H7 : Hid (OutAt w2 q ge gg l.length { rnN l with win := winN l } (w6.setCell ⟨q, 0, none⟩ (.int .i64 (winN l)))) := h6.set0 (winN l)
            generalize hwn : winN l = wn at *
            generalize encV (winF l) (!al) = T at *
            clear hEn b6 h5 hR3 hC4 h6
            have HWN : Hid (winN l = wn) := hwn
            clear hwn
            go_wp2
            generalize hn : T.length = n at *
            clear hn
            clear hC6 hb3' hfs hd huk
            go_loopw [18, 19, 20, 21] (fun av bv lv i x => ∃ k : Nat, k ≤ fl.length ∧ i = .int .i64 k ∧ av = .int .i64 (atV n (foK l n fl k)) ∧ bv = .int .i64 (byV (foK l n fl k)) ∧ lv = .bool (lastK wn n fl k) ∧ OutAt w2 q ge gg l.length { rnN l with win := (wn : Int) } x) (fun _ _ _ i _ => fl.length - (intOf i).toNat)
            case atStart => exact ⟨0, Nat.zero_le _, rfl, rfl, rfl, rfl, H7.out⟩
            case round =>
              clear H7 c0 c1 c2 c3 c4 hf
              obtain ⟨k, hk, rfl, rfl, rfl, rfl, h1⟩ := hrel
              by_cases hkl : k < fl.length
              · obtain ⟨af', capf', hvf, _, hcf⟩ := (Flips.below HF1.out h1.bel)
                obtain ⟨b, off, haf, hb, hR⟩ := hcf k hkl
                have haf2 : af = some ⟨b, off, none⟩ := by injection hvf with e1; rw [e1]; exact haf
                subst haf2
                obtain ⟨o1, o2, o3⟩ := HOK.out _ (List.getElem_mem hkl)
                obtain ⟨j, hj⟩ : ∃ j : Nat, fl[k].nd = j := ⟨fl[k].nd.toNat, by omega⟩
                have hjl : j < l.length := by omega
                obtain ⟨ao', cap', hv', _, hc⟩ := (Senders.below HS1.out h1.bel)
                obtain ⟨b', off', hao, hb', hR'⟩ := hc j hjl
                have hao2 : ao = some ⟨b', off', none⟩ := by injection hv' with e1; rw [e1]; exact hao
                subst hao2
                have gn := Fa2.new wr Fl.nul
                have g3 := gn.row fl[k]
                have bb : Below wr.heap.size wr ((wr.alloc (.cells #[.int .i64 Fl.nul.nd, .int .i64 Fl.nul.bit] 57)).setRow wr.heap.size #[.int .i64 fl[k].nd, .int .i64 fl[k].bit]) := below_row ((Below.refl _ wr).alloc (Nat.le_refl _) _) (Nat.le_refl _) (by rw [size_alloc]; omega) _
                have h3 := h1.below bb
                have e0 := g3.c0.trans (show some (Value.int .i64 fl[k].nd) = some (Value.int .i64 (j : Int)) by rw [hj])
                have e1 := g3.c1
                have eU := (bb.cell (p := ⟨b', off' + j * 14, none⟩) hb').trans (hR' 0 _ rfl)
                have c0 : _ = some (Value.int .i64 (wn : Int)) := h3.ou.cells.1
                have hfb := fl[k].hb
                have HUp : Hid (upAt l fl[k].nd.toNat = l[j].up) := by show _ = _; unfold upAt; rw [hj, Int.toNat_natCast, seAt_eq hjl]
                have HLs : Hid (lastK wn n fl (k + 1) = (lastK wn n fl k || lastB wn n fl[k])) := lastK_succ wn n fl k hkl
                obtain ⟨st1, st2, st3⟩ := fo_step (l := l) (n := n) hkl
                have HCn : Hid (cntB l n fl[k] = (l[j].up && decide (fl[k].bit < (n : Int) - 1))) := by show _ = _; unfold cntB; rw [HUp.out]
                have HLb : Hid (lastB wn n fl[k] = (decide ((j : Int) = (wn : Int)) && decide (fl[k].bit = (n : Int) - 1))) := by show _ = _; unfold lastB; rw [hj]
                have HLn : Hid (l[j].up = false → lastB wn n fl[k] = false) := fun h => HLU.out _ _ (by rw [HUp.out]; exact h)
                have HV : Hid (atV n (some fl[k]) = fl[k].bit ∧ byV (some fl[k]) = (j : Int)) := ⟨rfl, hj⟩
                have H1 : Hid (cntB l n fl[k] = true → (fl[k].bit < atV n (foK l n fl k) ∨ fl[k].bit = atV n (foK l n fl k) ∧ (j : Int) < byV (foK l n fl k)) → foK l n fl (k + 1) = some fl[k]) := by rw [← hj]; exact st1
                have H2 : Hid (cntB l n fl[k] = true → ¬ (fl[k].bit < atV n (foK l n fl k) ∨ fl[k].bit = atV n (foK l n fl k) ∧ (j : Int) < byV (foK l n fl k)) → foK l n fl (k + 1) = foK l n fl k) := by rw [← hj]; exact st2
                have H3 : Hid (cntB l n fl[k] = false → foK l n fl (k + 1) = foK l n fl k) := st3
                have HO3 : Hid (OutAt w2 q ge gg l.length { rnN l with win := (wn : Int) } ((wr.alloc (.cells #[.int .i64 Fl.nul.nd, .int .i64 Fl.nul.bit] 57)).setRow wr.heap.size #[.int .i64 fl[k].nd, .int .i64 fl[k].bit])) := h3
                have HO4 : Hid (∀ m, OutAt w2 q ge gg l.length { rnN l with win := (wn : Int) } (((wr.alloc (.cells #[.int .i64 Fl.nul.nd, .int .i64 Fl.nul.bit] 57)).setRow wr.heap.size #[.int .i64 fl[k].nd, .int .i64 fl[k].bit]).drewN m)) := fun m => h3.drawn m
                generalize hW3 : (wr.alloc (.cells #[.int .i64 Fl.nul.nd, .int .i64 Fl.nul.bit] 57)).setRow wr.heap.size #[.int .i64 fl[k].nd, .int .i64 fl[k].bit] = W3 at *
                generalize hfk : fl[k] = f at *
                clear hcf hc hR' h1 h3 st1 st2 st3 HUp HROk HR HOK HLU haf hvf hao hv' bb hfk HAl HWN HL HZ
                generalize l[j].up = up at *
                generalize hA : atV n (foK l n fl k) = A at *
                generalize hBv : byV (foK l n fl k) = Bv at *
                have HA : Hid (atV n (foK l n fl k) = A) := hA
                have HBv : Hid (byV (foK l n fl k) = Bv) := hBv
                clear hA hBv
                generalize lastK wn n fl k = lk at *
                cases up
                · have h5 : Hid (lastK wn n fl (k + 1) = lk) := by show _ = _; rw [HLs.out, HLn.out rfl, Bool.or_false]
                  have h4 : foK l n fl (k + 1) = foK l n fl k := H3.out (by rw [HCn.out]; rfl)
                  have h4a : Hid (atV n (foK l n fl (k + 1)) = A) := by show _ = _; rw [h4]; exact HA.out
                  have h4b : Hid (byV (foK l n fl (k + 1)) = Bv) := by show _ = _; rw [h4]; exact HBv.out
                  clear h4
                  clear HLs HLn HLb HCn H1 H2 H3 HV HA HBv 
                  go_upto_region 25 with (first | refine fl_ld hR rfl _ rfl rfl ?_ | (refine gn.sd f rfl _ _ rfl rfl rfl ?_; rw [hW3]))
                  clear hR gn g3 hW3
                  go_wp2
                  go_roundw
                  case rel => exact ⟨k + 1, by omega, by go_num, by rw [h4a.out], by rw [h4b.out], by rw [h5.out], HO3.out⟩
                  case measure => simp [intOf]; omega
                · by_cases t1 : f.bit = (n : Int) - 1
                  · have q1 : (f.bit == (n : Int) - 1) = true := by simpa using t1
                    have q2 : decide (f.bit < (n : Int) - 1) = false := by simp; omega
                    have h4 : foK l n fl (k + 1) = foK l n fl k := H3.out (by rw [HCn.out, q2]; rfl)
                    have h4a : Hid (atV n (foK l n fl (k + 1)) = A) := by show _ = _; rw [h4]; exact HA.out
                    have h4b : Hid (byV (foK l n fl (k + 1)) = Bv) := by show _ = _; rw [h4]; exact HBv.out
                    clear h4
                    by_cases t2 : (j : Int) = (wn : Int)
                    · have q3 : ((j : Int) == (wn : Int)) = true := by rw [eq_dec]; exact decide_eq_true t2
                      have h5 : Hid (lastK wn n fl (k + 1) = true) := by show _ = _; rw [HLs.out, HLb.out, decide_eq_true t2, decide_eq_true t1]; simp
                      clear HLs HLn HLb HCn H1 H2 H3 HV HA HBv t1 t2
                      go_upto_region 25 with (first | refine fl_ld hR rfl _ rfl rfl ?_ | (refine gn.sd f rfl _ _ rfl rfl rfl ?_; rw [hW3]))
                      clear hR gn g3 hW3
                      go_wp2
                      go_roundw
                      case rel => exact ⟨k + 1, by omega, by go_num, by rw [h4a.out], by rw [h4b.out], by rw [h5.out], HO3.out⟩
                      case measure => simp [intOf]; omega
                    · have q3 : ((j : Int) == (wn : Int)) = false := by rw [eq_dec]; exact decide_eq_false t2
                      have h5 : Hid (lastK wn n fl (k + 1) = lk) := by show _ = _; rw [HLs.out, HLb.out, decide_eq_false t2]; simp
                      clear HLs HLn HLb HCn H1 H2 H3 HV HA HBv t1 t2
                      go_upto_region 25 with (first | refine fl_ld hR rfl _ rfl rfl ?_ | (refine gn.sd f rfl _ _ rfl rfl rfl ?_; rw [hW3]))
                      clear hR gn g3 hW3
                      go_wp2
                      go_roundw
                      case rel => exact ⟨k + 1, by omega, by go_num, by rw [h4a.out], by rw [h4b.out], by rw [h5.out], HO3.out⟩
                      case measure => simp [intOf]; omega
                  · have q1 : (f.bit == (n : Int) - 1) = false := by simpa using t1
                    have h5 : Hid (lastK wn n fl (k + 1) = lk) := by show _ = _; rw [HLs.out, HLb.out, decide_eq_false t1]; simp
                    by_cases t3 : f.bit < (n : Int) - 1
                    · have q2 : decide (f.bit < (n : Int) - 1) = true := decide_eq_true t3
                      have hcn : cntB l n f = true := by rw [HCn.out, q2]; rfl
                      by_cases s1 : f.bit < A
                      · have q4 : decide (f.bit < A) = true := decide_eq_true s1
                        have h4 : foK l n fl (k + 1) = some f := H1.out hcn (.inl s1)
                        have h4a : Hid (atV n (foK l n fl (k + 1)) = f.bit) := by show _ = _; rw [h4]; exact HV.out.1
                        have h4b : Hid (byV (foK l n fl (k + 1)) = (j : Int)) := by show _ = _; rw [h4]; exact HV.out.2
                        clear h4
                        clear HLs HLn HLb HCn H1 H2 H3 HV HA HBv t1 t3 s1 hcn
                        go_upto_region 25 with (first | refine fl_ld hR rfl _ rfl rfl ?_ | (refine gn.sd f rfl _ _ rfl rfl rfl ?_; rw [hW3]))
                        clear hR gn g3 hW3
                        go_wp2_with fail
                        go_quiet (fail)
                        go_wp2
                        go_roundw
                        case rel => exact ⟨k + 1, by omega, by go_num, by rw [h4a.out], by rw [h4b.out], by rw [h5.out], HO4.out _⟩
                        case measure => simp [intOf]; omega
                      · have q4 : decide (f.bit < A) = false := decide_eq_false s1
                        by_cases s2 : f.bit = A
                        · have q5 : (f.bit == A) = true := by rw [eq_dec]; exact decide_eq_true s2
                          by_cases s3 : (j : Int) < Bv
                          · have q6 : decide ((j : Int) < Bv) = true := decide_eq_true s3
                            have h4 : foK l n fl (k + 1) = some f := H1.out hcn (.inr ⟨s2, s3⟩)
                            have h4a : Hid (atV n (foK l n fl (k + 1)) = f.bit) := by show _ = _; rw [h4]; exact HV.out.1
                            have h4b : Hid (byV (foK l n fl (k + 1)) = (j : Int)) := by show _ = _; rw [h4]; exact HV.out.2
                            clear h4
                            clear HLs HLn HLb HCn H1 H2 H3 HV HA HBv t1 t3 s1 s2 s3 hcn
                            go_upto_region 25 with (first | refine fl_ld hR rfl _ rfl rfl ?_ | (refine gn.sd f rfl _ _ rfl rfl rfl ?_; rw [hW3]))
                            clear hR gn g3 hW3
                            go_wp2_with fail
                            go_quiet (fail)
                            go_wp2
                            go_roundw
                            case rel => exact ⟨k + 1, by omega, by go_num, by rw [h4a.out], by rw [h4b.out], by rw [h5.out], HO4.out _⟩
                            case measure => simp [intOf]; omega
                          · have q6 : decide ((j : Int) < Bv) = false := decide_eq_false s3
                            have h4 : foK l n fl (k + 1) = foK l n fl k := H2.out hcn (fun h => h.elim s1 (fun h => s3 h.2))
                            have h4a : Hid (atV n (foK l n fl (k + 1)) = A) := by show _ = _; rw [h4]; exact HA.out
                            have h4b : Hid (byV (foK l n fl (k + 1)) = Bv) := by show _ = _; rw [h4]; exact HBv.out
                            clear h4
                            clear HLs HLn HLb HCn H1 H2 H3 HV HA HBv t1 t3 s1 s2 s3 hcn
                            go_upto_region 25 with (first | refine fl_ld hR rfl _ rfl rfl ?_ | (refine gn.sd f rfl _ _ rfl rfl rfl ?_; rw [hW3]))
                            clear hR gn g3 hW3
                            go_wp2
                            go_roundw
                            case rel => exact ⟨k + 1, by omega, by go_num, by rw [h4a.out], by rw [h4b.out], by rw [h5.out], HO3.out⟩
                            case measure => simp [intOf]; omega
                        · have q5 : (f.bit == A) = false := by rw [eq_dec]; exact decide_eq_false s2
                          have h4 : foK l n fl (k + 1) = foK l n fl k := H2.out hcn (fun h => h.elim s1 (fun h => s2 h.1))
                          have h4a : Hid (atV n (foK l n fl (k + 1)) = A) := by show _ = _; rw [h4]; exact HA.out
                          have h4b : Hid (byV (foK l n fl (k + 1)) = Bv) := by show _ = _; rw [h4]; exact HBv.out
                          clear h4
                          clear HLs HLn HLb HCn H1 H2 H3 HV HA HBv t1 t3 s1 s2 hcn
                          go_upto_region 25 with (first | refine fl_ld hR rfl _ rfl rfl ?_ | (refine gn.sd f rfl _ _ rfl rfl rfl ?_; rw [hW3]))
                          clear hR gn g3 hW3
                          go_wp2
                          go_roundw
                          case rel => exact ⟨k + 1, by omega, by go_num, by rw [h4a.out], by rw [h4b.out], by rw [h5.out], HO3.out⟩
                          case measure => simp [intOf]; omega
                    · have q2 : decide (f.bit < (n : Int) - 1) = false := decide_eq_false t3
                      have h4 : foK l n fl (k + 1) = foK l n fl k := H3.out (by rw [HCn.out, q2]; rfl)
                      have h4a : Hid (atV n (foK l n fl (k + 1)) = A) := by show _ = _; rw [h4]; exact HA.out
                      have h4b : Hid (byV (foK l n fl (k + 1)) = Bv) := by show _ = _; rw [h4]; exact HBv.out
                      clear h4
                      clear HLs HLn HLb HCn H1 H2 H3 HV HA HBv t1 t3
                      go_upto_region 25 with (first | refine fl_ld hR rfl _ rfl rfl ?_ | (refine gn.sd f rfl _ _ rfl rfl rfl ?_; rw [hW3]))
                      clear hR gn g3 hW3
                      go_wp2
                      go_roundw
                      case rel => exact ⟨k + 1, by omega, by go_num, by rw [h4a.out], by rw [h4b.out], by rw [h5.out], HO3.out⟩
                      case measure => simp [intOf]; omega
              · obtain rfl : k = fl.length := by omega
                have HFo : Hid (foK l n fl fl.length = fo l n fl) := rfl
                have HLa : Hid (lastK wn n fl fl.length = fl.any (lastB wn n)) := by show _ = _; unfold lastK; rw [List.take_length]
                rw [HFo.out, HLa.out]
                have O3 : Oa q0 rnZ nilV nilV wr := O1.kept (h1.bel.block _ O1.lt)
                have HRn : Hid (rnEnd l fl (rnW l) wn = match fo l n fl with
                  | some f => rnSpoil l (rnW l) f
                  | none => if al then { rnW l with errs := (rnW l).errs.set wn 23, bits := (n : Int) - 8 + 20 }
                    else if fl.any (lastB wn n) then { rnW l with got := hearK l wn l.length, errs := (rnW l).errs.set wn 22, bits := (n : Int) + 20 }
                    else { rnW l with got := hearK l wn l.length, sent := true, bits := (n : Int) + 3 }) := by
                  show _ = _
                  rw [← HL.out, ← HAl.out]; rfl
                have HM : Hid (∀ f, fo l n fl = some f → 0 ≤ f.nd ∧ f.nd < l.length ∧ 0 ≤ f.bit ∧ f.bit < 1000) := by
                  intro f hf
                  obtain ⟨h1, h2⟩ := fo_mem hf
                  unfold cntB at h2
                  simp at h2
                  obtain ⟨o1, o2, o3⟩ := HOK.out f h1
                  exact ⟨o1, o2, o3, by omega⟩
                have HWi : Hid (rnW l = { rnN l with win := (wn : Int), bits := 0, len := n }) := by show _ = _; unfold rnW rnN; rw [HWN.out, HL.out]; rfl
                generalize fo l n fl = o at *
                cases o with
                | some f =>
                  obtain ⟨m1, m2, m3, m4⟩ := HM.out f rfl
                  obtain ⟨j, hj⟩ : ∃ j : Nat, f.nd = j := ⟨f.nd.toNat, by omega⟩
                  have hjl : j < l.length := by omega
                  rw [show byV (some f) = (j : Int) from hj, show atV n (some f) = f.bit from rfl]
                  have H10 : Hid (OutAt w2 q ge gg l.length { rnN l with win := (wn : Int), errs := stuffK l 0 } wr) := by
                    show OutAt _ _ _ _ _ _ _; rw [stuffK_zero]; exact h1
                  clear HFo HLa O3 h1
                  go_wp2
                  go_loopw [23] (fun i x => ∃ k : Nat, k ≤ l.length ∧ i = .int .i64 k ∧ OutAt w2 q ge gg l.length { rnN l with win := (wn : Int), errs := stuffK l k } x) (fun i _ => l.length - (intOf i).toNat)
                  case atStart => exact ⟨0, Nat.zero_le _, rfl, H10.out⟩
                  case round =>
                    clear H10
                    obtain ⟨i, hi, rfl, h1⟩ := hrel
                    by_cases hil : i < l.length
                    · obtain ⟨ao', cap', hv', _, hc⟩ := (Senders.below HS1.out h1.bel)
                      obtain ⟨b, off, hao, hb, hR⟩ := hc i hil
                      have hao2 : ao = some ⟨b, off, none⟩ := by injection hv' with e1; rw [e1]; exact hao
                      subst hao2
                      have e0 : wr.cell? ⟨b, off + i * 14, none⟩ = some (.bool l[i].up) := hR 0 _ rfl
                      obtain ⟨c0, c1, c2, c3, c4⟩ := h1.ou.cells
                      obtain ⟨⟨z, e1⟩, e2⟩ := h1.ec i hil
                      simp only [sl] at c3
                      have HU : Hid (l[i].up = true → (stuffK l i).set i 20 = stuffK l (i + 1)) := fun hu => stuffK_up l i (by unfold upAt; rw [seAt_eq hil]; exact hu)
                      have HD : Hid (l[i].up = false → stuffK l i = stuffK l (i + 1)) := fun hu => stuffK_down l i (by unfold upAt; rw [seAt_eq hil]; exact hu)
                      have H4 : Hid (OutAt w2 q ge gg l.length { rnN l with win := (wn : Int), errs := (stuffK l i).set i 20 } (wr.setCell ⟨ge, i, none⟩ (.int .i64 20))) := h1.err i 20
                      have H1 : Hid (OutAt w2 q ge gg l.length { rnN l with win := (wn : Int), errs := stuffK l i } wr) := h1
                      generalize l[i].up = up at *
                      clear hc hR h1 hao hv' HOK HROk HR HRn HM HWi
                      cases up
                      · go_wp2
                        go_roundw
                        case rel => exact ⟨i + 1, by omega, by go_num, by rw [← HD.out rfl]; exact H1.out⟩
                        case measure => simp [intOf]; omega
                      · go_wp2
                        go_roundw
                        case rel => exact ⟨i + 1, by omega, by go_num, by rw [← HU.out rfl]; exact H4.out⟩
                        case measure => simp [intOf]; omega
                    · obtain rfl : i = l.length := by omega
                      obtain ⟨c0, c1, c2, c3, c4⟩ := h1.ou.cells
                      obtain ⟨⟨z, e3⟩, e4⟩ := h1.ec j hjl
                      simp only [sl] at c3
                      have hqg := h1.d1
                      have hfr := h1.ou.free 1
                      by_cases hbig : (n : Int) - 10 ≤ f.bit
                      · have d1' : decide ((n : Int) - 10 ≤ f.bit) = true := by simpa using hbig
                        have H9 : Hid _ := (h1.err j 22).set1 (f.bit + 24)
                        obtain ⟨R, h9, hRR⟩ : ∃ R : Rn, OutAt w2 q ge gg l.length R ((wr.setCell ⟨ge, j, none⟩ (.int .i64 22)).setCell ⟨q, 1, none⟩ (.int .i64 (f.bit + 24))) ∧ { rnN l with win := (wn : Int), errs := (stuffK l l.length).set j 22, bits := f.bit + 24 } = R := ⟨_, H9.out, rfl⟩
                        have O9 : Oa q0 rnZ nilV nilV ((wr.setCell ⟨ge, j, none⟩ (.int .i64 22)).setCell ⟨q, 1, none⟩ (.int .i64 (f.bit + 24))) := O1.kept (h9.bel.block _ O1.lt)
                        have O10 := O9.row R (sl ge l.length) (sl gg l.length)
                        obtain ⟨d0, d1, d2, d3', d4⟩ := O10.cells
                        have HX : Hid _ := ref_done (z := j) HROk.out h9 HZ.out (by rw [HR.out, HRn.out, HWi.out, ← hRR]; (unfold rnSpoil; simp only; rw [if_pos hbig, hj, Int.toNat_natCast]; simp))
                        clear HR HRn HWi hRR H9 O10 HROk HM
                        go_upto_region 39 with fail
                        go_wp2_with (first | refine h9.ou.ld rfl _ rfl rfl ?_ | refine O9.sd R (sl ge l.length) (sl gg l.length) rfl rfl rfl _ _ rfl rfl rfl ?_)
                        exact bodyPost_ret (v := .tuple #[.agg (R.out (sl ge l.length) (sl gg l.length)), .int .i64 j, .int .i64 0]) (by simp [results, Try.results9, go_sem, d0, d1, d2, d3', d4]; rfl) rfl HX.out
                      · have d1' : decide ((n : Int) - 10 ≤ f.bit) = false := by simpa using hbig
                        have H9 : Hid _ := h1.set1 (f.bit + 24)
                        obtain ⟨R, h9, hRR⟩ : ∃ R : Rn, OutAt w2 q ge gg l.length R (wr.setCell ⟨q, 1, none⟩ (.int .i64 (f.bit + 24))) ∧ { rnN l with win := (wn : Int), errs := stuffK l l.length, bits := f.bit + 24 } = R := ⟨_, H9.out, rfl⟩
                        have O9 : Oa q0 rnZ nilV nilV (wr.setCell ⟨q, 1, none⟩ (.int .i64 (f.bit + 24))) := O1.kept (h9.bel.block _ O1.lt)
                        have O10 := O9.row R (sl ge l.length) (sl gg l.length)
                        obtain ⟨d0, d1, d2, d3', d4⟩ := O10.cells
                        have HX : Hid _ := ref_done (z := j) HROk.out h9 HZ.out (by rw [HR.out, HRn.out, HWi.out, ← hRR]; (unfold rnSpoil; simp only; rw [if_neg hbig, hj]; simp))
                        clear HR HRn HWi hRR H9 O10 HROk HM
                        go_upto_region 39 with fail
                        go_wp2_with (first | refine h9.ou.ld rfl _ rfl rfl ?_ | refine O9.sd R (sl ge l.length) (sl gg l.length) rfl rfl rfl _ _ rfl rfl rfl ?_)
                        exact bodyPost_ret (v := .tuple #[.agg (R.out (sl ge l.length) (sl gg l.length)), .int .i64 j, .int .i64 0]) (by simp [results, Try.results9, go_sem, d0, d1, d2, d3', d4]; rfl) rfl HX.out
                | none =>
                  rw [show byV none = (-1 : Int) from rfl]
                  have hqg := h1.d1
                  have hqg2 := h1.d2
                  have hqg3 := h1.d3
                  cases al with
                  | true =>
                    obtain ⟨c0, c1, c2, c3, c4⟩ := h1.ou.cells
                    obtain ⟨⟨z, e3⟩, e4⟩ := h1.ec wn wl1
                    simp only [sl] at c3
                    have hfr := h1.ou.free 1
                    have H9 : Hid _ := (h1.err wn 23).set1 ((n : Int) - 8 + 20)
                    obtain ⟨R, h9, hRR⟩ : ∃ R : Rn, OutAt w2 q ge gg l.length R ((wr.setCell ⟨ge, wn, none⟩ (.int .i64 23)).setCell ⟨q, 1, none⟩ (.int .i64 ((n : Int) - 8 + 20))) ∧ { rnN l with win := (wn : Int), errs := (rnN l).errs.set wn 23, bits := (n : Int) - 8 + 20 } = R := ⟨_, H9.out, rfl⟩
                    have O9 : Oa q0 rnZ nilV nilV ((wr.setCell ⟨ge, wn, none⟩ (.int .i64 23)).setCell ⟨q, 1, none⟩ (.int .i64 ((n : Int) - 8 + 20))) := O1.kept (h9.bel.block _ O1.lt)
                    have O10 := O9.row R (sl ge l.length) (sl gg l.length)
                    obtain ⟨d0, d1, d2, d3', d4⟩ := O10.cells
                    have HX : Hid _ := ref_done (z := -1) HROk.out h9 HZ.out (by rw [HR.out, HRn.out, HWi.out, ← hRR]; exact ⟨rfl, rfl, rfl, rfl, rfl, rfl⟩)
                    clear HR HRn HWi hRR H9 O10 HROk HM
                    go_upto_region 42 with fail
                    go_wp2_with (first | refine h9.ou.ld rfl _ rfl rfl ?_ | refine O9.sd R (sl ge l.length) (sl gg l.length) rfl rfl rfl _ _ rfl rfl rfl ?_)
                    exact bodyPost_ret (v := .tuple #[.agg (R.out (sl ge l.length) (sl gg l.length)), .int .i64 (-1), .int .i64 0]) (by simp [results, Try.results9, go_sem, d0, d1, d2, d3', d4]; rfl) rfl HX.out
                  | false =>
                    have H10 : Hid (OutAt w2 q ge gg l.length { rnN l with win := (wn : Int), got := hearK l wn 0 } wr) := by
                      show OutAt _ _ _ _ _ _ _; rw [hearK_zero]; exact h1
                    generalize hla : fl.any (lastB wn n) = la at *
                    clear HFo O3 h1 hla HLa
                    go_wp2
                    go_loopw [24] (fun i x => ∃ k : Nat, k ≤ l.length ∧ i = .int .i64 k ∧ OutAt w2 q ge gg l.length { rnN l with win := (wn : Int), got := hearK l wn k } x) (fun i _ => l.length - (intOf i).toNat)
                    case atStart => exact ⟨0, Nat.zero_le _, rfl, H10.out⟩
                    case round =>
                      clear H10
                      obtain ⟨i, hi, rfl, h1⟩ := hrel
                      by_cases hil : i < l.length
                      · obtain ⟨ao', cap', hv', _, hc⟩ := (Senders.below HS1.out h1.bel)
                        obtain ⟨b, off, hao, hb, hR⟩ := hc i hil
                        have hao2 : ao = some ⟨b, off, none⟩ := by injection hv' with e1; rw [e1]; exact hao
                        subst hao2
                        have e0 : wr.cell? ⟨b, off + i * 14, none⟩ = some (.bool l[i].up) := hR 0 _ rfl
                        obtain ⟨c0, c1, c2, c3, c4⟩ := h1.ou.cells
                        obtain ⟨⟨z, e1⟩, e2⟩ := h1.gc i hil
                        simp only [sl] at c4
                        have HS : Hid ((hearK l wn i).set i (l[i].up && decide (i ≠ wn)) = hearK l wn (i + 1)) := by
                          have := hearK_set l wn i hil; unfold upAt at this; rw [seAt_eq hil] at this; exact this
                        have HT : Hid (∀ b : Bool, OutAt w2 q ge gg l.length { rnN l with win := (wn : Int), got := (hearK l wn i).set i b } (wr.setCell ⟨gg, i, none⟩ (.bool b)).drew) := fun b => (h1.gotSet i b).drawn 1
                        have lt1 := h1.ou.lt
                        have lt2 := h1.go.lt
                        generalize l[i].up = up at *
                        clear hc hR h1 hao hv' HOK HROk HR HRn HM HWi
                        cases up
                        · have HE : Hid (∀ b : Bool, b = false → (hearK l wn i).set i b = hearK l wn (i + 1)) := by rintro b rfl; rw [← HS.out]; rfl
                          clear HS
                          go_wp2_with fail
                          go_region
                          go_wp2
                          go_roundw
                          case rel => exact ⟨i + 1, by omega, by go_num, by rw [← HE.out _ rfl]; exact HT.out _⟩
                          case measure => simp [intOf]; omega
                        · have HE : Hid ((hearK l wn i).set i ((i : Int) != (wn : Int)) = hearK l wn (i + 1)) := by show _ = _; rw [← HS.out, ne_dec]; rfl
                          clear HS
                          go_wp2_with fail
                          go_region
                          go_wp2
                          go_roundw
                          case rel => exact ⟨i + 1, by omega, by go_num, by rw [← HE.out]; exact HT.out _⟩
                          case measure => simp [intOf]; omega
                      · obtain rfl : i = l.length := by omega
                        obtain ⟨c0, c1, c2, c3, c4⟩ := h1.ou.cells
                        obtain ⟨⟨z, e3⟩, e4⟩ := h1.ec wn wl1
                        simp only [sl] at c3
                        have hfr := h1.ou.free 1
                        have hfr2 := h1.ou.free 2
                        cases la with
                        | true =>
                          have H9 : Hid _ := (h1.err wn 22).set1 ((n : Int) + 20)
                          obtain ⟨R, h9, hRR⟩ : ∃ R : Rn, OutAt w2 q ge gg l.length R ((wr.setCell ⟨ge, wn, none⟩ (.int .i64 22)).setCell ⟨q, 1, none⟩ (.int .i64 ((n : Int) + 20))) ∧ { rnN l with win := (wn : Int), got := hearK l wn l.length, errs := (rnN l).errs.set wn 22, bits := (n : Int) + 20 } = R := ⟨_, H9.out, rfl⟩
                          have O9 : Oa q0 rnZ nilV nilV ((wr.setCell ⟨ge, wn, none⟩ (.int .i64 22)).setCell ⟨q, 1, none⟩ (.int .i64 ((n : Int) + 20))) := O1.kept (h9.bel.block _ O1.lt)
                          have O10 := O9.row R (sl ge l.length) (sl gg l.length)
                          obtain ⟨d0, d1, d2, d3', d4⟩ := O10.cells
                          have HX : Hid _ := ref_done (z := -1) HROk.out h9 HZ.out (by rw [HR.out, HRn.out, HWi.out, ← hRR]; exact ⟨rfl, rfl, rfl, rfl, rfl, rfl⟩)
                          clear HR HRn HWi hRR H9 O10 HROk HM
                          go_upto_region 50 with fail
                          go_wp2_with (first | refine h9.ou.ld rfl _ rfl rfl ?_ | refine O9.sd R (sl ge l.length) (sl gg l.length) rfl rfl rfl _ _ rfl rfl rfl ?_)
                          exact bodyPost_ret (v := .tuple #[.agg (R.out (sl ge l.length) (sl gg l.length)), .int .i64 (-1), .int .i64 0]) (by simp [results, Try.results9, go_sem, d0, d1, d2, d3', d4]; rfl) rfl HX.out
                        | false =>
                          have H9 : Hid _ := (h1.set2 true).set1 ((n : Int) + 3)
                          obtain ⟨R, h9, hRR⟩ : ∃ R : Rn, OutAt w2 q ge gg l.length R ((wr.setCell ⟨q, 2, none⟩ (.bool true)).setCell ⟨q, 1, none⟩ (.int .i64 ((n : Int) + 3))) ∧ { rnN l with win := (wn : Int), got := hearK l wn l.length, sent := true, bits := (n : Int) + 3 } = R := ⟨_, H9.out, rfl⟩
                          have O9 : Oa q0 rnZ nilV nilV ((wr.setCell ⟨q, 2, none⟩ (.bool true)).setCell ⟨q, 1, none⟩ (.int .i64 ((n : Int) + 3))) := O1.kept (h9.bel.block _ O1.lt)
                          have O10 := O9.row R (sl ge l.length) (sl gg l.length)
                          obtain ⟨d0, d1, d2, d3', d4⟩ := O10.cells
                          have HX : Hid _ := ref_done (z := -1) HROk.out h9 HZ.out (by rw [HR.out, HRn.out, HWi.out, ← hRR]; exact ⟨rfl, rfl, rfl, rfl, rfl, rfl⟩)
                          clear HR HRn HWi hRR H9 O10 HROk HM
                          go_upto_region 50 with fail
                          go_wp2_with (first | refine h9.ou.ld rfl _ rfl rfl ?_ | refine O9.sd R (sl ge l.length) (sl gg l.length) rfl rfl rfl _ _ rfl rfl rfl ?_)
                          exact bodyPost_ret (v := .tuple #[.agg (R.out (sl ge l.length) (sl gg l.length)), .int .i64 (-1), .int .i64 0]) (by simp [results, Try.results9, go_sem, d0, d1, d2, d3', d4]; rfl) rfl HX.out
          · have hd2 : (firstE (frsK l l.length) != 0) = true := by simpa using hz
            have HN : Hid (rndE l fl ≠ 0) := by show _ ≠ _; rw [HE2.out]; exact hz
            have HX : Hid (∀ x, Below q0 w x → RefRes l fl w (.returned (.tuple #[.agg (rnZ.out nilV nilV), .int .i64 (-1), .int .i64 (firstE (frsK l l.length))])) x) := fun x hx => HRes.out _ x HN.out (by rw [HE2.out]) hx
            generalize firstE (frsK l l.length) = fe at *
            clear HRes HROk F1 P1 HE2 HN
            go_wp2_with fail
            refine hFi.mono ?_
            rintro e w5 ⟨rfl, b5⟩
            have O5 := O3.below b5
            have O6 := O5.row rnZ nilV nilV
            obtain ⟨d0, d1, d2, d3', d4⟩ := O6.cells
            have B6 := below_row (B1.trans ((h3.below b5).bel.mono (by rw [← hq0]; exact hq0 ▸ B1.size))) (q := q0) (Nat.le_refl _) (by have := O5.lt; omega) (rnZ.out nilV nilV)
            have HY : Hid _ := HX.out _ B6
            clear HX B6 h3 b5 hFi
            go_wp2_with (refine O5.sd rnZ nilV nilV rfl rfl rfl _ _ rfl rfl rfl ?_)
            exact bodyPost_ret (v := .tuple #[.agg (rnZ.out nilV nilV), .int .i64 (-1), .int .i64 fe]) (by simp [results, Try.results9, go_sem, d0, d1, d2, d3', d4]; rfl) rfl HY.out
  · have hne : (lookV l.length fl != 0) = true := by simpa using h0
    have HE : Hid (rndE l fl = lookV l.length fl) := by show _ = _; unfold rndE; rw [if_pos h0]
    have HX : Hid (∀ x, Below q0 w x → RefRes l fl w (.returned (.tuple #[.agg (rnZ.out nilV nilV), .int .i64 (-1), .int .i64 (lookV l.length fl)])) x) := fun x hx => HRes.out _ x (by rw [HE.out]; exact h0) (by rw [HE.out]) hx
    obtain ⟨ao, cap, rfl, _⟩ := hS1
    obtain ⟨af, capf, rfl, _⟩ := hF1
    generalize lookV l.length fl = lv at *
    clear HRes HROk HE
    go_enter Try.func9, Try.ntmps9
    go_wp2_with fail
    refine hLk.mono ?_
    rintro e w2 ⟨rfl, rfl⟩
    have O6 := O1.row rnZ nilV nilV
    obtain ⟨d0, d1, d2, d3', d4⟩ := O6.cells
    have B6 := below_row B1 (q := q0) (Nat.le_refl _) (by have := O1.lt; omega) (rnZ.out nilV nilV)
    have HY : Hid _ := HX.out _ B6
    clear HX B6 hLk
    go_wp2_with (refine O1.sd rnZ nilV nilV rfl rfl rfl _ _ rfl rfl rfl ?_)
    exact bodyPost_ret (v := .tuple #[.agg (rnZ.out nilV nilV), .int .i64 (-1), .int .i64 lv]) (by simp [results, Try.results9, go_sem, d0, d1, d2, d3', d4]; rfl) rfl HY.out
end Go.Proofs.Ytjblekemmcmblaa
