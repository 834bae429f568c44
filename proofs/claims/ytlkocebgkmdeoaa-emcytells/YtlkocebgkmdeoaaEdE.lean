/- The document's Tick and Frame. -/
import Derived.Test.YtlkocebgkmdeoaaEdD
import Derived.Deep.DeepCutAuto
namespace Go.Proofs.Ytlkocebgkmdeoaa
open Go.RowKit
set_option linter.unusedVariables false
set_option maxRecDepth 1000000
set_option linter.unusedSimpArgs false
section
variable {d : Nat} {D : Nat → Prop} {s : Te} {vn vo vf v : Value} {w x y : World}
theorem Dtv.setQ (h : Dtv d D s vn vo vf w) (q : Nat) : Dtv d D { s with quiet := q } vn vo vf (w.setCell ⟨d, 2, none⟩ (.int .u64 q)) ∧ Kq (fun k => k = d) w (w.setCell ⟨d, 2, none⟩ (.int .u64 q)) := by
  have K3 := Kq.one w d 2 (.int .u64 q)
  exact ⟨⟨h.blk.set 2 _, h.rn.kq K3 (fun k e => (h.bn k e).2), h.ro.kq K3 (fun k e => (h.bo k e).2), h.rf.kq K3 (fun k e => (h.bf k e).2), h.pd, h.bn, h.bo, h.bf, h.cn, h.co, h.cf, fun k e => Nat.lt_of_lt_of_le (h.ln k e) K3.size, fun k e => Nat.lt_of_lt_of_le (h.lo k e) K3.size, fun k e => Nat.lt_of_lt_of_le (h.lf k e) K3.size⟩, K3⟩
theorem Dtv.cutF {b off n c : Nat} (h : Dtv d D s vn vo (.slice (some ⟨b, off, none⟩) n c) w) (hn : n = s.waits.length) (h1 : 1 ≤ n) : Dtv d D { s with waits := s.waits.tail } vn vo (.slice (some ⟨b, if c = 1 then off else off + 1 * 8, none⟩) (n - 1) (c - 1)) (w.setCell ⟨d, 5, none⟩ (.slice (some ⟨b, if c = 1 then off else off + 1 * 8, none⟩) (n - 1) (c - 1))) ∧ Kq (fun k => k = d) w (w.setCell ⟨d, 5, none⟩ (.slice (some ⟨b, if c = 1 then off else off + 1 * 8, none⟩) (n - 1) (c - 1))) := by
  subst hn
  have hc := h.cf _ _ _ rfl
  have hw := wide_drop h.rf 1 h1 hc
  rw [List.drop_one] at hw
  have K3 := Kq.one w d 5 (.slice (some ⟨b, if c = 1 then off else off + 1 * 8, none⟩) (s.waits.length - 1) (c - 1))
  have hob : ∀ k, (Value.slice (some ⟨b, if c = 1 then off else off + 1 * 8, none⟩) (s.waits.length - 1) (c - 1)).ownBlock = some k → (Value.slice (some ⟨b, off, none⟩) s.waits.length c).ownBlock = some k := fun k e => e
  refine ⟨⟨h.blk.set 5 _, h.rn.kq K3 (fun k e => (h.bn k e).2), h.ro.kq K3 (fun k e => (h.bo k e).2), hw.kq K3 (fun k e => (h.bf k (hob k e)).2), h.pd, h.bn, h.bo, fun k e => h.bf k (hob k e), h.cn, h.co, fun a2 n2 c2 e => ?_, fun k e => Nat.lt_of_lt_of_le (h.ln k e) K3.size, fun k e => Nat.lt_of_lt_of_le (h.lo k e) K3.size, fun k e => Nat.lt_of_lt_of_le (h.lf k (hob k e)) K3.size⟩, K3⟩
  injection e with e1 e2 e3
  omega
theorem dtick_any (h : Dtv d D s vn vo vf w) (hq : s.quiet ≤ 4294967296) : Calls Try.prog 14 #[.pointer (some ⟨d, 0, none⟩)] w fun e w' => e = .returned (.bool s.tick.may) ∧ Dt d D s.tick w' ∧ Kq (fun k => k = d) w w' := by
  obtain ⟨_, _, c2, _, _, c5, hf⟩ := h.cells
  have f2 := hf 2
  obtain ⟨ao, cc, hv⟩ := h.rf.shape
  subst hv
  by_cases hq0 : s.quiet = 0
  · have ht : s.tick = s := by unfold Te.tick; rw [hq0]; cases s; simp at hq0; subst hq0; rfl
    rw [ht]
    have HH := hidOf2 h
    by_cases hl : 0 < s.waits.length
    · have hm : s.may = true := by unfold Te.may; rw [decide_eq_true hl, decide_eq_true hq0]; rfl
      rw [hm]
      have hd : decide ((0 : Int) < (s.waits.length : Int)) = true := decide_eq_true (by omega)
      have hd' : decide (0 < s.waits.length) = true := decide_eq_true (by omega)
      rw [hq0] at c2
      generalize s.waits.length = n at *
      clear h ht hq hq0 hm
      go_enter Try.func14, Try.ntmps14
      go_wp2
      go_ret
      exact ⟨rfl, ⟨_, _, _, HH.out⟩, Kq.refl _ _⟩
    · have hm : s.may = false := by unfold Te.may; rw [decide_eq_false hl]; rfl
      rw [hm]
      have hd : decide ((0 : Int) < (s.waits.length : Int)) = false := decide_eq_false (by omega)
      have hd' : decide (0 < s.waits.length) = false := decide_eq_false (by omega)
      rw [hq0] at c2
      generalize s.waits.length = n at *
      clear h ht hq hq0 hm
      go_enter Try.func14, Try.ntmps14
      go_wp2
      go_ret
      exact ⟨rfl, ⟨_, _, _, HH.out⟩, Kq.refl _ _⟩
  · obtain ⟨q, hqq⟩ : ∃ q, s.quiet = q + 1 := ⟨s.quiet - 1, by omega⟩
    have z := h.setQ q
    have ht : s.tick = { s with quiet := q } := by unfold Te.tick; rw [hqq]; rfl
    rw [← ht] at z
    have HZ : Hid (∀ u : Int, u = (q : Int) → Dt d D s.tick (w.setCell ⟨d, 2, none⟩ (.int .u64 u)) ∧ Kq (fun k => k = d) w (w.setCell ⟨d, 2, none⟩ (.int .u64 u))) := fun u hu => by rw [hu]; exact ⟨⟨_, _, _, z.1⟩, z.2⟩
    have hmay : s.tick.may = (decide (0 < s.waits.length) && decide (q = 0)) := by rw [ht]; rfl
    rw [hqq] at c2
    have hql : q + 1 ≤ 4294967296 := by omega
    rw [hmay]
    generalize s.tick = T at *
    clear ht hmay hq hqq hq0 z
    by_cases hl : 0 < s.waits.length
    · have hd : decide ((0 : Int) < (s.waits.length : Int)) = true := decide_eq_true (by omega)
      have hd' : decide (0 < s.waits.length) = true := decide_eq_true (by omega)
      rw [decide_eq_true hl]
      generalize s.waits.length = n at *
      clear h hl
      by_cases h0 : q = 0
      · subst h0
        go_enter Try.func14, Try.ntmps14
        go_wp2
        go_ret
        exact ⟨rfl, HZ.out _ (by omega)⟩
      · have e0 : ((q : Int) == 0) = false := by rw [beq_eq_false_iff_ne]; omega
        rw [decide_eq_false h0]
        go_enter Try.func14, Try.ntmps14
        go_wp2
        all_goals
          go_ret
          exact ⟨rfl, HZ.out _ (by omega)⟩
    · have hd : decide ((0 : Int) < (s.waits.length : Int)) = false := decide_eq_false (by omega)
      have hd' : decide (0 < s.waits.length) = false := decide_eq_false (by omega)
      rw [decide_eq_false hl]
      generalize s.waits.length = n at *
      clear h hl
      by_cases h0 : q = 0
      · subst h0
        go_enter Try.func14, Try.ntmps14
        go_wp2
        go_ret
        exact ⟨rfl, HZ.out _ (by omega)⟩
      · have e0 : ((q : Int) == 0) = false := by rw [beq_eq_false_iff_ne]; omega
        go_enter Try.func14, Try.ntmps14
        go_wp2
        all_goals
          go_ret
          exact ⟨rfl, HZ.out _ (by omega)⟩
theorem dframe_results {Q : Nat} {A : Array Value} {b : Bool} {w : World} (h : Bc 42 Q A w) (hA : A.size = 8) (tmps : Array Value) (h2 : tmps[2]?.getD undef = .pointer (some ⟨Q, 0, none⟩)) (h3 : tmps[3]?.getD undef = .bool b) :
    (results Try.f16 tmps).run Try.prog w = .ok (.tuple #[.agg A, .bool b]) w := by
  have l0 := h.ld8 hA
  simp [Go.results, Try.results16, h2, h3, asAddr, l0]
set_option maxHeartbeats 1000000 in
theorem dFrame_no (h : Dtv d D s vn vo vf w) (hm : s.may = false) : Calls Try.prog 16 #[.pointer (some ⟨d, 0, none⟩)] w fun e w' => e = .returned (.tuple #[.agg z8, .bool false]) ∧ Below w.heap.size w w' := by
  obtain ⟨p, hp⟩ : ∃ p, w.heap.size = p := ⟨_, rfl⟩
  obtain ⟨W, hW⟩ : ∃ x', w.alloc (.cells z8 42) = x' := ⟨_, rfl⟩
  have B : Bc 42 p z8 W := by rw [← hW, ← hp]; exact heap_alloc_new w _
  have hb : Below w.heap.size w W := by rw [← hW]; exact (Below.refl _ _).alloc (Nat.le_refl _) _
  obtain ⟨_, _, c2, _, _, c5, hf⟩ := (h.below hb).cells
  have HB := hidOf2 (below_row hb (q := p) (by omega) z8)
  have hone : (z8.all fun v => v.oneCell') = true := by simp [z8, Value.oneCell']
  obtain ⟨ao, cc, hv⟩ := h.rf.shape
  subst hv
  have hwh : 0 < s.quiet ∨ (s.quiet = 0 ∧ s.waits.length = 0) := by
    simp [Te.may] at hm
    by_cases h0 : s.quiet = 0
    · right
      refine ⟨h0, ?_⟩
      rcases Nat.eq_zero_or_pos s.waits.length with e | e
      · exact e
      · exfalso
        cases hq : s.waits with
        | nil => rw [hq] at e; simp at e
        | cons a l => rw [hq] at hm; simp at hm; omega
    · left; omega
  clear h hb hm
  rcases hwh with h0 | ⟨h0, h1⟩
  · have d0 : decide ((0 : Int) < (s.quiet : Int)) = true := decide_eq_true (by omega)
    have d0' : decide (0 < s.quiet) = true := decide_eq_true h0
    generalize s.quiet = qq at *
    clear h0
    go_enter Try.func16, Try.ntmps16
    go_upto_region 1 with fail
    change Code.wp Try.prog _ _ _ (w.alloc (.cells z8 42))
    rw [hW]
    clear hW
    go_wp2_with (first | (refine B.st8 rfl (B := z8) rfl hone rfl _ _ rfl rfl rfl ?_))
    exact bodyPost_ret (dframe_results (B.row z8) rfl _ rfl rfl) rfl ⟨rfl, HB.out⟩
  · rw [h0] at c2
    rw [h1] at c5
    clear h0 h1
    go_enter Try.func16, Try.ntmps16
    go_upto_region 1 with fail
    change Code.wp Try.prog _ _ _ (w.alloc (.cells z8 42))
    rw [hW]
    clear hW
    go_wp2_with (first | (refine B.st8 rfl (B := z8) rfl hone rfl _ _ rfl rfl rfl ?_))
    exact bodyPost_ret (dframe_results (B.row z8) rfl _ rfl rfl) rfl ⟨rfl, HB.out⟩
set_option maxHeartbeats 2000000 in
theorem dFrame_yes (h : Dtv d D s vn vo vf w) (hm : s.may = true) (hDs : ∀ k, D k → k < w.heap.size) : Calls Try.prog 16 #[.pointer (some ⟨d, 0, none⟩)] w fun e w' => e = .returned (.tuple #[.agg s.fa, .bool true]) ∧ Dt d D s.out w' ∧ Kq (fun k => k = d ∨ w.heap.size ≤ k) w w' := by
  obtain ⟨hw0, hq0⟩ : 0 < s.waits.length ∧ s.quiet = 0 := by
    simp only [Te.may, Bool.and_eq_true, decide_eq_true_eq] at hm
    exact hm
  obtain ⟨f, r, hfr⟩ : ∃ f r, s.waits = f :: r := by
    cases hq : s.waits with
    | nil => rw [hq] at hw0; simp at hw0
    | cons f r => exact ⟨f, r, rfl⟩
  have e1 : s.fa = f.far := by unfold Te.fa; rw [hm, hfr]; rfl
  rw [e1]
  have HDS := hidOf2 hDs
  clear hDs
  obtain ⟨p, hp⟩ : ∃ p, w.heap.size = p := ⟨_, rfl⟩
  obtain ⟨W, hW⟩ : ∃ x', w.alloc (.cells z8 42) = x' := ⟨_, rfl⟩
  have B : Bc 42 p z8 W := by rw [← hW, ← hp]; exact heap_alloc_new w _
  have hb : Below w.heap.size w W := by rw [← hW]; exact (Below.refl _ _).alloc (Nat.le_refl _) _
  have hsW : W.heap.size = p + 1 := by rw [← hW, ← hp]; simp
  obtain ⟨X, hX⟩ : ∃ x', W.alloc (.cells f.far 42) = x' := ⟨_, rfl⟩
  have BX : Bc 42 (p + 1) f.far X := by rw [← hX, ← hsW]; exact heap_alloc_new W _
  have bX : Below W.heap.size W X := by rw [← hX]; exact (Below.refl _ _).alloc (Nat.le_refl _) _
  have BpX : Bc 42 p z8 X := Bc.below B bX
  have hXw : Below w.heap.size w X := hb.trans (bX.mono (by omega))
  have hdp : d < p := by rw [← hp]; exact h.blk.lt
  have hWt := h.below hb
  have hXt := h.below hXw
  obtain ⟨b9, o9, c9, e9, hb9, hR9⟩ := hWt.rf.at0 0 hw0
  subst e9
  have hz : o9 + 0 * 8 = o9 := by omega
  rw [hz] at hR9
  have hf0 : s.waits[0] = f := by simp [hfr]
  rw [hf0] at hR9
  obtain ⟨_, _, w2, _, _, w5, _⟩ := hWt.cells
  obtain ⟨_, x1, x2, _, _, x5, hf⟩ := hXt.cells
  have f2 := hf 2
  have f5 := hf 5
  rw [hq0] at w2
  have hc9 : s.waits.length ≤ c9 := hXt.cf _ _ _ rfl
  have hs9 : ∀ V, (Instr.sliceAt 31 (.slice (some ⟨b9, o9, none⟩) s.waits.length c9) (some (.int .i64 1)) none none).run Try.prog V = .ok (.slice (some ⟨b9, if c9 = 1 then o9 else o9 + 1 * 8, none⟩) (s.waits.length - 1) (c9 - 1)) V := fun V => cut_fromA Try.underlying31 info8F b9 o9 s.waits.length c9 1 hw0 hc9 V
  have z1 := hXt.cutF rfl hw0
  have z2 := z1.1.setQ s.inh
  have HZ : Hid (Bc 42 p z8 (((X.setCell ⟨d, 5, none⟩ (.slice (some ⟨b9, if c9 = 1 then o9 else o9 + 1 * 8, none⟩) (s.waits.length - 1) (c9 - 1))).setCell ⟨d, 2, none⟩ (.int .u64 s.inh))) ∧ Bc 42 (p + 1) f.far (((X.setCell ⟨d, 5, none⟩ (.slice (some ⟨b9, if c9 = 1 then o9 else o9 + 1 * 8, none⟩) (s.waits.length - 1) (c9 - 1))).setCell ⟨d, 2, none⟩ (.int .u64 s.inh))) ∧ Dtv d D s.out vn vo (.slice (some ⟨b9, if c9 = 1 then o9 else o9 + 1 * 8, none⟩) (s.waits.length - 1) (c9 - 1)) (((X.setCell ⟨d, 5, none⟩ (.slice (some ⟨b9, if c9 = 1 then o9 else o9 + 1 * 8, none⟩) (s.waits.length - 1) (c9 - 1))).setCell ⟨d, 2, none⟩ (.int .u64 s.inh))) ∧ Kq (fun k => k = d) w (((X.setCell ⟨d, 5, none⟩ (.slice (some ⟨b9, if c9 = 1 then o9 else o9 + 1 * 8, none⟩) (s.waits.length - 1) (c9 - 1))).setCell ⟨d, 2, none⟩ (.int .u64 s.inh)))) := by
    have k9 := z1.2.trans z2.2
    exact ⟨Bc.kq BpX k9 (by omega), Bc.kq BX k9 (by omega), z2.1, (Kq.of_below hXw).trans k9⟩
  have hn0 : (0 : Int) < (s.waits.length : Int) := by omega
  have hd0 : ((s.waits.length : Int) == 0) = false := by rw [beq_eq_false_iff_ne]; omega
  have hfs : f.far.size = 8 := rfl
  have hone := f.far_one
  clear h hWt hXt z1 z2 hm hq0 hfr e1 hw0 hf0 hf B BX BpX hb bX hXw
  generalize (if c9 = 1 then o9 else o9 + 1 * 8) = oo at *
  generalize s.waits.length - 1 = nn at *
  generalize c9 - 1 = cn at *
  generalize s.waits.length = n at *
  generalize s.inh = ih at *
  generalize s.out = SO at *
  go_enter Try.func16, Try.ntmps16
  go_upto_region 1 with fail
  change Code.wp Try.prog _ _ _ (w.alloc (.cells z8 42))
  rw [hW]
  go_upto_region 4 with (refine Tr.ldF hR9 rfl _ rfl rfl ?_; unfold Tr.far)
  change Code.wp Try.prog _ _ _ (W.alloc (.cells f.far 42))
  rw [hX]
  go_region
  obtain ⟨Z, hZ⟩ : ∃ z, ((X.setCell ⟨d, 5, none⟩ (.slice (some ⟨b9, oo, none⟩) nn cn)).setCell ⟨d, 2, none⟩ (.int .u64 ih)).drew = z := ⟨_, rfl⟩
  have HF : Hid (Bc 42 p z8 Z ∧ Bc 42 (p + 1) f.far Z ∧ Dtv d D SO vn vo (.slice (some ⟨b9, oo, none⟩) nn cn) Z ∧ Kq (fun k => k = d) w Z) := by
    rw [← hZ]
    obtain ⟨q1, q2, q3, q4⟩ := HZ.out
    exact ⟨q1, q2, q3.kq (Q := fun _ => False) ((Kq.refl _ _).drawn 1) (fun _ _ h => h), q4.drawn 1⟩
  rw [hZ]
  have B1 := HF.out.1
  have B2 := HF.out.2.1
  have hl := B2.ld8 hfs
  clear HZ hZ x1 x2 x5 f2 f5
  go_wp2_with (first | (refine ldG hl rfl _ rfl rfl ?_) | (refine B1.st8 rfl (B := f.far) hfs hone rfl _ _ rfl rfl rfl ?_))
  refine bodyPost_ret (dframe_results (B1.row f.far) hfs _ rfl rfl) rfl ⟨rfl, ?_⟩
  obtain ⟨q1, q2, q3, q4⟩ := HF.out
  have kr : Kq (fun k => k = p) Z (Z.setRow p f.far) := (Kq.refl (fun k => k = p) Z).row p rfl f.far
  have hpd : ¬ D p := fun e => by have := HDS.out p e; omega
  refine ⟨⟨_, _, _, q3.kq kr (fun k hk e => hpd (e ▸ hk))⟩, (q4.mono (fun k hk => .inl hk)).trans (kr.mono (fun k hk => .inr (by omega)))⟩
theorem dFrame_any (h : Dt d D s w) (hDs : ∀ k, D k → k < w.heap.size) : Calls Try.prog 16 #[.pointer (some ⟨d, 0, none⟩)] w fun e w' => e = .returned (.tuple #[.agg s.fa, .bool s.may]) ∧ Dt d D s.frame w' ∧ Kq (fun k => k = d ∨ w.heap.size ≤ k) w w' := by
  obtain ⟨vn, vo, vf, h⟩ := h
  cases hm : s.may with
  | false =>
    have e1 : s.fa = z8 := by unfold Te.fa; rw [hm]; rfl
    have e2 : s.frame = s := by unfold Te.frame; rw [hm]; rfl
    rw [e1, e2]
    exact (dFrame_no h hm).mono fun e w' ⟨h1, h2⟩ => ⟨h1, ⟨_, _, _, h.below h2⟩, .of_below h2⟩
  | true =>
    have e2 : s.frame = s.out := by unfold Te.frame; rw [hm]; rfl
    rw [e2]
    exact dFrame_yes h hm hDs
end
end Go.Proofs.Ytlkocebgkmdeoaa
