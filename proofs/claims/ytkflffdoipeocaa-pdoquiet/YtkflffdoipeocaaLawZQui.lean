/- The law PdoQuiet returns true whatever form and acts come in. -/
import Derived.Test.YtkflffdoipeocaaLawZSnd
namespace Go.Proofs.Ytkflffdoipeocaa
open Go.RowKit
set_option linter.unusedVariables false
set_option maxRecDepth 1000000
set_option linter.unusedSimpArgs false
/-- Ticks since it was sent last are counted, of one that goes at once. -/
def QI (s : Os) (N : Nat) (b : Bool) : Prop := s.on = true ∧ (s.free = true → (b = true → s.sent = true ∧ s.since = N) ∧ (b = false → s.sent = false))
theorem QI.step {s : Os} {N : Nat} {b : Bool} (h : QI s N b) (kd : Int) (o : Bool) (h3 : kd ≠ 3) (M : Nat) (hM : M = if kd = 2 then N + 1 else N) :
    (s.actO kd = true → s.free = true → (b = true → s.inh ≤ M) ∧ QI (s.act kd o) 0 true) ∧ ((s.actO kd = false ∨ s.free = false) → QI (s.act kd o) M b) := by
  obtain ⟨hon, hq⟩ := h
  by_cases h0 : kd = 0
  · subst h0
    simp only [show (0 : Int) ≠ 2 by decide, if_false] at hM
    rw [hM]
    show (s.evO = true → s.free = true → _ ∧ QI s.ev 0 true) ∧ ((s.evO = false ∨ _) → QI s.ev N b)
    refine ⟨fun h1 h2 => ?_, fun h1 => ?_⟩
    · have e : s.ev = s.snd := by simp [Os.ev, h1]
      rw [e]
      refine ⟨fun hb => ?_, hon, fun _ => ⟨fun _ => ⟨rfl, rfl⟩, fun h => by cases h⟩⟩
      obtain ⟨a1, a2⟩ := (hq h2).1 hb
      simp [Os.evO, hon, h2, Os.quiet, a1, a2] at h1
      exact h1
    · have h4 : s.evO = false := by
        rcases h1 with h1 | h1
        · exact h1
        · simp [Os.evO, h1]
      have e : s.ev = s.setW s.on := by simp [Os.ev, h4]
      rw [e]
      exact ⟨hon, hq⟩
  · by_cases h1 : kd = 1
    · subst h1
      simp only [show (1 : Int) ≠ 2 by decide, if_false] at hM
      rw [hM]
      show (s.syO = true → s.free = true → _ ∧ QI s.sy 0 true) ∧ ((s.syO = false ∨ _) → QI s.sy N b)
      refine ⟨fun h1 h2 => ?_, fun _ => ?_⟩
      · simp [Os.syO, h2] at h1
      · unfold Os.sy
        split
        · exact ⟨hon, hq⟩
        · rename_i hz
          have hf : s.free = false := by cases h9 : s.free <;> simp_all
          split
          · exact ⟨hon, fun h => by have : s.free = true := h; rw [hf] at this; cases this⟩
          · exact ⟨hon, fun h => by have : s.free = true := h; rw [hf] at this; cases this⟩
    · by_cases h2 : kd = 2
      · subst h2
        simp only [if_true] at hM
        subst hM
        show (s.tkO = true → s.free = true → _ ∧ QI s.tk 0 true) ∧ ((s.tkO = false ∨ _) → QI s.tk (N + 1) b)
        refine ⟨fun h1 h2 => ?_, fun h1 => ?_⟩
        · have e : s.tk = s.pass.snd := by simp [Os.tk, hon, h2, h1]
          rw [e]
          refine ⟨fun hb => ?_, hon, fun _ => ⟨fun _ => ⟨rfl, rfl⟩, fun h => by cases h⟩⟩
          obtain ⟨a1, a2⟩ := (hq h2).1 hb
          simp [Os.tkO, hon, h2, Os.quiet, Os.pass, a1, a2] at h1
          omega
        · cases hf : s.free
          · have e : s.tk = s := by simp [Os.tk, hf]
            rw [e]
            exact ⟨hon, fun h => by rw [hf] at h; cases h⟩
          · have h4 : s.tkO = false := by
              rcases h1 with h1 | h1
              · exact h1
              · rw [hf] at h1; cases h1
            have e : s.tk = s.pass := by simp [Os.tk, hon, hf, h4]
            rw [e]
            refine ⟨hon, fun _ => ⟨fun hb => ?_, fun hb => ?_⟩⟩
            · obtain ⟨a1, a2⟩ := (hq hf).1 hb
              exact ⟨a1, by show s.since + 1 = N + 1; omega⟩
            · exact (hq hf).2 hb
      · have e1 : s.act kd o = s := by simp [Os.act, h0, h1, h2, h3]
        have e2 : s.actO kd = false := by simp [Os.actO, h0, h1, h2]
        rw [if_neg h2] at hM
        rw [hM, e1, e2]
        exact ⟨(fun h => by cases h), fun _ => ⟨hon, hq⟩⟩
/-- What waits, and is quiet yet, n ticks later. -/
def QW (s : Os) (n : Nat) : Prop := s.on = true ∧ s.free = true ∧ s.waits = true ∧ s.sent = true ∧ n ≤ s.since ∧ s.since < s.inh
theorem QW.tick {s : Os} {n : Nat} (h : QW s n) : s.tkO = true ∨ s.tkO = false ∧ QW s.tk (n + 1) := by
  obtain ⟨h1, h2, h3, h4, h5, h6⟩ := h
  cases ho : s.tkO
  · right
    refine ⟨rfl, ?_⟩
    have e : s.tk = s.pass := by simp [Os.tk, h1, h2, ho]
    rw [e]
    simp [Os.tkO, h1, h2, h3, Os.quiet, Os.pass, h4] at ho
    exact ⟨h1, h2, h3, h4, by show n + 1 ≤ s.since + 1; omega, ho⟩
  · left; rfl
theorem QW.event {s : Os} (h1 : s.on = true) (h2 : s.free = true) (ho : s.evO = false) : QW s.ev 0 := by
  have e : s.ev = s.setW true := by simp [Os.ev, ho, h1]
  rw [e]
  simp [Os.evO, h1, h2, Os.quiet] at ho
  exact ⟨h1, h2, rfl, ho.1, Nat.zero_le _, ho.2⟩
theorem zqui_bad (t : Int) (i e : Nat) (hf : frmO t i e = false) (v : Value) (w : World) :
    Calls Try.prog 4 #[frmV t i e, v] w fun r w' => r = .returned (.bool true) ∧ Below w.heap.size w w' := by
  obtain ⟨w0, hw0⟩ : ∃ x, w.alloc (.cells #[.int .i64 t, .int .u64 i, .int .u64 e] 24) = x := ⟨_, rfl⟩
  have F0 := Fb.new w t i e
  rw [hw0] at F0
  have b0 : Below w.heap.size w w0 := by rw [← hw0]; exact (Below.refl _ _).alloc (Nat.le_refl _) _
  obtain ⟨c0, c1, c2⟩ := F0.cells
  have hN := newS_bad w0 t i e hf
  unfold frmV at hN ⊢
  generalize hp : w.heap.size = p at *
  go_enter Try.func4, Try.ntmps4
  go_wp2_with fail
  refine hN.mono ?_
  rintro r w1 ⟨rfl, B1⟩
  have F1 := Bc.below F0 B1
  have b1 : Below p w w1 := b0.trans (B1.mono (by have := b0.size; omega))
  clear c0 c1 c2 hN
  obtain ⟨c0, c1, c2⟩ := Fb.cells F1
  have hC := dchk_any w1 t i e
  rw [hf] at hC
  unfold frmV at hC
  go_wp2_with fail
  refine hC.mono ?_
  rintro r w2 ⟨rfl, B2⟩
  have b2 : Below p w w2 := b1.trans (B2.mono (by have := b1.size; omega))
  clear c0 c1 c2 hC
  have hL := lives15_any w2
  go_wp2_with fail
  refine hL.mono ?_
  rintro r w4 ⟨rfl, B4⟩
  go_wp2_with fail
  go_ret
  exact ⟨rfl, b2.trans (B4.mono (by have := b2.size; omega))⟩
/-- What stands in the loops of the law. -/
def QL (p g q t i e K N : Nat) (b : Bool) (w x : World) : Prop := (∃ s d : Os, (s.typ = t ∧ s.inh = i ∧ s.each = e) ∧ QI s N b ∧ s.ok ∧ s.few K ∧ d.ok ∧ d.few K ∧ Oa g s x ∧ Od q d x) ∧ Fb p t i e x ∧ Below p w x ∧ N ≤ K
set_option maxHeartbeats 4000000 in
theorem zqui_ok (t i e : Nat) (hf : frmO t i e = true) (v : Value) (l : List A15) (w : World) (hl : l.length ≤ 140737488351232) (hB : Wide 3 A15.c w v l) :
    Calls Try.prog 4 #[frmV t i e, v] w fun r w' => r = .returned (.bool true) ∧ Below w.heap.size w w' := by
  obtain ⟨ao, cap, rfl, _, hc⟩ := hB
  have HC : Hid (∀ (wr : World), Below w.heap.size w wr → ∀ k (hk : k < l.length), ∃ b off, ao = some ⟨b, off, none⟩ ∧ b < w.heap.size ∧ wr.rangeAt b (off + k * 3) (A15.c l[k])) := fun wr hb k hk => Wide.at hc hb k hk
  clear hc
  obtain ⟨w0, hw0⟩ : ∃ x, w.alloc (.cells #[.int .i64 t, .int .u64 i, .int .u64 e] 24) = x := ⟨_, rfl⟩
  have F0 := Fb.new w t i e
  rw [hw0] at F0
  have b0 : Below w.heap.size w w0 := by rw [← hw0]; exact (Below.refl _ _).alloc (Nat.le_refl _) _
  obtain ⟨c0, c1, c2⟩ := F0.cells
  have hN := newS_ok w0 t i e hf
  have ok0 := frmO_ok hf false false false 0 0
  have ok1 := frmO_ok hf true false false 0 0
  unfold frmV at hN ⊢
  generalize hp : w.heap.size = p at *
  go_enter Try.func4, Try.ntmps4
  go_wp2_with fail
  refine hN.mono ?_
  rintro r w1 ⟨g, rfl, hg, S1, B1⟩
  have F1 := Bc.below F0 B1
  have b1 : Below p w w1 := b0.trans (B1.mono (by have := b0.size; omega))
  have hpg : p < g := by have := Bc.lt F0; omega
  have lg := Bc.lt S1
  clear c0 c1 c2 hN hw0
  have hS := start_any S1 true
  rw [show (⟨t, i, e, false, false, 0, false, 0⟩ : Os).st true = ⟨t, i, e, true, false, 0, false, 0⟩ from rfl] at hS
  go_wp2_with fail
  refine hS.mono ?_
  rintro r w2 ⟨rfl, S2, T2⟩
  have F2 := Bc.two F1 T2 (by omega) (by omega)
  have b2 : Below p w w2 := b1.trans (T2.below (by have := b1.size; omega) (by omega) (by omega))
  obtain ⟨c0, c1, c2⟩ := Fb.cells F2
  have lg2 := Bc.lt S2
  have D3 := Od.new w2 t i e
  have S3 := Bc.alloc S2 (.cells #[.int .i64 t, .int .u64 i, .int .u64 e, .bool false, .bool false, .int .u64 0, .bool false, .int .i64 0] 34)
  have F3 := Bc.alloc F2 (.cells #[.int .i64 t, .int .u64 i, .int .u64 e, .bool false, .bool false, .int .u64 0, .bool false, .int .i64 0] 34)
  have b3 : Below p w (w2.alloc (.cells #[.int .i64 t, .int .u64 i, .int .u64 e, .bool false, .bool false, .int .u64 0, .bool false, .int .i64 0] 34)) := b2.alloc (by have := b2.size; omega) _
  obtain ⟨w3, hw3⟩ : ∃ x, w2.alloc (.cells #[.int .i64 t, .int .u64 i, .int .u64 e, .bool false, .bool false, .int .u64 0, .bool false, .int .i64 0] 34) = x := ⟨_, rfl⟩
  rw [hw3] at D3 S3 F3 b3
  clear F0 F1 F2 S1 S2 B1 b0 b1 b2 hS T2
  generalize hq3 : w2.heap.size = q at *
  have hS := dstart_any D3 true
  rw [show (⟨t, i, e, false, false, 0, false, 0⟩ : Os).st true = ⟨t, i, e, true, false, 0, false, 0⟩ from rfl] at hS
  go_wp2_with fail
  refine hS.mono ?_
  rintro r w4 ⟨rfl, D4, T4⟩
  have S4 := Bc.two S3 T4 (by omega) (by omega)
  have F4 := Bc.two F3 T4 (by omega) (by omega)
  have b4 : Below p w w4 := b3.trans (T4.below (by have := b3.size; omega) (by omega) (by omega))
  have HI : Hid (QL p g q t i e (256 * 0) 0 false w w4) := ⟨⟨_, _, ⟨rfl, rfl, rfl⟩, ⟨rfl, fun _ => ⟨(fun h => by cases h), fun _ => rfl⟩⟩, ok1, ⟨by simp, by simp⟩, ok1, ⟨by simp, by simp⟩, S4, D4⟩, F4, b4, by simp⟩
  clear hS S3 S4 D3 D4 F3 F4 T4 b3 b4 c0 c1 c2 hw3 hq3
  go_wp2_with fail
  go_loopw [8, 9, 10] (fun nv bv iv x => ∃ k N b, k ≤ l.length ∧ nv = .int .u64 (N : Nat) ∧ bv = .bool b ∧ iv = .int .i64 (k : Nat) ∧ QL p g q t i e (256 * k) N b w x) (fun _ _ iv _ => l.length - (intOf iv).toNat)
  case atStart => exact ⟨0, 0, false, by omega, rfl, rfl, rfl, HI.out⟩
  case round =>
    clear HI
    obtain ⟨k, N, b, hk, rfl, rfl, rfl, hQ⟩ := hrel
    have B5 : Below p w wr := hQ.2.2.1
    by_cases hkl : k < l.length
    · have hd : decide ((k : Int) < (l.length : Int)) = true := by simp; omega
      have HR : Hid (∀ (wr : World), Below p w wr → ∃ b off, ao = some ⟨b, off, none⟩ ∧ b < p ∧ wr.rangeAt b (off + k * 3) (A15.c l[k])) := fun x hx => HC.out x hx k hkl
      have hbn := l[k].h_n
      have hbk := l[k].h_kind
      generalize l[k] = a at *
      obtain ⟨bb, off, rfl, hb, hR⟩ := HR.out wr B5
      have HR2 : Hid (∀ x, Below p w x → x.rangeAt bb (off + k * 3) (A15.c a)) := fun x hx => by
        obtain ⟨b', off', e', _, h'⟩ := HR.out x hx
        injection e' with e'
        injection e' with e1 e2
        subst e1 e2
        exact h'
      obtain ⟨c0, c1, c2⟩ := A15.cells hR
      have HQ : Hid (QL p g q t i e (256 * k + 0) N b w wr) := hQ
      by_cases h3 : a.kind = 3
      · have d3 : (a.kind == 3) = true := by simp [h3]
        have HZ : Hid (QL p g q t i e (256 * (k + 1)) N b w wr) := by
          obtain ⟨⟨s, d, x1, x2, x3, x4, x5, x6, x7, x8⟩, y1, y2, y3⟩ := hQ
          exact ⟨⟨s, d, x1, x2, x3, Os.few_mono x4 (by omega), x5, Os.few_mono x6 (by omega), x7, x8⟩, y1, y2, by omega⟩
        clear hQ h3
        go_wp2_with fail
        go_roundw
        case rel => exact ⟨k + 1, N, b, by omega, rfl, rfl, rfl, HZ.out⟩
        case measure => simp [intOf]; omega
      · have d3 : (a.kind == 3) = false := by simp [h3]
        clear hQ
        go_wp2_with fail
        go_loopw [8, 9, 11] (fun nv bv jv x => ∃ j N b, j ≤ a.n + 1 ∧ nv = .int .u64 (N : Nat) ∧ bv = .bool b ∧ jv = .int .i64 (j : Nat) ∧ QL p g q t i e (256 * k + j) N b w x) (fun _ _ jv _ => a.n + 1 - (intOf jv).toNat)
        case atStart => exact ⟨0, N, b, by omega, rfl, rfl, rfl, HQ.out⟩
        case round =>
          clear HQ hR c0 c1 c2 B5
          obtain ⟨j, N, b, hj, rfl, rfl, rfl, hQ⟩ := hrel
          have B5 : Below p w wr := hQ.2.2.1
          have hR := HR2.out wr B5
          obtain ⟨c0, c1, c2⟩ := A15.cells hR
          by_cases hjn : j ≤ a.n
          · have hd2 : decide ((j : Int) ≤ (a.n : Int)) = true := by simp; omega
            obtain ⟨⟨s, d, x1, x2, x3, x4, x5, x6, x7, x8⟩, y1, y2, y3⟩ := hQ
            have hD := does_any x3 x5 (Os.few_mono x4 (by omega)) (Os.few_mono x6 (by omega)) x7 x8 (by have := Bc.lt x7; omega) a.kind a.on a.n hbn
            unfold actV at hD
            by_cases h2 : a.kind = 2
            · have d2 : (a.kind == 2) = true := by simp [h2]
              have HS := QI.step x2 a.kind a.on h3 (N + 1) (by simp [h2])
              have HF : Hid (s.free = freeO t ∧ (s.act a.kind a.on).typ = t ∧ (s.act a.kind a.on).inh = i ∧ (s.act a.kind a.on).each = e ∧ s.inh = i) := by
                obtain ⟨f1, f2, f3, _⟩ := Os.form_act (s := s) a.kind a.on
                exact ⟨by unfold Os.free; rw [x1.1], f1.trans x1.1, f2.trans x1.2.1, f3.trans x1.2.2, x1.2.1⟩
              have HX : Hid (∀ x N' b', QI (s.act a.kind a.on) N' b' → N' ≤ 256 * k + (j + 1) → Oa g (s.act a.kind a.on) x → Od q (d.act a.kind a.on) x → Two g q wr x → QL p g q t i e (256 * k + (j + 1)) N' b' w x) := fun x N' b' h1 h2 h3 h4 h5 => by
                obtain ⟨_, g1, g2, g3, _⟩ := HF.out
                exact ⟨⟨_, _, ⟨g1, g2, g3⟩, h1, Os.ok_of x3 (Os.form_act a.kind a.on), Os.few_act x4 a.kind a.on, Os.ok_of x5 (Os.form_act a.kind a.on), Os.few_act x6 a.kind a.on, h3, h4⟩, Bc.two y1 h5 (by omega) (by omega), y2.trans (h5.below (by have := y2.size; omega) (by omega) (by omega)), h2⟩
              have HFb : Hid (∀ x, Two g q wr x → Fb p t i e x) := fun x h5 => Bc.two y1 h5 (by omega) (by omega)
              have hN9 : N < 4611686018427387904 := by omega
              have HY : Hid (N ≤ 256 * k + j) := y3
              clear x1 x2 x3 x4 x5 x6 x7 x8 y1 y2 y3 h2 h3
              go_wp2_with (refine A15.ld hR rfl _ rfl rfl ?_; unfold A15.arr)
              refine hD.mono ?_
              rintro r w6 ⟨rfl, S6, D6, T6⟩
              have F6 := HFb.out w6 T6
              obtain ⟨z0, z1, z2⟩ := F6.cells
              have hFr := dfree_any w6 t
              cases ho : s.actO a.kind
              · have HZ : Hid _ := HX.out w6 (N + 1) b (HS.2 (.inl ho)) (by have := HY.out; omega) S6 D6 T6
                clear HS HX S6 D6 T6 hD ho
                go_wp2_with fail
                go_roundw
                case rel => exact ⟨j + 1, N + 1, b, by omega, rfl, rfl, rfl, HZ.out⟩
                case measure => simp [intOf]; omega
              · cases hfr : freeO t
                · have HZ : Hid _ := HX.out w6 (N + 1) b (HS.2 (.inr (HF.out.1.trans hfr))) (by have := HY.out; omega) S6 D6 T6
                  rw [hfr] at hFr
                  clear HS HX S6 D6 T6 hD ho
                  go_wp2_with (go_at_call 15; refine hFr.mono ?_; rintro r w7 ⟨rfl, hw7⟩; rw [hw7])
                  go_roundw
                  case rel => exact ⟨j + 1, N + 1, b, by omega, rfl, rfl, rfl, HZ.out⟩
                  case measure => simp [intOf]; omega
                · obtain ⟨HB1, HB2⟩ := HS.1 ho (HF.out.1.trans hfr)
                  have HZ : Hid _ := HX.out w6 0 true HB2 (by omega) S6 D6 T6
                  rw [hfr] at hFr
                  rw [HF.out.2.2.2.2] at HB1
                  clear HS HX S6 D6 T6 hD ho HB2
                  cases b
                  · have HB1 := HB1
                    clear HB1
                    go_wp2_with (go_at_call 15; refine hFr.mono ?_; rintro r w7 ⟨rfl, hw7⟩; rw [hw7])
                    go_roundw
                    case rel => exact ⟨j + 1, 0, true, by omega, rfl, rfl, rfl, HZ.out⟩
                    case measure => simp [intOf]; omega
                  · have d9 : decide ((N : Int) + 1 < (i : Int)) = false := by have := HB1 rfl; simp; omega
                    have d9' : decide (N + 1 < i) = false := by have := HB1 rfl; simp; omega
                    clear HB1
                    go_wp2_with (go_at_call 15; refine hFr.mono ?_; rintro r w7 ⟨rfl, hw7⟩; rw [hw7])
                    go_roundw
                    case rel => exact ⟨j + 1, 0, true, by omega, rfl, rfl, rfl, HZ.out⟩
                    case measure => simp [intOf]; omega
            · have d2 : (a.kind == 2) = false := by simp [h2]
              have HS := QI.step x2 a.kind a.on h3 (N) (by simp [h2])
              have HF : Hid (s.free = freeO t ∧ (s.act a.kind a.on).typ = t ∧ (s.act a.kind a.on).inh = i ∧ (s.act a.kind a.on).each = e ∧ s.inh = i) := by
                obtain ⟨f1, f2, f3, _⟩ := Os.form_act (s := s) a.kind a.on
                exact ⟨by unfold Os.free; rw [x1.1], f1.trans x1.1, f2.trans x1.2.1, f3.trans x1.2.2, x1.2.1⟩
              have HX : Hid (∀ x N' b', QI (s.act a.kind a.on) N' b' → N' ≤ 256 * k + (j + 1) → Oa g (s.act a.kind a.on) x → Od q (d.act a.kind a.on) x → Two g q wr x → QL p g q t i e (256 * k + (j + 1)) N' b' w x) := fun x N' b' h1 h2 h3 h4 h5 => by
                obtain ⟨_, g1, g2, g3, _⟩ := HF.out
                exact ⟨⟨_, _, ⟨g1, g2, g3⟩, h1, Os.ok_of x3 (Os.form_act a.kind a.on), Os.few_act x4 a.kind a.on, Os.ok_of x5 (Os.form_act a.kind a.on), Os.few_act x6 a.kind a.on, h3, h4⟩, Bc.two y1 h5 (by omega) (by omega), y2.trans (h5.below (by have := y2.size; omega) (by omega) (by omega)), h2⟩
              have HFb : Hid (∀ x, Two g q wr x → Fb p t i e x) := fun x h5 => Bc.two y1 h5 (by omega) (by omega)
              have hN9 : N < 4611686018427387904 := by omega
              have HY : Hid (N ≤ 256 * k + j) := y3
              clear x1 x2 x3 x4 x5 x6 x7 x8 y1 y2 y3 h2 h3
              go_wp2_with (refine A15.ld hR rfl _ rfl rfl ?_; unfold A15.arr)
              refine hD.mono ?_
              rintro r w6 ⟨rfl, S6, D6, T6⟩
              have F6 := HFb.out w6 T6
              obtain ⟨z0, z1, z2⟩ := F6.cells
              have hFr := dfree_any w6 t
              cases ho : s.actO a.kind
              · have HZ : Hid _ := HX.out w6 (N) b (HS.2 (.inl ho)) (by have := HY.out; omega) S6 D6 T6
                clear HS HX S6 D6 T6 hD ho
                go_wp2_with fail
                go_roundw
                case rel => exact ⟨j + 1, N, b, by omega, rfl, rfl, rfl, HZ.out⟩
                case measure => simp [intOf]; omega
              · cases hfr : freeO t
                · have HZ : Hid _ := HX.out w6 (N) b (HS.2 (.inr (HF.out.1.trans hfr))) (by have := HY.out; omega) S6 D6 T6
                  rw [hfr] at hFr
                  clear HS HX S6 D6 T6 hD ho
                  go_wp2_with (go_at_call 15; refine hFr.mono ?_; rintro r w7 ⟨rfl, hw7⟩; rw [hw7])
                  go_roundw
                  case rel => exact ⟨j + 1, N, b, by omega, rfl, rfl, rfl, HZ.out⟩
                  case measure => simp [intOf]; omega
                · obtain ⟨HB1, HB2⟩ := HS.1 ho (HF.out.1.trans hfr)
                  have HZ : Hid _ := HX.out w6 0 true HB2 (by omega) S6 D6 T6
                  rw [hfr] at hFr
                  rw [HF.out.2.2.2.2] at HB1
                  clear HS HX S6 D6 T6 hD ho HB2
                  cases b
                  · have HB1 := HB1
                    clear HB1
                    go_wp2_with (go_at_call 15; refine hFr.mono ?_; rintro r w7 ⟨rfl, hw7⟩; rw [hw7])
                    go_roundw
                    case rel => exact ⟨j + 1, 0, true, by omega, rfl, rfl, rfl, HZ.out⟩
                    case measure => simp [intOf]; omega
                  · have d9 : decide ((N : Int) < (i : Int)) = false := by have := HB1 rfl; simp; omega
                    have d9' : decide (N < i) = false := by have := HB1 rfl; simp; omega
                    clear HB1
                    go_wp2_with (go_at_call 15; refine hFr.mono ?_; rintro r w7 ⟨rfl, hw7⟩; rw [hw7])
                    go_roundw
                    case rel => exact ⟨j + 1, 0, true, by omega, rfl, rfl, rfl, HZ.out⟩
                    case measure => simp [intOf]; omega
          · have hd2 : decide ((j : Int) ≤ (a.n : Int)) = false := by simp; omega
            have HZ : Hid (QL p g q t i e (256 * (k + 1)) N b w wr) := by
              obtain ⟨⟨s, d, x1, x2, x3, x4, x5, x6, x7, x8⟩, y1, y2, y3⟩ := hQ
              exact ⟨⟨s, d, x1, x2, x3, Os.few_mono x4 (by omega), x5, Os.few_mono x6 (by omega), x7, x8⟩, y1, y2, by omega⟩
            clear hQ
            go_wp2_with fail
            go_roundw
            case rel => exact ⟨k + 1, N, b, by omega, rfl, rfl, rfl, HZ.out⟩
            case measure => simp [intOf]; omega
    · have hd : decide ((k : Int) < (l.length : Int)) = false := by simp; omega
      obtain ⟨⟨s, d, x1, x2, x3, x4, x5, x6, x7, x8⟩, y1, y2, y3⟩ := hQ
      have hon : s.on = true := x2.1
      have hfr : s.free = freeO t := by unfold Os.free; rw [x1.1]
      have hS := event_any x7
      have ht : t ≤ 255 := by have := Os.typ_le x3; omega
      have hkw : s.few 2305843009213693952 := Os.few_mono x4 (by omega)
      go_wp2_with fail
      refine hS.mono ?_
      rintro r w6 ⟨rfl, S6, T6⟩
      have F6 := Bc.two y1 T6 (by omega) (by omega)
      have b6 : Below p w w6 := y2.trans (T6.below (by have := y2.size; omega) (by omega) (by omega))
      obtain ⟨c0, c1, c2⟩ := Fb.cells F6
      obtain ⟨f1, f2, f3, f4⟩ := Os.form_ev (s := s)
      have ok6 : s.ev.ok := Os.ok_of x3 ⟨f1, f2, f3, trivial⟩
      have fw6 := Os.few_ev hkw
      have ht6 : s.ev.typ = t ∧ s.ev.inh = i := ⟨f1.trans x1.1, f2.trans x1.2.1⟩
      clear hS x4 x5 x6 x7 x8 y1 y2 y3 T6 x2 hkw
      by_cases h1 : 1 ≤ t ∧ t ≤ 240
      · obtain ⟨h1, h2⟩ := h1
        have d1 : decide ((1 : Int) ≤ (t : Int)) = true := by simp; omega
        have d2 : decide ((t : Int) ≤ 240) = true := by simp; omega
        have hz : s.free = false := by rw [hfr]; simp [freeO]; omega
        have e1 : s.evO = false := by simp [Os.evO, hz]
        have hL := lives15_any w6
        clear S6 F6
        rw [e1]
        go_wp2_with (go_at_call 11; refine hL.mono ?_; rintro r w7 ⟨rfl, B7⟩)
        go_ret
        exact ⟨rfl, b6.trans (B7.mono (by have := b6.size; omega))⟩
      · by_cases h0 : t = 0
        · subst h0
          have hz : s.free = false := by rw [hfr]; rfl
          have e1 : s.evO = false := by simp [Os.evO, hz]
          have e2 : s.ev = s.setW true := by simp [Os.ev, e1, hon]
          rw [e2] at S6 ok6 fw6
          have z1 : (s.setW true).free = false := hz
          have g1 : (s.setW true).syO = true ∧ (s.setW true).sy = (s.setW true).setW false := by
            have : (s.setW true).on = true := hon
            have h4 : (s.setW true).typ = 0 := x1.1
            simp [Os.syO, Os.sy, z1, this, h4]
            rfl
          have g2 : ((s.setW true).setW false).syO = false := by
            have : ((s.setW true).setW false).on = true := hon
            have h4 : ((s.setW true).setW false).typ = 0 := x1.1
            have h5 : ((s.setW true).setW false).free = false := hz
            simp [Os.syO, h5, this, h4]
            rfl
          have hS := sync_any ok6 S6 0
          rw [g1.1, g1.2] at hS
          have ok7 : ((s.setW true).setW false).ok := Os.ok_of ok6 ⟨rfl, rfl, rfl, trivial⟩
          rw [e1]
          go_wp2_with fail
          refine hS.mono ?_
          rintro r w7 ⟨rfl, S7, T7⟩
          have b7 : Below p w w7 := b6.trans (T7.below (by have := b6.size; omega) (by omega) (by omega))
          have hS2 := sync_any ok7 S7 0
          rw [g2] at hS2
          clear hS S6 T7 b6 F6 c0 c1 c2
          go_wp2_with fail
          refine hS2.mono ?_
          rintro r w8 ⟨rfl, S8, T8⟩
          have b8 : Below p w w8 := b7.trans (T8.below (by have := b7.size; omega) (by omega) (by omega))
          have hL := lives15_any w8
          clear hS2 S7 S8 T8 b7
          go_wp2_with (go_at_call 11; refine hL.mono ?_; rintro r w9 ⟨rfl, B9⟩)
          go_ret
          exact ⟨rfl, b8.trans (B9.mono (by have := b8.size; omega))⟩
        · have d0 : ((t : Int) == 0) = false := by simp; omega
          have d1 : decide ((1 : Int) ≤ (t : Int)) = true := by simp; omega
          have d2 : decide ((t : Int) ≤ 240) = false := by simp; omega
          have hz : s.free = true := by
            rw [hfr]
            have := x3.1
            rw [x1.1] at this
            simp [isO] at this
            rcases this with h | h
            · omega
            · exact h
          have HI : Hid (∃ o : Bool, s.evO = o ∧ ∃ s2 : Os, (o = false → QW s2 0) ∧ s2.ok ∧ s2.inh = i ∧ s2.few (2305843009213693952 + 0) ∧ Oa g s2 w6) :=
            ⟨_, rfl, s.ev, (fun ho => QW.event hon hz ho), ok6, ht6.2, fw6, S6⟩
          generalize s.evO = o at *
          have HI2 : Hid (∃ s2 : Os, (o = false → QW s2 0) ∧ s2.ok ∧ s2.inh = i ∧ s2.few (2305843009213693952 + 0) ∧ Oa g s2 w6) := by
            obtain ⟨o', rfl, h⟩ := HI.out
            exact h
          have HF : Hid (Fb p t i e w6 ∧ Below p w w6) := ⟨F6, b6⟩
          clear HI S6 F6 b6 ok6 ht6 fw6 x1 x3 hon hfr hz h1 f1 f2 f3 f4
          go_wp2_with fail
          go_loopw [14, 15] (fun ov nv x => ∃ n o, ov = .bool o ∧ nv = .int .u64 (n : Nat) ∧ n ≤ 3000 ∧ (∃ s2 : Os, (o = false → QW s2 n) ∧ s2.ok ∧ s2.inh = i ∧ s2.few (2305843009213693952 + n) ∧ Oa g s2 x) ∧ Fb p t i e x ∧ Below p w x) (fun _ nv _ => 3000 - (intOf nv).toNat)
          case atStart => exact ⟨0, o, rfl, rfl, by omega, HI2.out, HF.out.1, HF.out.2⟩
          case round =>
            clear HI2 HF c0 c1 c2
            obtain ⟨n, o, rfl, rfl, hn, ⟨s2, hw, ok2, hi2, fw2, S2⟩, F2, B2⟩ := hrel
            obtain ⟨c0, c1, c2⟩ := Fb.cells F2
            have hL := lives15_any wr
            cases o
            · have hW := hw rfl
              have hni : n < i := by obtain ⟨_, _, _, _, q1, q2⟩ := hW; omega
              have e1 : decide ((n : Int) < (i : Int)) = true := by simp; omega
              by_cases h30 : n < 3000
              · have e2 : decide ((n : Int) < 3000) = true := by simp; omega
                have hS := tick_any ok2 S2 (by have := fw2.1; omega)
                go_wp2_with fail
                refine hS.mono ?_
                rintro r w7 ⟨rfl, S7, T7⟩
                have HZ : Hid ((∃ s3 : Os, (s2.tkO = false → QW s3 (n + 1)) ∧ s3.ok ∧ s3.inh = i ∧ s3.few (2305843009213693952 + (n + 1)) ∧ Oa g s3 w7) ∧ Fb p t i e w7 ∧ Below p w w7) := by
                  obtain ⟨g1, g2, g3, _⟩ := Os.form_tk (s := s2)
                  refine ⟨⟨s2.tk, fun ho => ?_, Os.ok_of ok2 ⟨g1, g2, g3, trivial⟩, g2.trans hi2, Os.few_mono (Os.few_tk fw2) (by omega), S7⟩, Bc.two F2 T7 (by omega) (by omega), B2.trans (T7.below (by have := B2.size; omega) (by omega) (by omega))⟩
                  rcases QW.tick hW with h | h
                  · rw [h] at ho; cases ho
                  · exact h.2
                generalize s2.tkO = o2 at *
                clear hS S7 T7 S2 F2 B2 hW hw ok2 hi2 fw2 c0 c1 c2 hL
                go_wp2_with fail
                go_roundw
                case rel => exact ⟨n + 1, o2, rfl, rfl, by omega, HZ.out.1, HZ.out.2.1, HZ.out.2.2⟩
                case measure => simp [intOf]; omega
              · have e2 : decide ((n : Int) < 3000) = false := by simp; omega
                have e3 : decide ((3000 : Int) < (i : Int)) = true := by simp; omega
                clear hW hw S2 F2
                go_wp2_with (go_at_call 11; refine hL.mono ?_; rintro r w9 ⟨rfl, B9⟩)
                go_ret
                exact ⟨rfl, B2.trans (B9.mono (by have := B2.size; omega))⟩
            · clear hw S2 F2
              by_cases hni : n < i
              · have e1 : decide ((n : Int) < (i : Int)) = true := by simp; omega
                by_cases h30 : n < 3000
                · have e2 : decide ((n : Int) < 3000) = true := by simp; omega
                  go_wp2_with (go_at_call 11; refine hL.mono ?_; rintro r w9 ⟨rfl, B9⟩)
                  go_ret
                  exact ⟨rfl, B2.trans (B9.mono (by have := B2.size; omega))⟩
                · have e2 : decide ((n : Int) < 3000) = false := by simp; omega
                  go_wp2_with (go_at_call 11; refine hL.mono ?_; rintro r w9 ⟨rfl, B9⟩)
                  go_ret
                  exact ⟨rfl, B2.trans (B9.mono (by have := B2.size; omega))⟩
              · have e1 : decide ((n : Int) < (i : Int)) = false := by simp; omega
                go_wp2_with (go_at_call 11; refine hL.mono ?_; rintro r w9 ⟨rfl, B9⟩)
                go_ret
                exact ⟨rfl, B2.trans (B9.mono (by have := B2.size; omega))⟩
theorem zqui_walk (f : F15) (v : Value) (l : List A15) (w : World) (hl : l.length ≤ 140737488351232) (hB : Wide 3 A15.c w v l) :
    Calls Try.prog 4 #[.agg f.arr, v] w fun r w' => r = .returned (.bool true) ∧ Below w.heap.size w w' := by
  cases h : frmO f.typ f.inh f.each
  · exact zqui_bad f.typ f.inh f.each h v w
  · obtain ⟨n, hn⟩ := frmO_nat h
    rw [hn] at h
    have := zqui_ok n f.inh f.each h v l w hl hB
    unfold frmV at this
    rw [← hn] at this
    exact this
end Go.Proofs.Ytkflffdoipeocaa
