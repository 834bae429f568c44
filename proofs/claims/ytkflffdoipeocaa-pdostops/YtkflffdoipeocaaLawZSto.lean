/- The law PdoStops returns true whatever form and acts come in. -/
import Derived.Test.YtkflffdoipeocaaLawZSnd
namespace Go.Proofs.Ytkflffdoipeocaa
open Go.RowKit
set_option linter.unusedVariables false
set_option maxRecDepth 1000000
set_option linter.unusedSimpArgs false
theorem zsto_bad (t : Int) (i e : Nat) (hf : frmO t i e = false) (v v2 : Value) (w : World) :
    Calls Try.prog 7 #[frmV t i e, v, v2] w fun r w' => r = .returned (.bool true) ∧ Below w.heap.size w w' := by
  obtain ⟨w0, hw0⟩ : ∃ x, w.alloc (.cells #[.int .i64 t, .int .u64 i, .int .u64 e] 24) = x := ⟨_, rfl⟩
  have F0 := Fb.new w t i e
  rw [hw0] at F0
  have b0 : Below w.heap.size w w0 := by rw [← hw0]; exact (Below.refl _ _).alloc (Nat.le_refl _) _
  obtain ⟨c0, c1, c2⟩ := F0.cells
  have hN := newS_bad w0 t i e hf
  unfold frmV at hN ⊢
  generalize hp : w.heap.size = p at *
  go_enter Try.func7, Try.ntmps7
  go_wp2_with fail
  refine hN.mono ?_
  rintro r w1 ⟨rfl, B1⟩
  have F1 := Bc.below F0 B1
  have b1 : Below p w w1 := b0.trans (B1.mono (by have := b0.size; omega))
  clear c0 c1 c2 hN
  obtain ⟨c0, c1, c2⟩ := Fb.cells F1
  have hN := newS_bad w1 t i e hf
  unfold frmV at hN
  go_wp2_with fail
  refine hN.mono ?_
  rintro r w2 ⟨rfl, B2⟩
  have b2 : Below p w w2 := b1.trans (B2.mono (by have := b1.size; omega))
  clear c0 c1 c2 hN
  have hL := lives15_any w2
  go_wp2_with fail
  refine hL.mono ?_
  rintro r w4 ⟨rfl, B4⟩
  go_wp2_with fail
  go_ret
  exact ⟨rfl, b2.trans (B4.mono (by have := b2.size; omega))⟩
theorem Os.off_all {s : Os} (h : s.on = false) : s.evO = false ∧ s.syO = false ∧ s.tkO = false ∧ s.ev.on = false ∧ s.sy.on = false ∧ s.tk.on = false := by
  have := Os.form_ev (s := s)
  have h2 := Os.form_sy (s := s)
  have h3 := Os.form_tk (s := s)
  refine ⟨by simp [Os.evO, h], by simp [Os.syO, h], by simp [Os.tkO, h], this.2.2.2.trans h, h2.2.2.2.trans h, h3.2.2.2.trans h⟩
set_option maxHeartbeats 4000000 in
theorem zsto_ok (t i e : Nat) (hf : frmO t i e = true) (v : Value) (l : List A15) (v2 : Value) (l2 : List A15) (w : World) (hl : l.length ≤ 140737488351232) (hl2 : l2.length ≤ 140737488351232) (hB : Wide 3 A15.c w v l) (hB2 : Wide 3 A15.c w v2 l2) :
    Calls Try.prog 7 #[frmV t i e, v, v2] w fun r w' => r = .returned (.bool true) ∧ Below w.heap.size w w' := by
  obtain ⟨ao, cap, rfl, _, hc⟩ := hB
  have HC : Hid (∀ (wr : World), Below w.heap.size w wr → ∀ k (hk : k < l.length), ∃ b off, ao = some ⟨b, off, none⟩ ∧ b < w.heap.size ∧ wr.rangeAt b (off + k * 3) (A15.c l[k])) := fun wr hb k hk => Wide.at hc hb k hk
  obtain ⟨ao2, cap2, rfl, _, hc2⟩ := hB2
  have HC2 : Hid (∀ (wr : World), Below w.heap.size w wr → ∀ k (hk : k < l2.length), ∃ b off, ao2 = some ⟨b, off, none⟩ ∧ b < w.heap.size ∧ wr.rangeAt b (off + k * 3) (A15.c l2[k])) := fun wr hb k hk => Wide.at hc2 hb k hk
  clear hc hc2
  obtain ⟨w0, hw0⟩ : ∃ x, w.alloc (.cells #[.int .i64 t, .int .u64 i, .int .u64 e] 24) = x := ⟨_, rfl⟩
  have F0 := Fb.new w t i e
  rw [hw0] at F0
  have b0 : Below w.heap.size w w0 := by rw [← hw0]; exact (Below.refl _ _).alloc (Nat.le_refl _) _
  obtain ⟨c0, c1, c2⟩ := F0.cells
  have hN := newS_ok w0 t i e hf
  unfold frmV at hN ⊢
  generalize hp : w.heap.size = p at *
  go_enter Try.func7, Try.ntmps7
  go_wp2_with fail
  refine hN.mono ?_
  rintro r w1 ⟨g, rfl, hg, S1, B1⟩
  have F1 := Bc.below F0 B1
  have b1 : Below p w w1 := b0.trans (B1.mono (by have := b0.size; omega))
  have hpg : p < g := by have := Bc.lt F0; omega
  have lg := Bc.lt S1
  clear c0 c1 c2 hN
  obtain ⟨c0, c1, c2⟩ := Fb.cells F1
  have hN := newS_ok w1 t i e hf
  unfold frmV at hN
  go_wp2_with fail
  refine hN.mono ?_
  rintro r w2 ⟨h, rfl, hh, V2, B2⟩
  have F2 := Bc.below F1 B2
  have S2 := Bc.below S1 B2
  have b2 : Below p w w2 := b1.trans (B2.mono (by have := b1.size; omega))
  have hgh : g < h := by omega
  have lh := Bc.lt V2
  clear c0 c1 c2 hN
  obtain ⟨c0, c1, c2⟩ := Fb.cells F2
  have D4 := Od.new w2 t i e
  obtain ⟨w4, hw4⟩ : ∃ x, w2.alloc (.cells #[.int .i64 t, .int .u64 i, .int .u64 e, .bool false, .bool false, .int .u64 0, .bool false, .int .i64 0] 34) = x := ⟨_, rfl⟩
  have S4 := Bc.alloc S2 (.cells #[.int .i64 t, .int .u64 i, .int .u64 e, .bool false, .bool false, .int .u64 0, .bool false, .int .i64 0] 34)
  have V4 := Bc.alloc V2 (.cells #[.int .i64 t, .int .u64 i, .int .u64 e, .bool false, .bool false, .int .u64 0, .bool false, .int .i64 0] 34)
  have b4 : Below p w (w2.alloc (.cells #[.int .i64 t, .int .u64 i, .int .u64 e, .bool false, .bool false, .int .u64 0, .bool false, .int .i64 0] 34)) := b2.alloc (by have := b2.size; omega) _
  rw [hw4] at D4 S4 V4 b4
  have ok0 := frmO_ok hf false false false 0 0
  clear F0 F1 F2 S1 S2 V2 B1 B2 b0 b1 b2 hw0
  generalize hq3 : w2.heap.size = q at *
  have hS := start_any S4 true
  go_wp2_with fail
  refine hS.mono ?_
  rintro r w5 ⟨rfl, S5, T5⟩
  have V5 := Bc.two V4 T5 (by omega) (by omega)
  have D5 := Bc.two D4 T5 (by omega) (by omega)
  have b5 : Below p w w5 := b4.trans (T5.below (by have := b4.size; omega) (by omega) (by omega))
  have HI : Hid (∃ s d : Os, (s.typ = t ∧ s.inh = i ∧ s.each = e) ∧ s.ok ∧ s.few 0 ∧ d.ok ∧ d.few 0 ∧ Oa g s w5 ∧ Od q d w5 ∧ Oa h ⟨t, i, e, false, false, 0, false, 0⟩ w5) :=
    ⟨_, _, ⟨rfl, rfl, rfl⟩, frmO_ok hf true false false 0 0, ⟨by exact Nat.le_refl _, by exact Nat.le_refl _⟩, ok0, ⟨by simp, by simp⟩, S5, D5, V5⟩
  clear hS S4 V4 D4 T5 b4 V5 S5 D5 c0 c1 c2 hw4 hq3
  go_wp2_with fail
  go_loopw [12] (fun iv x => ∃ k : Nat, k ≤ l.length ∧ iv = .int .i64 k ∧ (∃ s d : Os, (s.typ = t ∧ s.inh = i ∧ s.each = e) ∧ s.ok ∧ s.few k ∧ d.ok ∧ d.few k ∧ Oa g s x ∧ Od q d x ∧ Oa h ⟨t, i, e, false, false, 0, false, 0⟩ x) ∧ Below p w x) (fun iv _ => l.length - (intOf iv).toNat)
  case atStart => exact ⟨0, by omega, rfl, HI.out, b5⟩
  case round =>
    clear HI b5
    obtain ⟨k, hk, rfl, ⟨s, d, hfm, hok, hfw, kd, fd, S5, D5, V5⟩, B5⟩ := hrel
    by_cases hkl : k < l.length
    · have hd : decide ((k : Int) < (l.length : Int)) = true := by simp; omega
      obtain ⟨b, off, rfl, hb, hR⟩ := HC.out wr B5 k hkl
      have hbn := l[k].h_n
      generalize l[k] = a at *
      obtain ⟨c0, c1, c2⟩ := A15.cells hR
      have hD := does_any hok kd (Os.few_mono hfw (by omega)) (Os.few_mono fd (by omega)) S5 D5 (by omega) a.kind a.on a.n hbn
      unfold actV at hD
      have HN : Hid (∀ x, Oa g (s.act a.kind a.on) x → Od q (d.act a.kind a.on) x → Two g q wr x → ∃ k' : Nat, k' ≤ l.length ∧ Value.int .i64 ((k : Int) + 1) = .int .i64 k' ∧ (∃ s d : Os, (s.typ = t ∧ s.inh = i ∧ s.each = e) ∧ s.ok ∧ s.few k' ∧ d.ok ∧ d.few k' ∧ Oa g s x ∧ Od q d x ∧ Oa h ⟨t, i, e, false, false, 0, false, 0⟩ x) ∧ Below p w x) := fun x h1 h2 h3 => by
        obtain ⟨f1, f2, f3, _⟩ := Os.form_act (s := s) a.kind a.on
        exact ⟨k + 1, by omega, rfl, ⟨_, _, ⟨f1.trans hfm.1, f2.trans hfm.2.1, f3.trans hfm.2.2⟩, Os.ok_of hok (Os.form_act a.kind a.on), Os.few_act hfw a.kind a.on, Os.ok_of kd (Os.form_act a.kind a.on), Os.few_act fd a.kind a.on, h1, h2, Bc.two V5 h3 (by omega) (by omega)⟩, B5.trans (h3.below (by have := B5.size; omega) (by omega) (by omega))⟩
      clear S5 D5 V5 hok hfw kd fd hfm
      go_wp2_with (refine A15.ld hR rfl _ rfl rfl ?_; unfold A15.arr)
      refine hD.mono ?_
      rintro r w6 ⟨rfl, S6, D6, T6⟩
      clear hD hR c0 c1 c2
      go_wp2_with fail
      go_roundw
      case rel => exact HN.out w6 S6 D6 T6
      case measure => simp [intOf]; omega
    · have hd : decide ((k : Int) < (l.length : Int)) = false := by simp; omega
      have hS := start_any S5 false
      have hko : k ≤ 140737488351232 := by omega
      go_wp2_with fail
      refine hS.mono ?_
      rintro r w6 ⟨rfl, S6, T6⟩
      have V6 := Bc.two V5 T6 (by omega) (by omega)
      have D6 := Bc.two D5 T6 (by omega) (by omega)
      have b6 : Below p w w6 := B5.trans (T6.below (by have := B5.size; omega) (by omega) (by omega))
      obtain ⟨g1, g2, g3, g4⟩ := Os.form_st (s := s) false
      have hfm6 : (s.st false).typ = t ∧ (s.st false).inh = i ∧ (s.st false).each = e := ⟨g1.trans hfm.1, g2.trans hfm.2.1, g3.trans hfm.2.2⟩
      have hok6 : (s.st false).ok := Os.ok_of hok ⟨g1, g2, g3, trivial⟩
      have hfw6 := Os.few_st hfw false
      clear hS S5 V5 D5 T6 B5 hok hfw hfm g1 g2 g3
      generalize s.st false = s6 at *
      have hS := event_any S6
      obtain ⟨o1, _, _, n1, _, _⟩ := Os.off_all g4
      rw [o1] at hS
      go_wp2_with fail
      refine hS.mono ?_
      rintro r w7 ⟨rfl, S7, T7⟩
      have V7 := Bc.two V6 T7 (by omega) (by omega)
      have D7 := Bc.two D6 T7 (by omega) (by omega)
      have b7 : Below p w w7 := b6.trans (T7.below (by have := b6.size; omega) (by omega) (by omega))
      obtain ⟨g1, g2, g3, _⟩ := Os.form_ev (s := s6)
      have hfm7 : s6.ev.typ = t ∧ s6.ev.inh = i ∧ s6.ev.each = e := ⟨g1.trans hfm6.1, g2.trans hfm6.2.1, g3.trans hfm6.2.2⟩
      have hok7 : s6.ev.ok := Os.ok_of hok6 ⟨g1, g2, g3, trivial⟩
      have hfw7 := Os.few_ev hfw6
      clear hS S6 V6 D6 T7 b6 hok6 hfw6 hfm6 g1 g2 g3 g4 o1
      generalize s6.ev = s7 at *
      have hS := sync_any hok7 S7 1
      obtain ⟨_, o1, _, _, n2, _⟩ := Os.off_all n1
      rw [o1] at hS
      go_wp2_with fail
      refine hS.mono ?_
      rintro r w8 ⟨rfl, S8, T8⟩
      have V8 := Bc.two V7 T8 (by omega) (by omega)
      have D8 := Bc.two D7 T8 (by omega) (by omega)
      have b8 : Below p w w8 := b7.trans (T8.below (by have := b7.size; omega) (by omega) (by omega))
      obtain ⟨g1, g2, g3, _⟩ := Os.form_sy (s := s7)
      have hfm8 : s7.sy.typ = t ∧ s7.sy.inh = i ∧ s7.sy.each = e := ⟨g1.trans hfm7.1, g2.trans hfm7.2.1, g3.trans hfm7.2.2⟩
      have hok8 : s7.sy.ok := Os.ok_of hok7 ⟨g1, g2, g3, trivial⟩
      have hfw8 := Os.few_sy hfw7
      clear hS S7 V7 D7 T8 b7 hok7 hfw7 hfm7 g1 g2 g3 n1 o1
      generalize s7.sy = s8 at *
      have hS := tick_any hok8 S8 (by have := hfw8.1; omega)
      obtain ⟨_, _, o1, _, _, n3⟩ := Os.off_all n2
      rw [o1] at hS
      go_wp2_with fail
      refine hS.mono ?_
      rintro r w9 ⟨rfl, S9, T9⟩
      have V9 := Bc.two V8 T9 (by omega) (by omega)
      have D9 := Bc.two D8 T9 (by omega) (by omega)
      have b9 : Below p w w9 := b8.trans (T9.below (by have := b8.size; omega) (by omega) (by omega))
      obtain ⟨g1, g2, g3, _⟩ := Os.form_tk (s := s8)
      have hfm9 : s8.tk.typ = t ∧ s8.tk.inh = i ∧ s8.tk.each = e := ⟨g1.trans hfm8.1, g2.trans hfm8.2.1, g3.trans hfm8.2.2⟩
      clear hS S8 V8 D8 T9 b8 hok8 hfw8 hfm8 g1 g2 g3 n2 o1
      generalize s8.tk = s9 at *
      have hS := start_any S9 true
      have e9 : s9.st true = ⟨t, i, e, true, false, 0, false, 0⟩ := by simp [Os.st, n3, Os.fresh, hfm9.1, hfm9.2.1, hfm9.2.2]
      rw [e9] at hS
      go_wp2_with fail
      refine hS.mono ?_
      rintro r w10 ⟨rfl, S10, T10⟩
      have V10 := Bc.two V9 T10 (by omega) (by omega)
      have D10 := Bc.two D9 T10 (by omega) (by omega)
      have b10 : Below p w w10 := b9.trans (T10.below (by have := b9.size; omega) (by omega) (by omega))
      clear hS S9 V9 D9 T10 b9 hfm9 n3 e9
      have hS := start_any V10 true
      rw [show (⟨t, i, e, false, false, 0, false, 0⟩ : Os).st true = ⟨t, i, e, true, false, 0, false, 0⟩ from rfl] at hS
      go_wp2_with fail
      refine hS.mono ?_
      rintro r w11 ⟨rfl, V11, T11⟩
      have S11 := Bc.two S10 T11 (by omega) (by omega)
      have D11 := Bc.two D10 T11 (by omega) (by omega)
      have b11 : Below p w w11 := b10.trans (T11.below (by have := b10.size; omega) (by omega) (by omega))
      have HI : Hid (∃ s d : Os, s.ok ∧ s.few 0 ∧ d.ok ∧ d.few (140737488351232 + 2 * 0) ∧ Oa g s w11 ∧ Od q d w11 ∧ Oa h s w11) := ⟨_, _, frmO_ok hf true false false 0 0, ⟨by simp, by simp⟩, kd, Os.few_mono fd (by omega), S11, D11, V11⟩
      clear hS S10 V10 D10 T11 b10 S11 D11 V11 kd fd
      go_wp2_with fail
      go_loopw [13] (fun iv x => ∃ k : Nat, k ≤ l2.length ∧ iv = .int .i64 k ∧ (∃ s d : Os, s.ok ∧ s.few k ∧ d.ok ∧ d.few (140737488351232 + 2 * k) ∧ Oa g s x ∧ Od q d x ∧ Oa h s x) ∧ Below p w x) (fun iv _ => l2.length - (intOf iv).toNat)
      case atStart => exact ⟨0, by omega, rfl, HI.out, b11⟩
      case round =>
        clear HI b11
        obtain ⟨k, hk, rfl, ⟨s, d, hok, hfw, kd, fd, S5, D5, V5⟩, B5⟩ := hrel
        by_cases hkl : k < l2.length
        · have hd : decide ((k : Int) < (l2.length : Int)) = true := by simp; omega
          obtain ⟨b, off, rfl, hb, hR⟩ := HC2.out wr B5 k hkl
          have hbn := l2[k].h_n
          have HR2 : Hid (∀ x, Below p w x → x.rangeAt b (off + k * 3) (A15.c l2[k])) := fun x hx => by
            obtain ⟨b', off', e', _, h'⟩ := HC2.out x hx k hkl
            injection e' with e'
            injection e' with e1 e2
            subst e1 e2
            exact h'
          generalize l2[k] = a at *
          obtain ⟨c0, c1, c2⟩ := A15.cells hR
          have hD := does_any hok kd (Os.few_mono hfw (by omega)) (Os.few_mono fd (by omega)) S5 D5 (by omega) a.kind a.on a.n hbn
          unfold actV at hD
          have HT : Hid (∀ x, Two g q wr x → Oa h s x ∧ Below p w x) := fun x h3 => ⟨Bc.two V5 h3 (by omega) (by omega), B5.trans (h3.below (by have := B5.size; omega) (by omega) (by omega))⟩
          have HD2 : Hid (∀ x, Od q (d.act a.kind a.on) x → Oa h s x → Calls Try.prog 12 #[.pointer (some ⟨h, 0, none⟩), .pointer (some ⟨q, 0, none⟩), actV a.kind a.on a.n] x (DoesP h q s (d.act a.kind a.on) a.kind a.on x)) := fun x h1 h2 => does_any hok (Os.ok_of kd (Os.form_act a.kind a.on)) (Os.few_mono hfw (by omega)) (Os.few_mono (Os.few_act fd a.kind a.on) (by omega)) h2 h1 (by omega) a.kind a.on a.n hbn
          have HN : Hid (∀ x y, Oa g (s.act a.kind a.on) x → Below p w x → Oa h (s.act a.kind a.on) y → Od q ((d.act a.kind a.on).act a.kind a.on) y → Two h q x y → ∃ k' : Nat, k' ≤ l2.length ∧ Value.int .i64 ((k : Int) + 1) = .int .i64 k' ∧ (∃ s d : Os, s.ok ∧ s.few k' ∧ d.ok ∧ d.few (140737488351232 + 2 * k') ∧ Oa g s y ∧ Od q d y ∧ Oa h s y) ∧ Below p w y) := fun x y h1 h2 h3 h4 h5 =>
            ⟨k + 1, by omega, rfl, ⟨_, _, Os.ok_of hok (Os.form_act a.kind a.on), Os.few_act hfw a.kind a.on, Os.ok_of (Os.ok_of kd (Os.form_act a.kind a.on)) (Os.form_act a.kind a.on), Os.few_mono (Os.few_act (Os.few_act fd a.kind a.on) a.kind a.on) (by omega), Bc.two h1 h5 (by omega) (by omega), h4, h3⟩, h2.trans (h5.below (by have := h2.size; omega) (by omega) (by omega))⟩
          have dn : ((s.actO a.kind) != (s.actO a.kind)) = false := by simp
          clear S5 D5 V5 hok hfw kd fd
          go_wp2_with (refine A15.ld hR rfl _ rfl rfl ?_; unfold A15.arr)
          refine hD.mono ?_
          rintro r w6 ⟨rfl, S6, D6, T6⟩
          obtain ⟨V6, b6⟩ := HT.out w6 T6
          have hR6 := HR2.out w6 b6
          have hD2 := HD2.out w6 D6 V6
          unfold actV at hD2
          clear hD hR c0 c1 c2 T6 HT HD2 D6 V6
          go_wp2_with (refine A15.ld hR6 rfl _ rfl rfl ?_; unfold A15.arr)
          refine hD2.mono ?_
          rintro r w7 ⟨rfl, V7, D7, T7⟩
          have HZ : Hid _ := HN.out w6 w7 S6 b6 V7 D7 T7
          clear HN S6 V7 D7 T7 b6 hR6 hD2
          generalize s.actO a.kind = o at *
          go_wp2_with fail
          go_roundw
          case rel => exact HZ.out
          case measure => simp [intOf]; omega
        · have hd : decide ((k : Int) < (l2.length : Int)) = false := by simp; omega
          have hL := lives15_any wr
          clear S5 D5 V5 hok hfw kd fd
          go_wp2_with (go_at_call 11; refine hL.mono ?_; rintro r w7 ⟨rfl, B7⟩)
          go_ret
          exact ⟨rfl, B5.trans (B7.mono (by have := B5.size; omega))⟩
theorem zsto_walk (f : F15) (v : Value) (l : List A15) (v2 : Value) (l2 : List A15) (w : World) (hl : l.length ≤ 140737488351232) (hl2 : l2.length ≤ 140737488351232) (hB : Wide 3 A15.c w v l) (hB2 : Wide 3 A15.c w v2 l2) :
    Calls Try.prog 7 #[.agg f.arr, v, v2] w fun r w' => r = .returned (.bool true) ∧ Below w.heap.size w w' := by
  cases h : frmO f.typ f.inh f.each
  · exact zsto_bad f.typ f.inh f.each h v v2 w
  · obtain ⟨n, hn⟩ := frmO_nat h
    rw [hn] at h
    have := zsto_ok n f.inh f.each h v l v2 l2 w hl hl2 hB hB2
    unfold frmV at this
    rw [← hn] at this
    exact this
end Go.Proofs.Ytkflffdoipeocaa
