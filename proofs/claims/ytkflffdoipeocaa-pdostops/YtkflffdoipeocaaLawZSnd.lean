/- The law PdoSends returns true whatever form and acts come in. -/
import Derived.Test.YtkflffdoipeocaaOaG
import Derived.Test.YtkflffdoipeocaaOOp15
namespace Go.Proofs.Ytkflffdoipeocaa
open Go.RowKit
set_option linter.unusedVariables false
set_option maxRecDepth 1000000
set_option linter.unusedSimpArgs false
/-- A form boxed by a law. -/
def Fb (p : Nat) (t : Int) (i e : Nat) (w : World) : Prop := Bc 24 p #[.int .i64 t, .int .u64 i, .int .u64 e] w
theorem Fb.cells {p : Nat} {t : Int} {i e : Nat} {w : World} (h : Fb p t i e w) : w.cell? ⟨p, 0, none⟩ = some (.int .i64 t) ∧ w.cell? ⟨p, 1, none⟩ = some (.int .u64 i) ∧ w.cell? ⟨p, 2, none⟩ = some (.int .u64 e) := ⟨Bc.cell h 0, Bc.cell h 1, Bc.cell h 2⟩
theorem Fb.new (w : World) (t : Int) (i e : Nat) : Fb w.heap.size t i e (w.alloc (.cells #[.int .i64 t, .int .u64 i, .int .u64 e] 24)) := heap_alloc_new w (.cells #[.int .i64 t, .int .u64 i, .int .u64 e] 24)
theorem zsnd_bad (t : Int) (i e : Nat) (hf : frmO t i e = false) (v : Value) (w : World) :
    Calls Try.prog 3 #[frmV t i e, v] w fun r w' => r = .returned (.bool true) ∧ Below w.heap.size w w' := by
  obtain ⟨w0, hw0⟩ : ∃ x, w.alloc (.cells #[.int .i64 t, .int .u64 i, .int .u64 e] 24) = x := ⟨_, rfl⟩
  have F0 := Fb.new w t i e
  rw [hw0] at F0
  have b0 : Below w.heap.size w w0 := by rw [← hw0]; exact (Below.refl _ _).alloc (Nat.le_refl _) _
  obtain ⟨c0, c1, c2⟩ := F0.cells
  have hN := newS_bad w0 t i e hf
  unfold frmV at hN ⊢
  generalize hp : w.heap.size = p at *
  go_enter Try.func3, Try.ntmps3
  go_wp2_with fail
  refine hN.mono ?_
  rintro r w1 ⟨rfl, B1⟩
  have F1 := Bc.below F0 B1
  have b1 : Below p w w1 := b0.trans (B1.mono (by have := b0.size; omega))
  clear c0 c1 c2 hN
  obtain ⟨c0, c1, c2⟩ := Fb.cells F1
  have hC := dchk_any w1 t i e
  rw [hf] at hC
  unfold frmV at hC
  go_wp2_with fail
  refine hC.mono ?_
  rintro r w2 ⟨rfl, B2⟩
  have F2 := Bc.below F1 B2
  have b2 : Below p w w2 := b1.trans (B2.mono (by have := b1.size; omega))
  clear c0 c1 c2 hC
  obtain ⟨c0, c1, c2⟩ := Fb.cells F2
  have hC := chk_any w2 t i e
  rw [hf] at hC
  unfold frmV at hC
  go_wp2_with fail
  refine hC.mono ?_
  rintro r w3 ⟨rfl, B3⟩
  have b3 : Below p w w3 := b2.trans (B3.mono (by have := b2.size; omega))
  have hL := lives15_any w3
  clear c0 c1 c2 hC
  go_wp2_with fail
  refine hL.mono ?_
  rintro r w4 ⟨rfl, B4⟩
  go_wp2_with fail
  go_ret
  exact ⟨rfl, b3.trans (B4.mono (by have := b3.size; omega))⟩
set_option maxHeartbeats 2000000 in
theorem zsnd_ok (t i e : Nat) (hf : frmO t i e = true) (v : Value) (l : List A15) (w : World) (hl : l.length ≤ 140737488351232) (hB : Wide 3 A15.c w v l) :
    Calls Try.prog 3 #[frmV t i e, v] w fun r w' => r = .returned (.bool true) ∧ Below w.heap.size w w' := by
  obtain ⟨ao, cap, rfl, _, hc⟩ := hB
  have HC : Hid (∀ (wr : World), Below w.heap.size w wr → ∀ k (hk : k < l.length), ∃ b off, ao = some ⟨b, off, none⟩ ∧ b < w.heap.size ∧ wr.rangeAt b (off + k * 3) (A15.c l[k])) := fun wr hb k hk => Wide.at hc hb k hk
  clear hc
  obtain ⟨w0, hw0⟩ : ∃ x, w.alloc (.cells #[.int .i64 t, .int .u64 i, .int .u64 e] 24) = x := ⟨_, rfl⟩
  have F0 := Fb.new w t i e
  rw [hw0] at F0
  have b0 : Below w.heap.size w w0 := by rw [← hw0]; exact (Below.refl _ _).alloc (Nat.le_refl _) _
  obtain ⟨c0, c1, c2⟩ := F0.cells
  have hN := newS_ok w0 t i e hf
  unfold frmV at hN ⊢
  generalize hp : w.heap.size = p at *
  go_enter Try.func3, Try.ntmps3
  go_wp2_with fail
  refine hN.mono ?_
  rintro r w1 ⟨g, rfl, hg, S1, B1⟩
  have F1 := Bc.below F0 B1
  have b1 : Below p w w1 := b0.trans (B1.mono (by have := b0.size; omega))
  have hpg : p < g := by have := Bc.lt F0; omega
  clear c0 c1 c2 hN
  obtain ⟨c0, c1, c2⟩ := Fb.cells F1
  have hC := dchk_any w1 t i e
  rw [hf] at hC
  unfold frmV at hC
  go_wp2_with fail
  refine hC.mono ?_
  rintro r w2 ⟨rfl, B2⟩
  have F2 := Bc.below F1 B2
  have S2 := Bc.below S1 B2
  have b2 : Below p w w2 := b1.trans (B2.mono (by have := b1.size; omega))
  clear c0 c1 c2 hC
  obtain ⟨c0, c1, c2⟩ := Fb.cells F2
  have hC := chk_any w2 t i e
  rw [hf] at hC
  unfold frmV at hC
  go_wp2_with fail
  refine hC.mono ?_
  rintro r w3 ⟨rfl, B3⟩
  have F3 := Bc.below F2 B3
  have S3 := Bc.below S2 B3
  have b3 : Below p w w3 := b2.trans (B3.mono (by have := b2.size; omega))
  clear c0 c1 c2 hC
  obtain ⟨c0, c1, c2⟩ := Fb.cells F3
  have D4 := Od.new w3 t i e
  have S4 := Bc.alloc S3 (.cells #[.int .i64 t, .int .u64 i, .int .u64 e, .bool false, .bool false, .int .u64 0, .bool false, .int .i64 0] 34)
  have b4 : Below p w (w3.alloc (.cells #[.int .i64 t, .int .u64 i, .int .u64 e, .bool false, .bool false, .int .u64 0, .bool false, .int .i64 0] 34)) := b3.alloc (by have := b3.size; omega) _
  have hgq : g < w3.heap.size := Bc.lt S3
  have ok0 := frmO_ok hf false false false 0 0
  have HI : Hid (∃ s : Os, s.ok ∧ s.few (256 * 0) ∧ Oa g s (w3.alloc (.cells #[.int .i64 t, .int .u64 i, .int .u64 e, .bool false, .bool false, .int .u64 0, .bool false, .int .i64 0] 34)) ∧ Od w3.heap.size s (w3.alloc (.cells #[.int .i64 t, .int .u64 i, .int .u64 e, .bool false, .bool false, .int .u64 0, .bool false, .int .i64 0] 34))) := ⟨_, ok0, ⟨by simp, by simp⟩, S4, D4⟩
  clear F0 F1 F2 S1 S2 S3 B1 B2 B3 b0 b1 b2 b3 D4 S4 hw0 F3
  generalize hq3 : w3.heap.size = q at *
  obtain ⟨w4, hw4⟩ : ∃ x, w3.alloc (.cells #[.int .i64 t, .int .u64 i, .int .u64 e, .bool false, .bool false, .int .u64 0, .bool false, .int .i64 0] 34) = x := ⟨_, rfl⟩
  rw [hw4] at HI b4
  go_wp2_with fail
  go_loopw [8] (fun iv x => ∃ k : Nat, k ≤ l.length ∧ iv = .int .i64 k ∧ (∃ s : Os, s.ok ∧ s.few (256 * k) ∧ Oa g s x ∧ Od q s x) ∧ Below p w x) (fun iv _ => l.length - (intOf iv).toNat)
  case atStart => exact ⟨0, by omega, rfl, HI.out, b4⟩
  case round =>
    clear HI b4 c0 c1 c2 hw4 hq3
    obtain ⟨k, hk, rfl, ⟨s, hok, hfw, S5, D5⟩, B5⟩ := hrel
    by_cases hkl : k < l.length
    · have hd : decide ((k : Int) < (l.length : Int)) = true := by simp; omega
      have HR : Hid (∀ (wr : World), Below p w wr → ∃ b off, ao = some ⟨b, off, none⟩ ∧ b < p ∧ wr.rangeAt b (off + k * 3) (A15.c l[k])) := fun x hx => HC.out x hx k hkl
      have hbn := l[k].h_n
      generalize l[k] = a at *
      have HI : Hid (∃ s : Os, s.ok ∧ s.few (256 * k + 0) ∧ Oa g s wr ∧ Od q s wr) := ⟨s, hok, hfw, S5, D5⟩
      clear hok hfw S5 D5
      go_wp2_with fail
      go_loopw [9] (fun jv x => ∃ j : Nat, j ≤ a.n + 1 ∧ jv = .int .i64 j ∧ (∃ s : Os, s.ok ∧ s.few (256 * k + j) ∧ Oa g s x ∧ Od q s x) ∧ Below p w x) (fun jv _ => a.n + 1 - (intOf jv).toNat)
      case atStart => exact ⟨0, by omega, rfl, HI.out, B5⟩
      case round =>
        clear HI B5
        obtain ⟨j, hj, rfl, ⟨s, hok, hfw, S5, D5⟩, B5⟩ := hrel
        obtain ⟨b, off, rfl, hb, hR⟩ := HR.out wr B5
        obtain ⟨c0, c1, c2⟩ := A15.cells hR
        by_cases hjn : j ≤ a.n
        · have hd2 : decide ((j : Int) ≤ (a.n : Int)) = true := by simp; omega
          have hD := does_any hok hok (Os.few_mono hfw (by omega)) (Os.few_mono hfw (by omega)) S5 D5 (by omega) a.kind a.on a.n hbn
          unfold actV at hD
          have HN : Hid (∀ x, Oa g (s.act a.kind a.on) x → Od q (s.act a.kind a.on) x → Below p w x → ∃ j' : Nat, j' ≤ a.n + 1 ∧ Value.int .i64 ((j : Int) + 1) = .int .i64 j' ∧ (∃ s : Os, s.ok ∧ s.few (256 * k + j') ∧ Oa g s x ∧ Od q s x) ∧ Below p w x) := fun x h1 h2 h3 => ⟨j + 1, by omega, rfl, ⟨_, Os.ok_of hok (Os.form_act a.kind a.on), Os.few_act hfw a.kind a.on, h1, h2⟩, h3⟩
          have dn : ((s.actO a.kind) != (s.actO a.kind)) = false := by simp
          clear S5 D5 hok hfw
          go_wp2_with (refine A15.ld hR rfl _ rfl rfl ?_; unfold A15.arr)
          refine hD.mono ?_
          rintro r w6 ⟨rfl, S6, D6, T6⟩
          have B6 : Below p w w6 := B5.trans (T6.below (by have := B5.size; omega) (by omega) (by omega))
          generalize s.act a.kind a.on = S' at *
          generalize s.actO a.kind = o at *
          clear hD T6 B5 hR c0 c1 c2
          go_wp2_with fail
          go_roundw
          case rel => exact HN.out w6 S6 D6 B6
          case measure => simp [intOf]; omega
        · have hd2 : decide ((j : Int) ≤ (a.n : Int)) = false := by simp; omega
          have HN : Hid (∃ k' : Nat, k' ≤ l.length ∧ Value.int .i64 ((k : Int) + 1) = .int .i64 k' ∧ (∃ s : Os, s.ok ∧ s.few (256 * k') ∧ Oa g s wr ∧ Od q s wr) ∧ Below p w wr) := ⟨k + 1, by omega, rfl, ⟨s, hok, Os.few_mono hfw (by omega), S5, D5⟩, B5⟩
          clear S5 D5 hok hfw
          go_wp2_with fail
          go_roundw
          case rel => exact HN.out
          case measure => simp [intOf]; omega
    · have hd : decide ((k : Int) < (l.length : Int)) = false := by simp; omega
      have hL := lives15_any wr
      clear S5 D5 hok hfw
      go_wp2_with (go_at_call 11; refine hL.mono ?_; rintro r w7 ⟨rfl, B7⟩)
      go_ret
      exact ⟨rfl, B5.trans (B7.mono (by have := B5.size; omega))⟩
theorem zsnd_walk (f : F15) (v : Value) (l : List A15) (w : World) (hl : l.length ≤ 140737488351232) (hB : Wide 3 A15.c w v l) :
    Calls Try.prog 3 #[.agg f.arr, v] w fun r w' => r = .returned (.bool true) ∧ Below w.heap.size w w' := by
  cases h : frmO f.typ f.inh f.each
  · exact zsnd_bad f.typ f.inh f.each h v w
  · obtain ⟨n, hn⟩ := frmO_nat h
    rw [hn] at h
    have := zsnd_ok n f.inh f.each h v l w hl hB
    unfold frmV at this
    rw [← hn] at this
    exact this
end Go.Proofs.Ytkflffdoipeocaa
