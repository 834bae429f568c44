/- The law PdoCyclic returns true whatever number and bools come in. -/
import Derived.Test.YtkflffdoipeocaaLawZSnd
import Derived.Test.YtkflffdoipeocaaDwX
namespace Go.Proofs.Ytkflffdoipeocaa
open Go.RowKit
set_option linter.unusedVariables false
set_option maxRecDepth 1000000
set_option linter.unusedSimpArgs false
theorem en15_tick : ∀ args x, (callFunc 18 args).run Try.prog x = .ok (.enter 18 args) x := fun _ _ => by rfl
theorem en15_sync : ∀ args x, (callFunc 17 args).run Try.prog x = .ok (.enter 17 args) x := fun _ _ => by rfl
/-- One that goes by SYNCs, with k of them gone by. -/
def Cyc (n k : Nat) (s : Os) : Prop := s.typ = n ∧ s.inh = 0 ∧ s.each = 0 ∧ s.on = true ∧ s.syncs = k ∧ s.since = 0
section
variable {n k : Nat} {s : Os}
theorem Cyc.free (h : Cyc n k s) (hn : 1 ≤ n ∧ n ≤ 240) : s.free = false := by
  unfold Os.free freeO
  rw [h.1]
  simp
  omega
theorem Cyc.ok (h : Cyc n k s) (hn : 1 ≤ n ∧ n ≤ 240) : s.ok := by
  obtain ⟨h1, h2, h3, _⟩ := h
  refine ⟨?_, by omega, by omega⟩
  rw [h1]
  simp [isO]
  omega
theorem Cyc.ev (h : Cyc n k s) (hn : 1 ≤ n ∧ n ≤ 240) : s.evO = false ∧ Cyc n k s.ev := by
  have h2 : s.evO = false := by simp [Os.evO, h.free hn]
  refine ⟨h2, ?_⟩
  unfold Os.ev
  rw [h2]
  exact h
theorem Cyc.tk (h : Cyc n k s) (hn : 1 ≤ n ∧ n ≤ 240) : s.tkO = false ∧ Cyc n k s.tk := by
  have h2 : s.tkO = false := by simp [Os.tkO, h.free hn]
  refine ⟨h2, ?_⟩
  unfold Os.tk
  rw [h.free hn]
  simp
  exact h
theorem Cyc.sy (h : Cyc n k s) (hn : 1 ≤ n ∧ n ≤ 240) : s.syO = decide ((k + 1) % n = 0) ∧ Cyc n (k + 1) s.sy := by
  obtain ⟨h1, h2, h3, h4, h5, h6⟩ := h
  have hf : s.free = false := Cyc.free ⟨h1, h2, h3, h4, h5, h6⟩ hn
  have hz : s.typ ≠ 0 := by omega
  unfold Os.syO Os.sy
  rw [hf, h4]
  simp only [Bool.not_true, Bool.or_self, Bool.false_eq_true, if_false, if_neg hz]
  rw [h5, h1]
  exact ⟨rfl, h1, h2, h3, h4, rfl, h6⟩
end
set_option maxHeartbeats 2000000 in
theorem zcyc_walk (tp : Nat) (htp : tp < 256) (v : Value) (l : List Bool) (w : World) (hl : l.length ≤ 140737488351232) (hB : Wide 1 boC w v l) :
    Calls Try.prog 6 #[.int .u8 tp, v] w fun r w' => r = .returned (.bool true) ∧ Below w.heap.size w w' := by
  obtain ⟨ao, cap, rfl, _, hc⟩ := hB
  have HC : Hid (∀ (wr : World), Below w.heap.size w wr → ∀ k (hk : k < l.length), ∃ b off, ao = some ⟨b, off, none⟩ ∧ b < w.heap.size ∧ wr.cell? ⟨b, off + k, none⟩ = some (.bool l[k])) := fun wr hb k hk => by
    obtain ⟨b, off, h1, h2, h3⟩ := Wide.at hc hb k hk
    have := h3 0 (.bool l[k]) rfl
    simp at this
    exact ⟨b, off, h1, h2, this⟩
  clear hc
  have e1 : (tp : Int).tmod 240 = ((tp % 240 : Nat) : Int) := rfl
  have hr : tp % 240 < 240 := Nat.mod_lt _ (by omega)
  generalize tp % 240 = r at *
  obtain ⟨n, hn⟩ : ∃ n : Nat, 1 + (r : Int) = (n : Int) := ⟨1 + r, by omega⟩
  have hn1 : 1 ≤ n ∧ n ≤ 240 := by omega
  have hf : frmO n 0 0 = true := by simp [frmO, isO]; omega
  have hN := newS_ok w n 0 0 hf
  unfold frmV at hN
  rw [show ((0 : Nat) : Int) = 0 from rfl] at hN
  generalize hp : w.heap.size = p at *
  go_enter Try.func6, Try.ntmps6
  go_wp2_with fail
  refine hN.mono ?_
  rintro r' w1 ⟨g, rfl, hg, S1, B1⟩
  clear hN
  have hS := start_any S1 true
  have lg := Bc.lt S1
  go_wp2_with fail
  refine hS.mono ?_
  rintro r' w2 ⟨rfl, S2, T2⟩
  have b2 : Below p w w2 := B1.trans (T2.below (by have := B1.size; omega) (by omega) (by omega))
  have HI : Hid (∃ s : Os, Cyc n 0 s ∧ Oa g s w2) := ⟨_, ⟨rfl, rfl, rfl, rfl, rfl, rfl⟩, S2⟩
  clear hS S1 S2 T2 B1
  go_wp2_with fail
  go_loopw [8] (fun iv x => ∃ k : Nat, k ≤ l.length ∧ iv = .int .i64 k ∧ (∃ s : Os, Cyc n k s ∧ Oa g s x) ∧ Below p w x) (fun iv _ => l.length - (intOf iv).toNat)
  case atStart => exact ⟨0, by omega, rfl, HI.out, b2⟩
  case round =>
    clear HI b2
    obtain ⟨k, hk, rfl, ⟨s, hs, S5⟩, B5⟩ := hrel
    by_cases hkl : k < l.length
    · have hd : decide ((k : Int) < (l.length : Int)) = true := by simp; omega
      obtain ⟨b, off, rfl, hb, hR⟩ := HC.out wr B5 k hkl
      generalize l[k] = bo at *
      have hmod : ((k : Int) + 1).tmod (n : Int) = (((k + 1) % n : Nat) : Int) := rfl
      have hq0 : ((n : Int) == 0) = false := by simp; omega
      have HN : Hid (∀ y, (∃ s : Os, Cyc n (k + 1) s ∧ Oa g s y) → Two g g wr y → ∃ k' : Nat, k' ≤ l.length ∧ Value.int .i64 ((k : Int) + 1) = .int .i64 k' ∧ (∃ s : Os, Cyc n k' s ∧ Oa g s y) ∧ Below p w y) := fun y h1 h2 => ⟨k + 1, by omega, rfl, h1, B5.trans (h2.below (by have := B5.size; omega) hg hg)⟩
      have hE : Hid (∀ x, Oa g s x → Calls Try.prog 16 #[.pointer (some ⟨g, 0, none⟩)] x fun e w' => e = .returned (.bool false) ∧ Oa g s.ev w' ∧ Two g g x w') := fun x h1 => by
        have := event_any h1
        rw [(hs.ev hn1).1] at this
        exact this
      have sE := (hs.ev hn1).2
      have HT : Hid (∀ (s : Os) x, Cyc n k s → Oa g s x → Calls Try.prog 18 #[.pointer (some ⟨g, 0, none⟩)] x fun e w' => e = .returned (.bool false) ∧ (Cyc n k s.tk ∧ Oa g s.tk w') ∧ Two g g x w') := fun s x h1 h2 => by
        have := tick_any (h1.ok hn1) h2 (by rw [h1.2.2.2.2.2]; omega)
        rw [(h1.tk hn1).1] at this
        exact this.mono fun e w' ⟨a1, a2, a3⟩ => ⟨a1, ⟨(h1.tk hn1).2, a2⟩, a3⟩
      have HS : Hid (∀ (s : Os) x, Cyc n k s → Oa g s x → Calls Try.prog 17 #[.pointer (some ⟨g, 0, none⟩), .int .i64 (k : Int)] x fun e w' => e = .returned (.bool (decide ((k + 1) % n = 0))) ∧ (∃ s : Os, Cyc n (k + 1) s ∧ Oa g s w') ∧ Two g g x w') := fun s x h1 h2 => by
        have := sync_any (h1.ok hn1) h2 (k : Int)
        rw [(h1.sy hn1).1] at this
        exact this.mono fun e w' ⟨a1, a2, a3⟩ => ⟨a1, ⟨_, (h1.sy hn1).2, a2⟩, a3⟩
      have hkb : k + 1 < 4611686018427387904 := by omega
      have hRb : (k + 1) % n < n := Nat.mod_lt _ (by omega)
      generalize (k + 1) % n = R at *
      have hw1 : IntKind.i64.wrap ((k : Int) + 1) = (k : Int) + 1 := by simp [IntKind.wrap, IntKind.bits, IntKind.signed]; omega
      have hw2 : IntKind.i64.wrap (R : Int) = (R : Int) := by simp [IntKind.wrap, IntKind.bits, IntKind.signed]; omega
      have hn0 : ¬ ((n : Int) = 0) := by omega
      have hn9 : ¬ (n = 0) := by omega
      have hrem : ∀ W : World, (binOp .rem 3 (.int .i64 ((k : Int) + 1)) (.int .i64 (n : Int))).run Try.prog W = .ok (.int .i64 (R : Int)) W := fun W => by
        simp [go_sem, binOp, eqGuard, run_underlying Try.underlying3, hn9, hmod, hw2]
      have dn : (decide (R = 0) != ((R : Int) == 0)) = false := by
        by_cases h9 : R = 0
        · simp [h9]
        · have : ((R : Int) == 0) = false := by simp; omega
          rw [this]
          simp [h9]
      generalize decide (R = 0) = oR at *
      have dn2 : (!oR == ((R : Int) == 0)) = false := by
        revert dn
        cases oR <;> cases ((R : Int) == 0) <;> simp
      cases bo
      · have HK : Hid (∀ x, Two g g wr x → x.cell? ⟨b, off + k, none⟩ = some (.bool false)) := fun x h => by
          have := (h.below (B := p) (by have := B5.size; omega) hg hg).cell (p := ⟨b, off + k, none⟩) hb
          exact this.trans hR
        have TR := Two.refl g g wr
        go_upto_region 9 with fail
        refine wp_region_held_drew (S := fun x => x.cell? ⟨b, off + k, none⟩ = some (.bool false)) (by kernel_rfl) (HK.out _ (Two.draw _ g 1)) (fun K0 => ?_)
        refine wpAnyH_take (i := 0) (v := (.slice (some ⟨b, off, none⟩) l.length cap)) rfl (by kernel_rfl) (by kernel_rfl) (by kernel_rfl) (fun _ _ _ h => h) (.inl ⟨rfl, fun _ hS => by go_simp⟩) K0 ?_
        simp only [List.getElem_toArray, List.getElem_cons_succ, List.getElem_cons_zero, Act.put, List.setIfInBounds_toArray, List.set_cons_succ, List.set_cons_zero]
        refine wpAnyH_take (i := 1) (v := (.int .i64 (k : Int))) rfl (by kernel_rfl) (by kernel_rfl) (by kernel_rfl) (fun _ _ _ h => h) (.inl ⟨rfl, fun _ hS => by go_simp⟩) K0 ?_
        simp only [List.getElem_toArray, List.getElem_cons_succ, List.getElem_cons_zero, Act.put, List.setIfInBounds_toArray, List.set_cons_succ, List.set_cons_zero]
        refine wpAnyH_take (i := 2) (v := (.pointer (some ⟨b, off + k, none⟩))) rfl (by kernel_rfl) (by kernel_rfl) (by kernel_rfl) (fun _ _ _ h => h) (.inl ⟨rfl, fun _ hS => by go_simp⟩) K0 ?_
        simp only [List.getElem_toArray, List.getElem_cons_succ, List.getElem_cons_zero, Act.put, List.setIfInBounds_toArray, List.set_cons_succ, List.set_cons_zero]
        refine wpAnyH_take (i := 3) (v := (.bool false)) rfl (by kernel_rfl) (by kernel_rfl) (by kernel_rfl) (fun _ _ _ h => h) (.inl ⟨rfl, fun _ hS => by go_simp⟩) K0 ?_
        simp only [List.getElem_toArray, List.getElem_cons_succ, List.getElem_cons_zero, Act.put, List.setIfInBounds_toArray, List.set_cons_succ, List.set_cons_zero]
        refine wpAnyH_take (i := 4) (v := (.bool false)) rfl (by kernel_rfl) (by kernel_rfl) (by kernel_rfl) (fun _ _ _ h => h) (.inl ⟨rfl, fun _ hS => by go_simp⟩) K0 ?_
        simp only [List.getElem_toArray, List.getElem_cons_succ, List.getElem_cons_zero, Act.put, List.setIfInBounds_toArray, List.set_cons_succ, List.set_cons_zero]
        refine wpAnyH_take (i := 5) (v := undef) rfl (by kernel_rfl) (by kernel_rfl) (by kernel_rfl) (fun _ _ _ h => h) (.inr ⟨rfl, rfl⟩) K0 ?_
        simp only [List.getElem_toArray, List.getElem_cons_succ, List.getElem_cons_zero, Act.put, List.setIfInBounds_toArray, List.set_cons_succ, List.set_cons_zero]
        refine wpAnyH_take (i := 6) (v := undef) rfl (by kernel_rfl) (by kernel_rfl) (by kernel_rfl) (fun _ _ _ h => h) (.inr ⟨rfl, rfl⟩) K0 ?_
        simp only [List.getElem_toArray, List.getElem_cons_succ, List.getElem_cons_zero, Act.put, List.setIfInBounds_toArray, List.set_cons_succ, List.set_cons_zero]
        refine wpAnyH_take (i := 7) (v := (.bool false)) rfl (by kernel_rfl) (by kernel_rfl) (by kernel_rfl) (fun _ _ _ h => h) (.inl ⟨rfl, fun _ hS => by go_simp⟩) K0 ?_
        simp only [List.getElem_toArray, List.getElem_cons_succ, List.getElem_cons_zero, Act.put, List.setIfInBounds_toArray, List.set_cons_succ, List.set_cons_zero]
        refine wpAnyH_take (i := 8) (v := (.bool false)) rfl (by kernel_rfl) (by kernel_rfl) (by kernel_rfl) (fun _ _ _ h => h) (.inl ⟨rfl, fun _ hS => by go_simp⟩) K0 ?_
        simp only [List.getElem_toArray, List.getElem_cons_succ, List.getElem_cons_zero, Act.put, List.setIfInBounds_toArray, List.set_cons_succ, List.set_cons_zero]
        refine wpAnyH_take (i := 9) (v := (.pointer (some ⟨g, 0, none⟩))) rfl (by kernel_rfl) (by kernel_rfl) (by kernel_rfl) (fun _ _ _ h => h) (.inl ⟨rfl, fun _ hS => by go_simp⟩) K0 ?_
        simp only [List.getElem_toArray, List.getElem_cons_succ, List.getElem_cons_zero, Act.put, List.setIfInBounds_toArray, List.set_cons_succ, List.set_cons_zero]
        refine wpAnyH_all (rs := [10]) (by kernel_rfl) (by simp) ?_
        intro k hk
        simp only [List.mem_cons, List.mem_nil_iff, or_false] at hk
        subst hk
        refine wpOp_runw rfl rfl (wp_call_fn 18 #[.pointer (some ⟨g, 0, none⟩)] (by simp [execOp, go_sem, Act.eval, resolve, invoke, en15_tick]) ?_)
        refine (HT.out s _ hs (by exact S5)).mono ?_
        rintro e w6 ⟨rfl, ⟨C6, S6⟩, T6⟩
        have T6' : Two g g wr w6 := ⟨T6.os, T6.tape, T6.output, T6.size, T6.block⟩
        have K6 := HK.out w6 T6'
        refine ⟨K6, ?_⟩
        simp only [List.getElem_toArray, List.getElem_cons_succ, List.getElem_cons_zero, Act.put, List.setIfInBounds_toArray, List.set_cons_succ, List.set_cons_zero]
        refine wpAnyH_take (i := 11) (v := (.bool false)) rfl (by kernel_rfl) (by kernel_rfl) (by kernel_rfl) (fun _ _ _ h => h) (.inl ⟨rfl, fun _ hS => by go_simp⟩) K6 ?_
        simp only [List.getElem_toArray, List.getElem_cons_succ, List.getElem_cons_zero, Act.put, List.setIfInBounds_toArray, List.set_cons_succ, List.set_cons_zero]
        refine wpAnyH_take (i := 12) (v := (.bool false)) rfl (by kernel_rfl) (by kernel_rfl) (by kernel_rfl) (fun _ _ _ h => h) (.inl ⟨rfl, fun _ hS => by go_simp⟩) K6 ?_
        simp only [List.getElem_toArray, List.getElem_cons_succ, List.getElem_cons_zero, Act.put, List.setIfInBounds_toArray, List.set_cons_succ, List.set_cons_zero]
        refine wpAnyH_take (i := 13) (v := (.pointer (some ⟨g, 0, none⟩))) rfl (by kernel_rfl) (by kernel_rfl) (by kernel_rfl) (fun _ _ _ h => h) (.inl ⟨rfl, fun _ hS => by go_simp⟩) K6 ?_
        simp only [List.getElem_toArray, List.getElem_cons_succ, List.getElem_cons_zero, Act.put, List.setIfInBounds_toArray, List.set_cons_succ, List.set_cons_zero]
        refine wpAnyH_take (i := 14) (v := (.int .i64 (k : Int))) rfl (by kernel_rfl) (by kernel_rfl) (by kernel_rfl) (fun _ _ _ h => h) (.inl ⟨rfl, fun _ hS => by go_simp⟩) K6 ?_
        simp only [List.getElem_toArray, List.getElem_cons_succ, List.getElem_cons_zero, Act.put, List.setIfInBounds_toArray, List.set_cons_succ, List.set_cons_zero]
        refine wpAnyH_take (i := 16) (v := (.int .i64 (k : Int))) rfl (by kernel_rfl) (by kernel_rfl) (by kernel_rfl) (fun _ _ _ h => h) (.inl ⟨rfl, fun _ hS => by go_simp⟩) K6 ?_
        simp only [List.getElem_toArray, List.getElem_cons_succ, List.getElem_cons_zero, Act.put, List.setIfInBounds_toArray, List.set_cons_succ, List.set_cons_zero]
        refine wpAnyH_take (i := 17) (v := (.int .i64 ((k : Int) + 1))) rfl (by kernel_rfl) (by kernel_rfl) (by kernel_rfl) (fun _ _ _ h => h) (.inl ⟨rfl, fun _ hS => by go_simp⟩) K6 ?_
        simp only [List.getElem_toArray, List.getElem_cons_succ, List.getElem_cons_zero, Act.put, List.setIfInBounds_toArray, List.set_cons_succ, List.set_cons_zero]
        refine wpAnyH_take (i := 18) (v := (.int .i64 (n : Int))) rfl (by kernel_rfl) (by kernel_rfl) (by kernel_rfl) (fun _ _ _ h => h) (.inl ⟨rfl, fun _ hS => by go_simp⟩) K6 ?_
        simp only [List.getElem_toArray, List.getElem_cons_succ, List.getElem_cons_zero, Act.put, List.setIfInBounds_toArray, List.set_cons_succ, List.set_cons_zero]
        refine wpAnyH_take (i := 19) (v := (.int .i64 (R : Int))) rfl (by kernel_rfl) (by kernel_rfl) (by kernel_rfl) (fun _ _ _ h => h) (.inl ⟨rfl, fun _ hS => by go_simp⟩) K6 ?_
        simp only [List.getElem_toArray, List.getElem_cons_succ, List.getElem_cons_zero, Act.put, List.setIfInBounds_toArray, List.set_cons_succ, List.set_cons_zero]
        refine wpAnyH_take (i := 20) (v := (.bool ((R : Int) == 0))) rfl (by kernel_rfl) (by kernel_rfl) (by kernel_rfl) (fun _ _ _ h => h) (.inl ⟨rfl, fun _ hS => by go_simp⟩) K6 ?_
        simp only [List.getElem_toArray, List.getElem_cons_succ, List.getElem_cons_zero, Act.put, List.setIfInBounds_toArray, List.set_cons_succ, List.set_cons_zero]
        refine wpAnyH_all (rs := [15]) (by kernel_rfl) (by simp) ?_
        intro k hk
        simp only [List.mem_cons, List.mem_nil_iff, or_false] at hk
        subst hk
        refine wpOp_runw rfl rfl (wp_call_fn 17 #[.pointer (some ⟨g, 0, none⟩), .int .i64 (k : Int)] (by simp [execOp, go_sem, Act.eval, resolve, invoke, en15_sync]) ?_)
        refine (HS.out s.tk _ C6 (by exact S6)).mono ?_
        rintro e w7 ⟨rfl, S7, T7⟩
        have T7' : Two g g w6 w7 := ⟨T7.os, T7.tape, T7.output, T7.size, T7.block⟩
        have TZ := T6'.trans T7'
        have K7 := HK.out w7 TZ
        refine ⟨K7, ?_⟩
        simp only [List.getElem_toArray, List.getElem_cons_succ, List.getElem_cons_zero, Act.put, List.setIfInBounds_toArray, List.set_cons_succ, List.set_cons_zero]
        refine wpAnyH_take (i := 21) (v := (.bool false)) rfl (by kernel_rfl) (by kernel_rfl) (by kernel_rfl) (fun _ _ _ h => h) (.inl ⟨rfl, fun _ hS => by go_simp⟩) K7 ?_
        simp only [List.getElem_toArray, List.getElem_cons_succ, List.getElem_cons_zero, Act.put, List.setIfInBounds_toArray, List.set_cons_succ, List.set_cons_zero]
        refine wpAnyH_take (i := 22) (v := (.bool false)) rfl (by kernel_rfl) (by kernel_rfl) (by kernel_rfl) (fun _ _ _ h => h) (.inl ⟨rfl, fun _ hS => by go_simp⟩) K7 ?_
        simp only [List.getElem_toArray, List.getElem_cons_succ, List.getElem_cons_zero, Act.put, List.setIfInBounds_toArray, List.set_cons_succ, List.set_cons_zero]
        refine wpAnyH_done (by kernel_rfl) ?_ _
        have HZ : Hid _ := HN.out w7 S7 TZ
        clear HN S7 TZ HT HS hE sE S5 hs B5
        go_wp2_with fail
        go_roundw
        case rel => exact HZ.out
        case measure => simp [intOf]; omega
      · have HK : Hid (∀ x, Two g g wr x → x.cell? ⟨b, off + k, none⟩ = some (.bool true)) := fun x h => by
          have := (h.below (B := p) (by have := B5.size; omega) hg hg).cell (p := ⟨b, off + k, none⟩) hb
          exact this.trans hR
        have TR := Two.refl g g wr
        go_upto_region 9 with fail
        go_region_held3 (fun x => x.cell? ⟨b, off + k, none⟩ = some (.bool true)) (first | assumption | exact HK.out _ (Two.draw _ g 1)) (first | (go_at_call 16; refine (hE.out _ (by exact S5)).mono ?_; rintro e w5 ⟨rfl, S4, T5⟩; have T5' : Two g g wr w5 := ⟨T5.os, T5.tape, T5.output, T5.size, T5.block⟩; have K5 := HK.out w5 T5') | (go_at_call 18; refine (HT.out s.ev _ sE (by assumption)).mono ?_; rintro e w6 ⟨rfl, ⟨C6, S6⟩, T6⟩; have T6' : Two g g w5 w6 := ⟨T6.os, T6.tape, T6.output, T6.size, T6.block⟩; have T65 := T5'.trans T6'; have K6 := HK.out w6 T65) | (go_at_call 17; refine (HS.out s.ev.tk _ (by assumption) (by assumption)).mono ?_; rintro e w7 ⟨rfl, S7, T7⟩; have T7' : Two g g w6 w7 := ⟨T7.os, T7.tape, T7.output, T7.size, T7.block⟩; have TZ := T65.trans T7'; have K7 := HK.out w7 TZ))
        all_goals
          have HZ : Hid _ := HN.out w7 S7 TZ
          clear HN S7 TZ HT HS hE sE S5 hs B5
          go_wp2_with fail
          go_roundw
          case rel => exact HZ.out
          case measure => simp [intOf]; omega
    · have hd : decide ((k : Int) < (l.length : Int)) = false := by simp; omega
      have hL := lives15_any wr
      clear S5 hs
      go_wp2_with (go_at_call 11; refine hL.mono ?_; rintro r w7 ⟨rfl, B7⟩)
      go_ret
      exact ⟨rfl, B5.trans (B7.mono (by have := B5.size; omega))⟩
theorem zcyc_int (z0 : Int) (v : Value) (l : List Bool) (h0 : 0 ≤ z0 ∧ z0 < 256) (hl : l.length ≤ 140737488351232) (w : World) (hB : Wide 1 boC w v l) :
    Calls Try.prog 6 #[.int .u8 z0, v] w fun r w' => r = .returned (.bool true) ∧ Below w.heap.size w w' := by
  obtain ⟨p, rfl⟩ : ∃ p : Nat, z0 = p := ⟨z0.toNat, by omega⟩
  exact zcyc_walk p (by omega) v l w hl hB
end Go.Proofs.Ytkflffdoipeocaa
