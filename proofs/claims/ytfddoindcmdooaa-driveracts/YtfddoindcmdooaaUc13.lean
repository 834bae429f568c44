/- The law DriverActs returns true for every form and all acts, and leaves them as they were. -/
import Derived.Test.YtfddoindcmdooaaUc12
namespace Go.Proofs.Ytfddoindcmdooaa
open Go.RowKit Go.Proofs.Bits
set_option linter.unusedVariables false
set_option maxRecDepth 1000000
set_option linter.unusedSimpArgs false

theorem does5_any {D E : Nat} {s : Dv} {d : Dc} {vm vc vI : Value} {w : World} (a : Ax) (hJ : Jt D E s d vm vc vI w) (hR : Rl s d) (hDE : D < E) (ht : s.tk < 1152921504606846976) (hlo : 0 ≤ s.lo ∧ s.lo < 1152921504606846976) :
    Calls Try.prog 12 #[.pointer (some ⟨D, 0, none⟩), .pointer (some ⟨E, 0, none⟩), .agg a.arr] w fun e w' => e = .returned (.bool true) ∧ DoesP D E s w w' := by
  by_cases k0 : a.kd = 0
  · exact does5_k0 a hJ hR hDE ht hlo k0
  by_cases k1 : a.kd = 1
  · exact does5_k1 a hJ hR hDE ht hlo k1
  by_cases k2 : a.kd = 2
  · exact does5_k2 a hJ hR hDE ht hlo k2
  by_cases k3 : a.kd = 3
  · exact does5_k3 a hJ hR hDE ht hlo k3
  by_cases k4 : a.kd = 4
  · exact does5_k4 a hJ hR hDE ht hlo k4
  by_cases k5 : a.kd = 5
  · exact does5_k5 a hJ hR hDE ht hlo k5
  exact does5_kx a hJ hR hDE ht hlo k0 k1 k2 k3 k4 k5
theorem enterDoes : ∀ args x, (callFunc 12 args).run Try.prog x = .ok (.enter 12 args) x := fun _ _ => by rfl
theorem enterLost : ∀ args x, (callFunc 11 args).run Try.prog x = .ok (.enter 11 args) x := fun _ _ => by rfl
set_option maxHeartbeats 8000000 in
theorem dacts_walk (bx rm : Int) (vf : Value) (l : List Fi) (va : Value) (xa : List Ax) (w : World) (hz : l.length * 12 ≤ 140737488351232) (hz2 : xa.length ≤ 140737488351232) (hF : FiIn w vf l) (hS : Wide 14 Ax.cells w va xa) :
    Calls Try.prog 3 #[.agg #[.int .i64 bx, .int .i64 rm, vf], va] w fun e w' => e = .returned (.bool true) ∧ Below w.heap.size w w' := by
  obtain ⟨wa, hwa⟩ : ∃ wa, w.alloc (.cells (formA bx rm vf) 24) = wa := ⟨_, rfl⟩
  have ba : Below w.heap.size w wa := by rw [← hwa]; exact (Below.refl _ _).alloc (Nat.le_refl _) _
  have fa : Fo w.heap.size bx rm vf wa := by rw [← hwa]; exact heap_alloc_new w _
  have HI : Hid (∀ x, Below w.heap.size w x → Wide 14 Ax.cells x va xa) := fun x hx => hS.belowA hx
  have HF : Hid (∀ x, Below w.heap.size w x → FiIn x vf l) := fun x hx => hF.below hx
  obtain ⟨ao, cap, rfl, _⟩ := hS
  obtain ⟨af, cf, rfl, _⟩ := hF
  obtain ⟨p, hp⟩ : ∃ p, w.heap.size = p := ⟨_, rfl⟩
  rw [hp] at fa ba HI HF
  have hwa2 : w.alloc (.cells #[.int .i64 bx, .int .i64 rm, .slice af l.length cf] 24) = wa := hwa
  have sa : p < wa.heap.size := fa.lt
  clear hwa
  go_enter Try.func3, Try.ntmps3
  go_wp2_with fail
  refine wp_region_held (S := Fo p bx rm (.slice af l.length cf)) (by kernel_rfl) ?_
  obtain ⟨w1, hw1⟩ : ∃ x : World, { wa with drawn := wa.drawn + 1 } = x := ⟨_, rfl⟩
  rw [hw1]
  have b1 : Below p w w1 := ba.trans (by rw [← hw1]; exact (below_drawn (Below.refl wa.heap.size wa) 1).mono (Nat.le_of_lt sa))
  have f1 : Fo p bx rm (.slice af l.length cf) w1 := by rw [← hw1]; exact fa
  have s1 : p < w1.heap.size := f1.lt
  refine wpAnyH_take (i := 0) (v := (.pointer (some ⟨p, 0, none⟩))) rfl (by kernel_rfl) (by kernel_rfl) (by kernel_rfl) (fun _ _ _ h => h) (.inl ⟨rfl, fun _ hS => by simp [execOp, go_sem, Act.eval]⟩) f1 ?_
  simp only [List.getElem_toArray, List.getElem_cons_succ, List.getElem_cons_zero, Act.put, List.setIfInBounds_toArray, List.set_cons_succ, List.set_cons_zero]
  refine wpAnyH_take (i := 1) (v := (.int .i64 bx)) rfl (by kernel_rfl) (by kernel_rfl) (by kernel_rfl) (fun _ _ _ h => h) (.inl ⟨rfl, fun _ hS => exec_load rfl rfl (load_int _ p 0 _ hS.c.1)⟩) f1 ?_
  simp only [List.getElem_toArray, List.getElem_cons_succ, List.getElem_cons_zero, Act.put, List.setIfInBounds_toArray, List.set_cons_succ, List.set_cons_zero]
  refine wpAnyH_take (i := 2) (v := (.pointer (some ⟨p, 1, none⟩))) rfl (by kernel_rfl) (by kernel_rfl) (by kernel_rfl) (fun _ _ _ h => h) (.inl ⟨rfl, fun _ hS => by simp [execOp, go_sem, Act.eval]⟩) f1 ?_
  simp only [List.getElem_toArray, List.getElem_cons_succ, List.getElem_cons_zero, Act.put, List.setIfInBounds_toArray, List.set_cons_succ, List.set_cons_zero]
  refine wpAnyH_take (i := 3) (v := (.int .i64 rm)) rfl (by kernel_rfl) (by kernel_rfl) (by kernel_rfl) (fun _ _ _ h => h) (.inl ⟨rfl, fun _ hS => exec_load rfl rfl (load_int _ p 1 _ hS.c.2.1)⟩) f1 ?_
  simp only [List.getElem_toArray, List.getElem_cons_succ, List.getElem_cons_zero, Act.put, List.setIfInBounds_toArray, List.set_cons_succ, List.set_cons_zero]
  refine wpAnyH_take (i := 5) (v := (.pointer (some ⟨p, 2, none⟩))) rfl (by kernel_rfl) (by kernel_rfl) (by kernel_rfl) (fun _ _ _ h => h) (.inl ⟨rfl, fun _ hS => by simp [execOp, go_sem, Act.eval]⟩) f1 ?_
  simp only [List.getElem_toArray, List.getElem_cons_succ, List.getElem_cons_zero, Act.put, List.setIfInBounds_toArray, List.set_cons_succ, List.set_cons_zero]
  refine wpAnyH_take (i := 6) (v := (.slice af l.length cf)) rfl (by kernel_rfl) (by kernel_rfl) (by kernel_rfl) (fun _ _ _ h => h) (.inl ⟨rfl, fun _ hS => exec_load rfl rfl (load_fils _ p 2 _ _ _ hS.c.2.2)⟩) f1 ?_
  simp only [List.getElem_toArray, List.getElem_cons_succ, List.getElem_cons_zero, Act.put, List.setIfInBounds_toArray, List.set_cons_succ, List.set_cons_zero]
  refine wpAnyH_all (rs := [4]) (by kernel_rfl) (by simp) ?_
  intro k hk
  simp only [List.mem_cons, List.mem_nil_iff, or_false] at hk
  subst hk
  refine wpOp_run rfl rfl (wp_bs0 rfl ?_)
  have f2 : Fo p bx rm (.slice af l.length cf) (w1.alloc (.cells #[] 60)) := f1.below ((Below.refl _ w1).alloc (Nat.le_refl _) _) s1
  have b2 : Below p w (w1.alloc (.cells #[] 60)) := b1.alloc (by omega) _
  refine ⟨f2, ?_⟩
  simp only [List.getElem_toArray, List.getElem_cons_succ, List.getElem_cons_zero, Act.put, List.setIfInBounds_toArray, List.set_cons_succ, List.set_cons_zero]
  refine wpAnyH_all (rs := [7]) (by kernel_rfl) (by simp) ?_
  intro k hk
  simp only [List.mem_cons, List.mem_nil_iff, or_false] at hk
  subst hk
  refine wpOp_run rfl rfl (wp_append_wide DFi _ _ 22 60 _ _ Try.underlying22 infoFiZ rfl rfl w1.heap.size (.slice (some ⟨w1.heap.size, 0, none⟩) 0 0) [] rfl (by exact own_empty_e w1 60 3) _ l rfl (HF.out _ b2) (by unfold maxLen; simp; omega) (by simp; omega) (by rw [size_alloc]; omega) ?_)
  intro v3 w3 P3 G3
  have b3 : Below w1.heap.size w1 w3 := ((Below.refl _ w1).alloc (Nat.le_refl _) (.cells #[] 60)).grown G3 (by simp) (by simp [Value.ownBlock])
  have f3 : Fo p bx rm (.slice af l.length cf) w3 := f1.below b3 s1
  have B3 : Below p w w3 := b1.trans (b3.mono (by omega))
  have P3' : FiIn w3 v3 l := wide_of_own DFi (l := l) P3
  have hN := New_all bx rm w3 P3'
  refine ⟨f3, ?_⟩
  simp only [List.getElem_toArray, List.getElem_cons_succ, List.getElem_cons_zero, Act.put, List.setIfInBounds_toArray, List.set_cons_succ, List.set_cons_zero]
  refine wpAnyH_all (rs := [8]) (by kernel_rfl) (by simp) ?_
  intro k hk
  simp only [List.mem_cons, List.mem_nil_iff, or_false] at hk
  subst hk
  refine wpOp_run rfl rfl (wp_call_fn 7 #[.int .i64 bx, .int .i64 rm, v3] (by simp [execOp, go_sem, Act.eval, resolve, invoke, enterNew]) (hN.mono ?_))
  rintro e w4 ⟨b4, ⟨hE, rfl⟩ | ⟨hE, ⟨hb1, hr1⟩, D, rfl, hD, D4⟩⟩
  · have f4 : Fo p bx rm (.slice af l.length cf) w4 := f3.below b4 f3.lt
    refine ⟨f4, ?_⟩
    simp only [List.getElem_toArray, List.getElem_cons_succ, List.getElem_cons_zero, Act.put, List.setIfInBounds_toArray, List.set_cons_succ, List.set_cons_zero]
    refine wpAnyH_take (i := 9) (v := (.tuple #[.pointer none, .int .i64 (newE bx rm l)])) rfl (by kernel_rfl) (by kernel_rfl) (by kernel_rfl) (fun _ _ _ h => h) (.inl ⟨rfl, fun _ hS => rfl⟩) f4 ?_
    simp only [List.getElem_toArray, List.getElem_cons_succ, List.getElem_cons_zero, Act.put, List.setIfInBounds_toArray, List.set_cons_succ, List.set_cons_zero]
    refine wpAnyH_take (i := 10) (v := (.pointer none)) rfl (by kernel_rfl) (by kernel_rfl) (by kernel_rfl) (fun _ _ _ h => h) (.inl ⟨rfl, fun _ hS => by simp [execOp, go_sem, Act.eval]⟩) f4 ?_
    simp only [List.getElem_toArray, List.getElem_cons_succ, List.getElem_cons_zero, Act.put, List.setIfInBounds_toArray, List.set_cons_succ, List.set_cons_zero]
    refine wpAnyH_take (i := 12) (v := (.pointer none)) rfl (by kernel_rfl) (by kernel_rfl) (by kernel_rfl) (fun _ _ _ h => h) (.inl ⟨rfl, fun _ hS => rfl⟩) f4 ?_
    simp only [List.getElem_toArray, List.getElem_cons_succ, List.getElem_cons_zero, Act.put, List.setIfInBounds_toArray, List.set_cons_succ, List.set_cons_zero]
    refine wpAnyH_take (i := 11) (v := (.int .i64 (newE bx rm l))) rfl (by kernel_rfl) (by kernel_rfl) (by kernel_rfl) (fun _ _ _ h => h) (.inl ⟨rfl, fun _ hS => by simp [execOp, go_sem, Act.eval]⟩) f4 ?_
    simp only [List.getElem_toArray, List.getElem_cons_succ, List.getElem_cons_zero, Act.put, List.setIfInBounds_toArray, List.set_cons_succ, List.set_cons_zero]
    refine wpAnyH_take (i := 13) (v := (.int .i64 (newE bx rm l))) rfl (by kernel_rfl) (by kernel_rfl) (by kernel_rfl) (fun _ _ _ h => h) (.inl ⟨rfl, fun _ hS => rfl⟩) f4 ?_
    simp only [List.getElem_toArray, List.getElem_cons_succ, List.getElem_cons_zero, Act.put, List.setIfInBounds_toArray, List.set_cons_succ, List.set_cons_zero]
    refine wpAnyH_done (by kernel_rfl) ?_ _
    have B4 : Below p w w4 := B3.trans (b4.mono (by have := f3.lt; omega))
    have hEN := ENew_any bx rm w4 (HF.out w4 B4) hz
    obtain ⟨c0, c1, c2⟩ := f4.c
    have hL := fun x => lives5_any x
    clear hN P3 G3 P3' HI f3 f2 f1 B3 b3 b2 b1
    go_wp2_with fail
    refine hEN.mono ?_
    rintro e w5 ⟨b5, ⟨hE2, rfl⟩ | ⟨hE2, _⟩⟩
    · have B5 : Below p w w5 := B4.trans (b5.mono (by have := B4.size; omega))
      have hL5 := hL w5
      generalize newE bx rm l = ze at *
      clear hEN hL c0 c1 c2 f4
      go_wp2_with fail
      refine hL5.mono ?_
      rintro e w6 ⟨rfl, b6⟩
      have B6 : Below p w w6 := B5.trans (b6.mono (by have := B5.size; omega))
      go_wp2
      go_ret
      exact ⟨rfl, by rw [hp]; exact B6⟩
    · exact (hE hE2).elim
  · have f4 : Fo p bx rm (.slice af l.length cf) w4 := f3.below b4 f3.lt
    refine ⟨f4, ?_⟩
    simp only [List.getElem_toArray, List.getElem_cons_succ, List.getElem_cons_zero, Act.put, List.setIfInBounds_toArray, List.set_cons_succ, List.set_cons_zero]
    refine wpAnyH_take (i := 9) (v := (.tuple #[.pointer (some ⟨D, 0, none⟩), .int .i64 0])) rfl (by kernel_rfl) (by kernel_rfl) (by kernel_rfl) (fun _ _ _ h => h) (.inl ⟨rfl, fun _ hS => rfl⟩) f4 ?_
    simp only [List.getElem_toArray, List.getElem_cons_succ, List.getElem_cons_zero, Act.put, List.setIfInBounds_toArray, List.set_cons_succ, List.set_cons_zero]
    refine wpAnyH_take (i := 10) (v := (.pointer (some ⟨D, 0, none⟩))) rfl (by kernel_rfl) (by kernel_rfl) (by kernel_rfl) (fun _ _ _ h => h) (.inl ⟨rfl, fun _ hS => by simp [execOp, go_sem, Act.eval]⟩) f4 ?_
    simp only [List.getElem_toArray, List.getElem_cons_succ, List.getElem_cons_zero, Act.put, List.setIfInBounds_toArray, List.set_cons_succ, List.set_cons_zero]
    refine wpAnyH_take (i := 12) (v := (.pointer (some ⟨D, 0, none⟩))) rfl (by kernel_rfl) (by kernel_rfl) (by kernel_rfl) (fun _ _ _ h => h) (.inl ⟨rfl, fun _ hS => rfl⟩) f4 ?_
    simp only [List.getElem_toArray, List.getElem_cons_succ, List.getElem_cons_zero, Act.put, List.setIfInBounds_toArray, List.set_cons_succ, List.set_cons_zero]
    refine wpAnyH_take (i := 11) (v := (.int .i64 0)) rfl (by kernel_rfl) (by kernel_rfl) (by kernel_rfl) (fun _ _ _ h => h) (.inl ⟨rfl, fun _ hS => by simp [execOp, go_sem, Act.eval]⟩) f4 ?_
    simp only [List.getElem_toArray, List.getElem_cons_succ, List.getElem_cons_zero, Act.put, List.setIfInBounds_toArray, List.set_cons_succ, List.set_cons_zero]
    refine wpAnyH_take (i := 13) (v := (.int .i64 0)) rfl (by kernel_rfl) (by kernel_rfl) (by kernel_rfl) (fun _ _ _ h => h) (.inl ⟨rfl, fun _ hS => rfl⟩) f4 ?_
    simp only [List.getElem_toArray, List.getElem_cons_succ, List.getElem_cons_zero, Act.put, List.setIfInBounds_toArray, List.set_cons_succ, List.set_cons_zero]
    refine wpAnyH_done (by kernel_rfl) ?_ _
    have B4 : Below p w w4 := B3.trans (b4.mono (by have := f3.lt; omega))
    have lD := D4.lt
    have hpD : p < D := by have := f3.lt; omega
    have hEN := ENew_any bx rm w4 (HF.out w4 B4) hz
    obtain ⟨c0, c1, c2⟩ := f4.c
    clear hN P3 G3 P3' f3 f2 f1 B3 b3 b2 b1
    go_wp2_with fail
    refine hEN.mono ?_
    rintro e w5 ⟨b5, ⟨hE2, _⟩ | ⟨hE2, E, rfl, hEs, C5⟩⟩
    · exact (hE2 hE).elim
    have hDE : D < E := by omega
    have J5 : Jt D E ⟨bx, rm, 0, 0, [], [], l⟩ ⟨bx, rm, 0, 0, [], [], l⟩ (.slice none 0 0) (.slice none 0 0) (.slice none 0 0) w5 := ⟨D4.below b5, C5, fun b e => by cases e⟩
    have B5 : Below p w w5 := B4.trans (b5.mono (by have := B4.size; omega))
    have lD5 : D < w5.heap.size := by have := b5.size; omega
    clear hEN c0 c1 c2 f4 D4 C5 HF hE hE2 b5 b4
    go_wp2
    go_loopw [9] (fun iv x => ∃ (k : Nat) (s : Dv) (d : Dc) (vm vc vI : Value), k ≤ xa.length ∧ iv = .int .i64 k ∧ Jt D E s d vm vc vI x ∧ Rl s d ∧ s.tk ≤ k ∧ 0 ≤ s.lo ∧ s.lo ≤ k ∧ Below D w5 x) (fun iv _ => xa.length - (intOf iv).toNat)
    case atStart => exact ⟨0, _, _, _, _, _, Nat.zero_le _, rfl, J5, Rl.start bx rm l, by simp, by simp, by simp, Below.refl _ _⟩
    case round =>
      obtain ⟨k, s, d, vm, vc, vI, hk, rfl, JX, RX, htk, hl0, hl1, BW⟩ := hrel
      have BX : Below p w wr := B5.trans (BW.mono (by omega))
      by_cases hkl : k < xa.length
      · have hWt := Waiting_dv JX.dv
        have hdk : decide (k < xa.length) = true := by simpa using hkl
        go_wp2_with fail
        refine hWt.mono ?_
        rintro e w6 ⟨rfl, b6⟩
        have J6 := JX.below b6
        have B6 : Below D w5 w6 := BW.trans (b6.mono (Nat.le_of_lt JX.dv.lt))
        have BX6 : Below p w w6 := B5.trans (B6.mono (by omega))
        clear hWt JX BW BX b6 J5
        go_upto_region 11 with fail
        refine wp_region_any (by kernel_rfl) ?_
        obtain ⟨w7, hw7⟩ : ∃ x : World, { w6 with drawn := w6.drawn + 1 } = x := ⟨_, rfl⟩
        rw [hw7]
        have b7 : Below w6.heap.size w6 w7 := by rw [← hw7]; exact below_drawn (Below.refl _ _) 1
        have J7 := J6.below b7
        have B7 : Below D w5 w7 := B6.trans (b7.mono (Nat.le_of_lt J6.dv.lt))
        have BX7 : Below p w w7 := B5.trans (B7.mono (by omega))
        obtain ⟨ao', cap', hv', _, hc⟩ := HI.out w7 BX7
        obtain ⟨b, off, hao, hb, hR7⟩ := hc k hkl
        have hao2 : ao = some ⟨b, off, none⟩ := by injection hv' with e1; rw [e1]; exact hao
        subst hao2
        obtain ⟨⟨vL, vO, A7, _, O7⟩, I7, _⟩ := J7.dc
        obtain ⟨aO, cO, rfl⟩ := O7.wide.shape
        obtain ⟨aI, cI, rfl⟩ := I7.wide.shape
        have hDs := does5_any xa[k] J7 RX hDE (by omega) (by omega)
        have hLo := Lost_dv J7.dv
        have hln := RX.len
        have hcs : s.cs.length = d.inn.length := by rw [RX.cs]
        have hlo2 := RX.lo
        generalize xa[k] = a at *
        clear hw7 b7 J6 B6 BX6 hc hao hv' HI O7 I7
        rw [hln, hcs]
        have n1 : ((d.out.length : Int) != (d.out.length : Int)) = false := by simp
        have n2 : ((d.inn.length : Int) != (d.inn.length : Int)) = false := by simp
        have n3 : (s.lo != d.lo) = false := by rw [hlo2]; simp
        refine wpAny_take (i := 0) (v := (.int .i64 d.out.length)) rfl (by kernel_rfl) (by kernel_rfl) (by kernel_rfl) (fun _ _ _ h => h) (.inl ⟨rfl, fun _ => rfl⟩) ?_
        simp only [List.getElem_toArray, List.getElem_cons_succ, List.getElem_cons_zero, Act.put, List.setIfInBounds_toArray, List.set_cons_succ, List.set_cons_zero]
        refine wpAny_take (i := 1) (v := (.pointer (some ⟨E, 0, none⟩))) rfl (by kernel_rfl) (by kernel_rfl) (by kernel_rfl) (fun _ _ _ h => h) (.inl ⟨rfl, fun _ => rfl⟩) ?_
        simp only [List.getElem_toArray, List.getElem_cons_succ, List.getElem_cons_zero, Act.put, List.setIfInBounds_toArray, List.set_cons_succ, List.set_cons_zero]
        refine wpAny_take (i := 2) (v := (.pointer (some ⟨E, 0, none⟩))) rfl (by kernel_rfl) (by kernel_rfl) (by kernel_rfl) (fun _ _ _ h => h) (.inl ⟨rfl, fun _ => by simp [execOp, go_sem, Act.eval]⟩) ?_
        simp only [List.getElem_toArray, List.getElem_cons_succ, List.getElem_cons_zero, Act.put, List.setIfInBounds_toArray, List.set_cons_succ, List.set_cons_zero]
        refine wpAny_take (i := 3) (v := (.pointer (some ⟨E, 3, none⟩))) rfl (by kernel_rfl) (by kernel_rfl) (by kernel_rfl) (fun _ _ _ h => h) (.inl ⟨rfl, fun _ => by simp [execOp, go_sem, Act.eval]⟩) ?_
        simp only [List.getElem_toArray, List.getElem_cons_succ, List.getElem_cons_zero, Act.put, List.setIfInBounds_toArray, List.set_cons_succ, List.set_cons_zero]
        refine wpAny_all (rs := [4]) (by kernel_rfl) (by simp) ?_
        intro k hk
        simp only [List.mem_cons, List.mem_nil_iff, or_false] at hk
        subst hk
        refine wpOp_run rfl rfl (wp_load_cell 36 _ rfl E 3 rfl (.slice aO d.out.length cO) (load_rms _ E 3 _ _ _ (A7.cell rfl)) ?_)
        simp only [List.getElem_toArray, List.getElem_cons_succ, List.getElem_cons_zero, Act.put, List.setIfInBounds_toArray, List.set_cons_succ, List.set_cons_zero]
        refine wpAny_take (i := 5) (v := (.int .i64 d.out.length)) rfl (by kernel_rfl) (by kernel_rfl) (by kernel_rfl) (fun _ _ _ h => h) (.inl ⟨rfl, fun _ => by simp [execOp, go_sem, Act.eval, resolve, invoke, builtin]⟩) ?_
        simp only [List.getElem_toArray, List.getElem_cons_succ, List.getElem_cons_zero, Act.put, List.setIfInBounds_toArray, List.set_cons_succ, List.set_cons_zero]
        refine wpAny_take (i := 6) (v := (.bool false)) rfl (by kernel_rfl) (by kernel_rfl) (by kernel_rfl) (fun _ _ _ h => h) (.inl ⟨rfl, fun _ => by simp [execOp, go_sem, Act.eval, n1]⟩) ?_
        simp only [List.getElem_toArray, List.getElem_cons_succ, List.getElem_cons_zero, Act.put, List.setIfInBounds_toArray, List.set_cons_succ, List.set_cons_zero]
        refine wpAny_take (i := 7) (v := (.bool false)) rfl (by kernel_rfl) (by kernel_rfl) (by kernel_rfl) (fun _ _ _ h => h) (.inl ⟨rfl, fun _ => rfl⟩) ?_
        simp only [List.getElem_toArray, List.getElem_cons_succ, List.getElem_cons_zero, Act.put, List.setIfInBounds_toArray, List.set_cons_succ, List.set_cons_zero]
        refine wpAny_take (i := 8) (v := (.int .i64 d.inn.length)) rfl (by kernel_rfl) (by kernel_rfl) (by kernel_rfl) (fun _ _ _ h => h) (.inl ⟨rfl, fun _ => rfl⟩) ?_
        simp only [List.getElem_toArray, List.getElem_cons_succ, List.getElem_cons_zero, Act.put, List.setIfInBounds_toArray, List.set_cons_succ, List.set_cons_zero]
        refine wpAny_take (i := 9) (v := (.pointer (some ⟨E, 0, none⟩))) rfl (by kernel_rfl) (by kernel_rfl) (by kernel_rfl) (fun _ _ _ h => h) (.inl ⟨rfl, fun _ => rfl⟩) ?_
        simp only [List.getElem_toArray, List.getElem_cons_succ, List.getElem_cons_zero, Act.put, List.setIfInBounds_toArray, List.set_cons_succ, List.set_cons_zero]
        refine wpAny_take (i := 10) (v := (.pointer (some ⟨E, 0, none⟩))) rfl (by kernel_rfl) (by kernel_rfl) (by kernel_rfl) (fun _ _ _ h => h) (.inl ⟨rfl, fun _ => by simp [execOp, go_sem, Act.eval]⟩) ?_
        simp only [List.getElem_toArray, List.getElem_cons_succ, List.getElem_cons_zero, Act.put, List.setIfInBounds_toArray, List.set_cons_succ, List.set_cons_zero]
        refine wpAny_take (i := 11) (v := (.pointer (some ⟨E, 5, none⟩))) rfl (by kernel_rfl) (by kernel_rfl) (by kernel_rfl) (fun _ _ _ h => h) (.inl ⟨rfl, fun _ => by simp [execOp, go_sem, Act.eval]⟩) ?_
        simp only [List.getElem_toArray, List.getElem_cons_succ, List.getElem_cons_zero, Act.put, List.setIfInBounds_toArray, List.set_cons_succ, List.set_cons_zero]
        refine wpAny_all (rs := [12]) (by kernel_rfl) (by simp) ?_
        intro k hk
        simp only [List.mem_cons, List.mem_nil_iff, or_false] at hk
        subst hk
        refine wpOp_runw rfl rfl (wp_load_cell 37 _ rfl E 5 rfl (.slice aI d.inn.length cI) (load_frs _ E 5 _ _ _ (A7.cell rfl)) ?_)
        simp only [List.getElem_toArray, List.getElem_cons_succ, List.getElem_cons_zero, Act.put, List.setIfInBounds_toArray, List.set_cons_succ, List.set_cons_zero]
        refine wpAny_take (i := 13) (v := (.int .i64 d.inn.length)) rfl (by kernel_rfl) (by kernel_rfl) (by kernel_rfl) (fun _ _ _ h => h) (.inl ⟨rfl, fun _ => by simp [execOp, go_sem, Act.eval, resolve, invoke, builtin]⟩) ?_
        simp only [List.getElem_toArray, List.getElem_cons_succ, List.getElem_cons_zero, Act.put, List.setIfInBounds_toArray, List.set_cons_succ, List.set_cons_zero]
        refine wpAny_take (i := 14) (v := (.bool false)) rfl (by kernel_rfl) (by kernel_rfl) (by kernel_rfl) (fun _ _ _ h => h) (.inl ⟨rfl, fun _ => by simp [execOp, go_sem, Act.eval, n2]⟩) ?_
        simp only [List.getElem_toArray, List.getElem_cons_succ, List.getElem_cons_zero, Act.put, List.setIfInBounds_toArray, List.set_cons_succ, List.set_cons_zero]
        refine wpAny_take (i := 15) (v := (.bool false)) rfl (by kernel_rfl) (by kernel_rfl) (by kernel_rfl) (fun _ _ _ h => h) (.inl ⟨rfl, fun _ => by simp [execOp, go_sem, Act.eval]⟩) ?_
        simp only [List.getElem_toArray, List.getElem_cons_succ, List.getElem_cons_zero, Act.put, List.setIfInBounds_toArray, List.set_cons_succ, List.set_cons_zero]
        refine wpAny_take (i := 16) (v := (.bool false)) rfl (by kernel_rfl) (by kernel_rfl) (by kernel_rfl) (fun _ _ _ h => h) (.inl ⟨rfl, fun _ => rfl⟩) ?_
        simp only [List.getElem_toArray, List.getElem_cons_succ, List.getElem_cons_zero, Act.put, List.setIfInBounds_toArray, List.set_cons_succ, List.set_cons_zero]
        refine wpAny_take (i := 17) (v := (.pointer (some ⟨D, 0, none⟩))) rfl (by kernel_rfl) (by kernel_rfl) (by kernel_rfl) (fun _ _ _ h => h) (.inl ⟨rfl, fun _ => rfl⟩) ?_
        simp only [List.getElem_toArray, List.getElem_cons_succ, List.getElem_cons_zero, Act.put, List.setIfInBounds_toArray, List.set_cons_succ, List.set_cons_zero]
        refine wpAny_take (i := 19) (v := (.pointer (some ⟨E, 0, none⟩))) rfl (by kernel_rfl) (by kernel_rfl) (by kernel_rfl) (fun _ _ _ h => h) (.inl ⟨rfl, fun _ => rfl⟩) ?_
        simp only [List.getElem_toArray, List.getElem_cons_succ, List.getElem_cons_zero, Act.put, List.setIfInBounds_toArray, List.set_cons_succ, List.set_cons_zero]
        refine wpAny_take (i := 20) (v := (.pointer (some ⟨E, 0, none⟩))) rfl (by kernel_rfl) (by kernel_rfl) (by kernel_rfl) (fun _ _ _ h => h) (.inl ⟨rfl, fun _ => by simp [execOp, go_sem, Act.eval]⟩) ?_
        simp only [List.getElem_toArray, List.getElem_cons_succ, List.getElem_cons_zero, Act.put, List.setIfInBounds_toArray, List.set_cons_succ, List.set_cons_zero]
        refine wpAny_take (i := 21) (v := (.pointer (some ⟨E, 6, none⟩))) rfl (by kernel_rfl) (by kernel_rfl) (by kernel_rfl) (fun _ _ _ h => h) (.inl ⟨rfl, fun _ => by simp [execOp, go_sem, Act.eval]⟩) ?_
        simp only [List.getElem_toArray, List.getElem_cons_succ, List.getElem_cons_zero, Act.put, List.setIfInBounds_toArray, List.set_cons_succ, List.set_cons_zero]
        refine wpAny_all (rs := [18, 22]) (by kernel_rfl) (by simp) ?_
        intro k hk
        simp only [List.mem_cons, List.mem_nil_iff, or_false] at hk
        rcases hk with rfl | rfl
        · refine wpOp_runw rfl rfl (wp_call_fn 11 #[.pointer (some ⟨D, 0, none⟩)] (by simp [execOp, go_sem, Act.eval, resolve, invoke, enterLost]) (hLo.mono ?_))
          rintro e w8 ⟨rfl, rfl⟩
          simp only [List.getElem_toArray, List.getElem_cons_succ, List.getElem_cons_zero, Act.put, List.setIfInBounds_toArray, List.set_cons_succ, List.set_cons_zero]
          refine wpAny_all (rs := [22]) (by kernel_rfl) (by simp) ?_
          intro k hk
          simp only [List.mem_cons, List.mem_nil_iff, or_false] at hk
          subst hk
          refine wpOp_runw rfl rfl (wp_load_cell 3 _ rfl E 6 rfl (.int .i64 d.lo) (load_int _ E 6 _ (A7.cell rfl)) ?_)
          simp only [List.getElem_toArray, List.getElem_cons_succ, List.getElem_cons_zero, Act.put, List.setIfInBounds_toArray, List.set_cons_succ, List.set_cons_zero]
          refine wpAny_take (i := 23) (v := (.bool false)) rfl (by kernel_rfl) (by kernel_rfl) (by kernel_rfl) (fun _ _ _ h => h) (.inl ⟨rfl, fun _ => by simp [execOp, go_sem, Act.eval, n3]⟩) ?_
          simp only [List.getElem_toArray, List.getElem_cons_succ, List.getElem_cons_zero, Act.put, List.setIfInBounds_toArray, List.set_cons_succ, List.set_cons_zero]
          refine wpAny_take (i := 24) (v := (.bool false)) rfl (by kernel_rfl) (by kernel_rfl) (by kernel_rfl) (fun _ _ _ h => h) (.inl ⟨rfl, fun _ => by simp [execOp, go_sem, Act.eval]⟩) ?_
          simp only [List.getElem_toArray, List.getElem_cons_succ, List.getElem_cons_zero, Act.put, List.setIfInBounds_toArray, List.set_cons_succ, List.set_cons_zero]
          refine wpAny_take (i := 25) (v := (.bool false)) rfl (by kernel_rfl) (by kernel_rfl) (by kernel_rfl) (fun _ _ _ h => h) (.inl ⟨rfl, fun _ => rfl⟩) ?_
          simp only [List.getElem_toArray, List.getElem_cons_succ, List.getElem_cons_zero, Act.put, List.setIfInBounds_toArray, List.set_cons_succ, List.set_cons_zero]
          refine wpAny_take (i := 26) (v := (.pointer (some ⟨D, 0, none⟩))) rfl (by kernel_rfl) (by kernel_rfl) (by kernel_rfl) (fun _ _ _ h => h) (.inl ⟨rfl, fun _ => rfl⟩) ?_
          simp only [List.getElem_toArray, List.getElem_cons_succ, List.getElem_cons_zero, Act.put, List.setIfInBounds_toArray, List.set_cons_succ, List.set_cons_zero]
          refine wpAny_take (i := 27) (v := (.pointer (some ⟨E, 0, none⟩))) rfl (by kernel_rfl) (by kernel_rfl) (by kernel_rfl) (fun _ _ _ h => h) (.inl ⟨rfl, fun _ => rfl⟩) ?_
          simp only [List.getElem_toArray, List.getElem_cons_succ, List.getElem_cons_zero, Act.put, List.setIfInBounds_toArray, List.set_cons_succ, List.set_cons_zero]
          refine wpAny_take (i := 28) (v := (.slice (some ⟨b, off, none⟩) xa.length cap)) rfl (by kernel_rfl) (by kernel_rfl) (by kernel_rfl) (fun _ _ _ h => h) (.inl ⟨rfl, fun _ => rfl⟩) ?_
          simp only [List.getElem_toArray, List.getElem_cons_succ, List.getElem_cons_zero, Act.put, List.setIfInBounds_toArray, List.set_cons_succ, List.set_cons_zero]
          refine wpAny_take (i := 29) (v := (.int .i64 k)) rfl (by kernel_rfl) (by kernel_rfl) (by kernel_rfl) (fun _ _ _ h => h) (.inl ⟨rfl, fun _ => rfl⟩) ?_
          simp only [List.getElem_toArray, List.getElem_cons_succ, List.getElem_cons_zero, Act.put, List.setIfInBounds_toArray, List.set_cons_succ, List.set_cons_zero]
          refine wpAny_take (i := 30) (v := (.pointer (some ⟨b, off + k * 14, none⟩))) rfl (by kernel_rfl) (by kernel_rfl) (by kernel_rfl) (fun _ _ _ h => h) (.inl ⟨rfl, fun _ => by simp [execOp, go_sem, Act.eval, hkl]⟩) ?_
          simp only [List.getElem_toArray, List.getElem_cons_succ, List.getElem_cons_zero, Act.put, List.setIfInBounds_toArray, List.set_cons_succ, List.set_cons_zero]
          refine wpAny_all (rs := [31]) (by kernel_rfl) (by simp) ?_
          intro k hk
          simp only [List.mem_cons, List.mem_nil_iff, or_false] at hk
          subst hk
          refine wpOp_runw rfl rfl (wp_load_mid 47 _ rfl b (off + k * 14) rfl a.cells _ hR7 Try.underlying47 rfl (by rw [infoAx, Ax.len]) ?_)
          simp only [List.getElem_toArray, List.getElem_cons_succ, List.getElem_cons_zero, Act.put, List.setIfInBounds_toArray, List.set_cons_succ, List.set_cons_zero]
          refine wpAny_all (rs := [32]) (by kernel_rfl) (by simp) ?_
          intro k hk
          simp only [List.mem_cons, List.mem_nil_iff, or_false] at hk
          subst hk
          refine wpOp_runw rfl rfl (wp_call_fn 12 #[.pointer (some ⟨D, 0, none⟩), .pointer (some ⟨E, 0, none⟩), .agg a.arr] (by simp [execOp, go_sem, Act.eval, resolve, invoke, enterDoes]; rfl) (hDs.mono ?_))
          rintro e w9 ⟨rfl, s9, d9, vm9, vc9, vI9, J9, R9, B9, t9, l9, m9⟩
          simp only [List.getElem_toArray, List.getElem_cons_succ, List.getElem_cons_zero, Act.put, List.setIfInBounds_toArray, List.set_cons_succ, List.set_cons_zero]
          refine wpAny_take (i := 33) (v := (.bool false)) rfl (by kernel_rfl) (by kernel_rfl) (by kernel_rfl) (fun _ _ _ h => h) (.inl ⟨rfl, fun _ => by simp [execOp, go_sem, Act.eval]⟩) ?_
          simp only [List.getElem_toArray, List.getElem_cons_succ, List.getElem_cons_zero, Act.put, List.setIfInBounds_toArray, List.set_cons_succ, List.set_cons_zero]
          refine wpAny_take (i := 34) (v := (.bool false)) rfl (by kernel_rfl) (by kernel_rfl) (by kernel_rfl) (fun _ _ _ h => h) (.inl ⟨rfl, fun _ => by simp [execOp, go_sem, Act.eval]⟩) ?_
          simp only [List.getElem_toArray, List.getElem_cons_succ, List.getElem_cons_zero, Act.put, List.setIfInBounds_toArray, List.set_cons_succ, List.set_cons_zero]
          refine wpAny_done (by kernel_rfl) ?_ _
          have HX : Hid (Jt D E s9 d9 vm9 vc9 vI9 w9 ∧ Rl s9 d9 ∧ s9.tk ≤ ((k + 1 : Nat) : Int) ∧ 0 ≤ s9.lo ∧ s9.lo ≤ ((k + 1 : Nat) : Int) ∧ Below D w5 w9) := ⟨J9, R9, by omega, by omega, by omega, B7.trans B9⟩
          clear hDs hLo J9 R9 B9 A7 hR7
          go_wp2
          go_roundw
          case rel => exact ⟨k + 1, s9, d9, vm9, vc9, vI9, by omega, by go_num, HX.out⟩
          case measure => simp [intOf]; omega
        · refine wpOp_runw rfl rfl (wp_load_cell 3 _ rfl E 6 rfl (.int .i64 d.lo) (load_int _ E 6 _ (A7.cell rfl)) ?_)
          simp only [List.getElem_toArray, List.getElem_cons_succ, List.getElem_cons_zero, Act.put, List.setIfInBounds_toArray, List.set_cons_succ, List.set_cons_zero]
          refine wpAny_all (rs := [18]) (by kernel_rfl) (by simp) ?_
          intro k hk
          simp only [List.mem_cons, List.mem_nil_iff, or_false] at hk
          subst hk
          refine wpOp_runw rfl rfl (wp_call_fn 11 #[.pointer (some ⟨D, 0, none⟩)] (by simp [execOp, go_sem, Act.eval, resolve, invoke, enterLost]) (hLo.mono ?_))
          rintro e w8 ⟨rfl, rfl⟩
          simp only [List.getElem_toArray, List.getElem_cons_succ, List.getElem_cons_zero, Act.put, List.setIfInBounds_toArray, List.set_cons_succ, List.set_cons_zero]
          refine wpAny_take (i := 23) (v := (.bool false)) rfl (by kernel_rfl) (by kernel_rfl) (by kernel_rfl) (fun _ _ _ h => h) (.inl ⟨rfl, fun _ => by simp [execOp, go_sem, Act.eval, n3]⟩) ?_
          simp only [List.getElem_toArray, List.getElem_cons_succ, List.getElem_cons_zero, Act.put, List.setIfInBounds_toArray, List.set_cons_succ, List.set_cons_zero]
          refine wpAny_take (i := 24) (v := (.bool false)) rfl (by kernel_rfl) (by kernel_rfl) (by kernel_rfl) (fun _ _ _ h => h) (.inl ⟨rfl, fun _ => by simp [execOp, go_sem, Act.eval]⟩) ?_
          simp only [List.getElem_toArray, List.getElem_cons_succ, List.getElem_cons_zero, Act.put, List.setIfInBounds_toArray, List.set_cons_succ, List.set_cons_zero]
          refine wpAny_take (i := 25) (v := (.bool false)) rfl (by kernel_rfl) (by kernel_rfl) (by kernel_rfl) (fun _ _ _ h => h) (.inl ⟨rfl, fun _ => rfl⟩) ?_
          simp only [List.getElem_toArray, List.getElem_cons_succ, List.getElem_cons_zero, Act.put, List.setIfInBounds_toArray, List.set_cons_succ, List.set_cons_zero]
          refine wpAny_take (i := 26) (v := (.pointer (some ⟨D, 0, none⟩))) rfl (by kernel_rfl) (by kernel_rfl) (by kernel_rfl) (fun _ _ _ h => h) (.inl ⟨rfl, fun _ => rfl⟩) ?_
          simp only [List.getElem_toArray, List.getElem_cons_succ, List.getElem_cons_zero, Act.put, List.setIfInBounds_toArray, List.set_cons_succ, List.set_cons_zero]
          refine wpAny_take (i := 27) (v := (.pointer (some ⟨E, 0, none⟩))) rfl (by kernel_rfl) (by kernel_rfl) (by kernel_rfl) (fun _ _ _ h => h) (.inl ⟨rfl, fun _ => rfl⟩) ?_
          simp only [List.getElem_toArray, List.getElem_cons_succ, List.getElem_cons_zero, Act.put, List.setIfInBounds_toArray, List.set_cons_succ, List.set_cons_zero]
          refine wpAny_take (i := 28) (v := (.slice (some ⟨b, off, none⟩) xa.length cap)) rfl (by kernel_rfl) (by kernel_rfl) (by kernel_rfl) (fun _ _ _ h => h) (.inl ⟨rfl, fun _ => rfl⟩) ?_
          simp only [List.getElem_toArray, List.getElem_cons_succ, List.getElem_cons_zero, Act.put, List.setIfInBounds_toArray, List.set_cons_succ, List.set_cons_zero]
          refine wpAny_take (i := 29) (v := (.int .i64 k)) rfl (by kernel_rfl) (by kernel_rfl) (by kernel_rfl) (fun _ _ _ h => h) (.inl ⟨rfl, fun _ => rfl⟩) ?_
          simp only [List.getElem_toArray, List.getElem_cons_succ, List.getElem_cons_zero, Act.put, List.setIfInBounds_toArray, List.set_cons_succ, List.set_cons_zero]
          refine wpAny_take (i := 30) (v := (.pointer (some ⟨b, off + k * 14, none⟩))) rfl (by kernel_rfl) (by kernel_rfl) (by kernel_rfl) (fun _ _ _ h => h) (.inl ⟨rfl, fun _ => by simp [execOp, go_sem, Act.eval, hkl]⟩) ?_
          simp only [List.getElem_toArray, List.getElem_cons_succ, List.getElem_cons_zero, Act.put, List.setIfInBounds_toArray, List.set_cons_succ, List.set_cons_zero]
          refine wpAny_all (rs := [31]) (by kernel_rfl) (by simp) ?_
          intro k hk
          simp only [List.mem_cons, List.mem_nil_iff, or_false] at hk
          subst hk
          refine wpOp_runw rfl rfl (wp_load_mid 47 _ rfl b (off + k * 14) rfl a.cells _ hR7 Try.underlying47 rfl (by rw [infoAx, Ax.len]) ?_)
          simp only [List.getElem_toArray, List.getElem_cons_succ, List.getElem_cons_zero, Act.put, List.setIfInBounds_toArray, List.set_cons_succ, List.set_cons_zero]
          refine wpAny_all (rs := [32]) (by kernel_rfl) (by simp) ?_
          intro k hk
          simp only [List.mem_cons, List.mem_nil_iff, or_false] at hk
          subst hk
          refine wpOp_runw rfl rfl (wp_call_fn 12 #[.pointer (some ⟨D, 0, none⟩), .pointer (some ⟨E, 0, none⟩), .agg a.arr] (by simp [execOp, go_sem, Act.eval, resolve, invoke, enterDoes]; rfl) (hDs.mono ?_))
          rintro e w9 ⟨rfl, s9, d9, vm9, vc9, vI9, J9, R9, B9, t9, l9, m9⟩
          simp only [List.getElem_toArray, List.getElem_cons_succ, List.getElem_cons_zero, Act.put, List.setIfInBounds_toArray, List.set_cons_succ, List.set_cons_zero]
          refine wpAny_take (i := 33) (v := (.bool false)) rfl (by kernel_rfl) (by kernel_rfl) (by kernel_rfl) (fun _ _ _ h => h) (.inl ⟨rfl, fun _ => by simp [execOp, go_sem, Act.eval]⟩) ?_
          simp only [List.getElem_toArray, List.getElem_cons_succ, List.getElem_cons_zero, Act.put, List.setIfInBounds_toArray, List.set_cons_succ, List.set_cons_zero]
          refine wpAny_take (i := 34) (v := (.bool false)) rfl (by kernel_rfl) (by kernel_rfl) (by kernel_rfl) (fun _ _ _ h => h) (.inl ⟨rfl, fun _ => by simp [execOp, go_sem, Act.eval]⟩) ?_
          simp only [List.getElem_toArray, List.getElem_cons_succ, List.getElem_cons_zero, Act.put, List.setIfInBounds_toArray, List.set_cons_succ, List.set_cons_zero]
          refine wpAny_done (by kernel_rfl) ?_ _
          have HX : Hid (Jt D E s9 d9 vm9 vc9 vI9 w9 ∧ Rl s9 d9 ∧ s9.tk ≤ ((k + 1 : Nat) : Int) ∧ 0 ≤ s9.lo ∧ s9.lo ≤ ((k + 1 : Nat) : Int) ∧ Below D w5 w9) := ⟨J9, R9, by omega, by omega, by omega, B7.trans B9⟩
          clear hDs hLo J9 R9 B9 A7 hR7
          go_wp2
          go_roundw
          case rel => exact ⟨k + 1, s9, d9, vm9, vc9, vI9, by omega, by go_num, HX.out⟩
          case measure => simp [intOf]; omega
      · have hkl2 : decide (k < xa.length) = false := by simp; omega
        have hL := lives5_any wr
        clear HI hkl JX BW RX
        go_wp2_with fail
        refine hL.mono ?_
        rintro e w6 ⟨rfl, b6⟩
        have B6 : Below p w w6 := BX.trans (b6.mono (by have := BX.size; omega))
        go_wp2
        go_ret
        exact ⟨rfl, by rw [hp]; exact B6⟩
end Go.Proofs.Ytfddoindcmdooaa
namespace Go.Proofs.Ytfddoindcmdooaa
open Go.ChangeShapes Go.WideShapes Go.ChangeAt Go.RowKit Go.Proofs.Bits
open Go.ChangeMaps (open_string shut_string)
set_option linter.unusedVariables false
set_option maxRecDepth 1000000

set_option maxRecDepth 100000 in
theorem driverActs_lifted (os : Os) (started : os.Started) (H : Type) (enc : TypeId × Value → H) :
    ReturnsInHanded {} Try.checked os 3 .any (Rows.driverActsSpec.pre6 enc Try.prog Try.f3 Rows.driverActsRow.domain false) (Rows.driverActsSpec.post enc Try.prog Try.f3 false true false false) := by
  refine returnsInHanded_of_change_sized (C := Try.checked) own started (by kernel_rfl) Try.func3
    (ChangeSpec.witness6 (enc := enc) (C := Try.checked) false ⟨#[], #[.agg #[.int .i64 0, .int .i64 0, .slice none 0 0], .slice none 0 0], []⟩ 8 (by kernel_rfl) (by kernel_rfl) (by kernel_rfl) (by kernel_rfl)) ?_
  intro W base args ds gs before hval0 hW hcnd hsz _
  have hval : ∀ (j : Nat) t v, Try.f3.params[j]? = some t → args[j]? = some v → Value.okWide Try.prog W .any base t v := hval0
  have hW' := hW
  obtain ⟨p, q, hA0, hV, rfl, hfz, hnd⟩ := hW
  have hA : DataW.TrodAll enc Try.prog W 0 (fun _ => true) true Try.f3.params.toList args.toList ds p := hA0
  rw [Try.params3] at hA hval hsz
  obtain ⟨v0, vs0, d0, ds0, p0, q0, hargs, rfl, rfl, h0, r0⟩ := trodAll_cons hA
  obtain ⟨v1, vs1, d1, ds1, p1, q1, rfl, rfl, rfl, h1, r1⟩ := trodAll_cons r0
  obtain ⟨rfl, rfl, rfl⟩ := trodAll_nil r1
  obtain rfl : args = #[v0, v1] := by cases args; simp_all
  obtain ⟨rfl, rfl⟩ := trodVars_none hV
  have lt0 : ∀ x ∈ p0, x.block < W.heap.size := by obtain ⟨m, hm⟩ := h0; exact DataW.trod_lt m _ _ _ hm
  have h0' := h0
  obtain ⟨bx, rm, cv, l0, d00, d01, d02, rfl, w0, rfl, e0⟩ := open_form (hval 0 24 v0 rfl rfl) h0
  have z0 := size_form (j := 0) hsz rfl rfl e0
  have lt1 : ∀ x ∈ p1, x.block < W.heap.size := by obtain ⟨m, hm⟩ := h1; exact DataW.trod_lt m _ _ _ hm
  obtain ⟨l1, w1, e1⟩ := open_acts5 (hval 1 25 v1 rfl rfl) h1 lt1
  have z1 := size_acts5 (j := 1) hsz rfl rfl e1
  clear hA0 hval0
  refine (dacts_walk bx rm cv l0 v1 l1 W z0 (by omega) w0 w1).mono fun e W' ⟨he, bel⟩ => ?_
  subst he
  exact ⟨_, rfl, _, _, _, [], _, [], hW', trodAll_mk1 (shut_bool Try.underlying4 _), (trodAll_cons_mk (Below.trod laidOut (by kernel_rfl) (of_decide_eq_true (by kernel_rfl)) h0' bel lt0) (trodAll_cons_mk (Below.trod laidOut (by kernel_rfl) (of_decide_eq_true (by kernel_rfl)) h1 bel lt1) trodAll_mk0)), rfl, bel.frame _, fun h => by cases h⟩

theorem driverActs_holds : Rows.DriverActsSaid :=
  OpenClaim.holds_of_wide 3 Try.f3 rfl rfl rfl rfl rfl rfl rfl ⟨rfl, rfl, rfl, rfl, rfl⟩ rfl rfl rfl rfl rfl (by kernel_rfl) Try.func3 (by kernel_rfl)
    (of_decide_eq_true (by kernel_rfl)) (by unfold Func.isWrapper; first | (rw [if_pos (by decide +kernel)]; kernel_rfl) | (rw [if_neg (by decide +kernel)]; exact ⟨rfl, rfl⟩))
    (fun os started H enc _ => driverActs_lifted os started H enc)
end Go.Proofs.Ytfddoindcmdooaa
