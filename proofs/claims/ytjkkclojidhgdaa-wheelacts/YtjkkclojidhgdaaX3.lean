/- The document's pass, walked. -/
import Derived.Test.YtjkkclojidhgdaaX2
namespace Go.Proofs.Ytjkkclojidhgdaa
open Go.RowKit Go.Maps Go.WideMaps
set_option linter.unusedVariables false
set_option maxRecDepth 1000000
set_option linter.unusedSimpArgs false
section
variable {E B now last : Nat} {l : List Dt} {v tv : Value} {w : World} {ls : List Dt} {tl : List Int} {tvk lvk : Value} {x : World}
theorem Pz.put (h : Pz E B now last l v tv w ls tl tvk lvk x) {q : Nat} {A : Array Value} {fr : Nat × Nat} (hq : x.heap[q]? = some (.cells A 59 fr)) (hl : lvk.ownBlock ≠ some q) (hw : w.heap.size ≤ q) (j : Nat) (u : Value) : Pz E B now last l v tv w ls tl tvk lvk (x.setCell ⟨q, j, none⟩ u) := by
  have hk : ∀ i, i ≠ q → (x.setCell ⟨q, j, none⟩ u).heap[i]? = x.heap[i]? := fun i hi => Below.heap_setCell x ⟨q, j, none⟩ u i hi
  have hs : (x.setCell ⟨q, j, none⟩ u).heap.size = x.heap.size := by simp [World.setCell]
  refine ⟨⟨(hk E (fun e => ?_)).trans h.xw.head, h.xw.row.same (by omega) (fun b A2 fr2 e hb => hk b (fun e2 => ?_)), h.xw.len⟩, row_apart h.row (fun i cur e _ => hk i (fun e2 => hl (by rw [← e2]; exact e))), row_apart h.tel (fun i cur e hi => hk i (fun e2 => ?_)), h.kw.more (O' := fun i => i = q) ⟨rfl, rfl, rfl, by omega, fun i _ ho => hk i ho⟩ (fun i hi e => by omega), h.blk, h.vb⟩
  · have := h.xw.head
    rw [e, hq] at this
    cases this
  · have := h.vb b e
    omega
  · rw [e2, hq] at hi
    cases hi
theorem Pz.lvlt (h : Pz E B now last l v tv w ls tl tvk lvk x) : lvk.ownBlock ≠ some x.heap.size := fun e => by
  obtain ⟨_, cur, hc⟩ := own_of h.row e
  have := (Array.getElem?_eq_some_iff.1 hc).1
  omega
theorem Pz.tvlt (h : Pz E B now last l v tv w ls tl tvk lvk x) : tvk.ownBlock ≠ some x.heap.size := fun e => by
  obtain ⟨_, cur, hc⟩ := own_of h.tel e
  have := (Array.getElem?_eq_some_iff.1 hc).1
  omega
theorem dt_put {q no a per : Nat} {wh : Int} (hq : x.heap[q]? = some (.cells #[.int .i64 no, .int .u64 a, .int .u64 per, .int .i64 wh] 59 (0, 0))) (c : Nat) : (x.setCell ⟨q, 1, none⟩ (.int .u64 c)).heap[q]? = some (.cells #[.int .i64 no, .int .u64 c, .int .u64 per, .int .i64 wh] 59 (0, 0)) := by
  simp only [World.setCell, Array.getElem?_modify, hq]
  simp
theorem dt_rng {q no a per : Nat} {wh : Int} (hq : x.heap[q]? = some (.cells #[.int .i64 no, .int .u64 a, .int .u64 per, .int .i64 wh] 59 (0, 0))) : x.rangeAt q 0 (dtC ⟨no, a, per, wh⟩) := by
  intro j u hj
  rw [Lib.cell_of_heap hq, Nat.zero_add]
  have h2 := hj
  unfold dtC at h2
  simpa using h2
end
theorem one_alloc (w : World) (o1 : Obj) : Below w.heap.size w (w.alloc o1) := (Below.refl _ _).alloc (Nat.le_refl _) o1
theorem old_two (w : World) (o1 o2 : Obj) : ((w.alloc o1).alloc o2).heap[w.heap.size]? = some o1 := by
  have h := heap_alloc_new w o1
  have := ((Below.refl (w.alloc o1).heap.size (w.alloc o1)).alloc (Nat.le_refl _) o2).block w.heap.size (by rw [size_alloc]; omega)
  rw [this]
  exact h
theorem new_set (w : World) (q j : Nat) (u : Value) (o : Obj) : ((w.setCell ⟨q, j, none⟩ u).alloc o).heap[w.heap.size]? = some o := by
  have := heap_alloc_new (w.setCell ⟨q, j, none⟩ u) o
  rw [show (w.setCell ⟨q, j, none⟩ u).heap.size = w.heap.size by simp [World.setCell]] at this
  exact this
theorem size_one (w : World) (o1 : Obj) (n : Nat) (h : n ≤ w.heap.size) : n ≤ (w.alloc o1).heap.size := by rw [size_alloc]; omega
theorem two_alloc (w : World) (o1 o2 : Obj) : Below w.heap.size w ((w.alloc o1).alloc o2) := ((Below.refl _ _).alloc (Nat.le_refl _) o1).alloc (by rw [size_alloc]; omega) o2
theorem new_two (w : World) (o1 o2 : Obj) : ((w.alloc o1).alloc o2).heap[w.heap.size + 1]? = some o2 := by
  have := heap_alloc_new (w.alloc o1) o2
  rw [size_alloc] at this
  exact this
theorem size_two (w : World) (o1 o2 : Obj) (n : Nat) (h : n ≤ w.heap.size) : n ≤ ((w.alloc o1).alloc o2).heap.size := by rw [size_alloc, size_alloc]; omega
set_option maxHeartbeats 4000000 in
theorem Xpass_any {E B now last : Nat} {l : List Dt} {v tv : Value} {w : World} {told : List Int} (h : Xw E l now last v w) (n : Nat) (hn : ∀ t ∈ l, n ≤ t.left ∧ t.left < 9223372036854775808 ∧ t.per < 9223372036854775808) (hnb : now + n < 9223372036854775808) (hB : B ≤ w.heap.size) (hr : w.ownsRow B 3 1 tv told.length (told.map (Value.int .i64))) (htl : told.length ≤ 65536) :
    Calls Try.prog 34 #[.pointer (some ⟨E, 0, none⟩), .int .u64 n, tv] w fun e w' => ∃ tv' v', e = .returned tv' ∧ Xw E (pdL n l) (now + n) last v' w' ∧ w'.ownsRow B 3 1 tv' (tlK told n l).length ((tlK told n l).map (Value.int .i64)) ∧ Kw (fun j => j = E ∨ tv.ownBlock = some j) w w' ∧ ∀ j, j < w.heap.size → tv'.ownBlock = some j → tv.ownBlock = some j := by
  obtain ⟨c0, c1, c2⟩ := h.c
  have f1 := h.frozen 1
  have hadd : (now : Int) + (n : Int) = ((now + n : Nat) : Int) := by omega
  obtain ⟨N2, hN2⟩ : ∃ x, now + n = x := ⟨_, rfl⟩
  rw [hN2] at hadd hnb
  have HN2 := toHid2 hN2
  have hlen := h.len
  have HP0 : Hid (Pz E B N2 last l v tv w [] told tv (.slice (some ⟨w.heap.size, 0, none⟩) 0 0) ((w.setCell ⟨E, 1, none⟩ (.int .u64 (N2 : Int))).alloc (.cells #[] 59))) := by
    obtain ⟨h1, g1⟩ := h.set (k := 1) (u := .int .u64 (N2 : Int)) (l' := l) (now' := N2) (last' := last) (v' := v) rfl h.row h.len
    have hsz : (w.setCell ⟨E, 1, none⟩ (.int .u64 (N2 : Int))).heap.size = w.heap.size := by simp [World.setCell]
    have b1 : Below (w.setCell ⟨E, 1, none⟩ (.int .u64 (N2 : Int))).heap.size (w.setCell ⟨E, 1, none⟩ (.int .u64 (N2 : Int))) ((w.setCell ⟨E, 1, none⟩ (.int .u64 (N2 : Int))).alloc (.cells #[] 59)) := (Below.refl _ _).alloc (Nat.le_refl _) _
    have ho := own_empty_e (w.setCell ⟨E, 1, none⟩ (.int .u64 (N2 : Int))) 59 4
    rw [hsz] at ho
    have k1 : Kw (fun j => j = E ∨ tv.ownBlock = some j) w (w.setCell ⟨E, 1, none⟩ (.int .u64 (N2 : Int))) := ⟨g1.os, g1.tape, g1.output, g1.size, fun k hk ho => g1.block k hk (fun e => ho (.inl (by cases e; rfl)))⟩
    have r1 : (w.setCell ⟨E, 1, none⟩ (.int .u64 (N2 : Int))).ownsRow B 3 1 tv told.length (told.map (Value.int .i64)) := row_apart hr (fun q cur _ hq => g1.block q (Array.getElem?_eq_some_iff.1 hq).1 (fun e => by
      cases e
      rw [h.head] at hq
      cases hq))
    refine ⟨h1.below b1, ho, row_apart r1 (fun q cur _ hq => b1.block q (Array.getElem?_eq_some_iff.1 hq).1), k1.trans (Kw.below b1), fun j _ e => e, fun j e => ?_⟩
    obtain ⟨A, fr, hA⟩ := h.row.typ j e
    exact (Array.getElem?_eq_some_iff.1 hA).1
  obtain ⟨ao, cap, rfl⟩ := h.row.wide.shape
  have hsz : (w.setCell ⟨E, 1, none⟩ (.int .u64 (N2 : Int))).heap.size = w.heap.size := by simp [World.setCell]
  have HHn := toHid2 hn
  clear h hr hN2 hn
  go_enter Try.func34, Try.ntmps34
  go_wp2
  clear c0 c1 c2 f1 hadd hsz
  go_loopw [2, 7, 8] (fun tvk lvk i x => ∃ k : Nat, k ≤ l.length ∧ i = .int .i64 k ∧ Pz E B N2 last l (.slice ao l.length cap) tv w (pdL n (l.take k)) (tlK told n (l.take k)) tvk lvk x) (fun _ _ i _ => l.length - (intOf i).toNat)
  case atStart => exact ⟨0, by omega, rfl, by
    have e : tlK told n (l.take 0) = told := by unfold tlK tells; simp; exact List.take_of_length_le htl
    rw [e]; exact HP0.out⟩
  case round =>
    obtain ⟨k, hk, rfl, P⟩ := hrel
    clear HP0
    obtain ⟨c0, c1, c2⟩ := P.xw.c
    obtain ⟨ta, tc, htv⟩ := own_shape5 P.tel
    subst htv
    have hT := tl_len told n (l.take k)
    have hLs : (pdL n (l.take k)).length ≤ 1024 := by
      have h1 : (pdL n (l.take k)).length ≤ (l.take k).length := List.length_filterMap_le _ _
      rw [List.length_take] at h1
      omega
    by_cases hkl : k < l.length
    · obtain ⟨b, off, cap', hv, hb, hR⟩ := P.xw.row.wide.at0 k hkl
      have hao : ao = some ⟨b, off, none⟩ := by injection hv
      subst hao
      have HPd := toHid2 (pd_take (n := n) hkl)
      have HTl := toHid2 (tl_take (told := told) (n := n) hkl)
      obtain ⟨h1, h2, h3⟩ := HHn.out l[k] (List.getElem_mem hkl)
      have HP : Hid (Pz E B N2 last l (.slice (some ⟨b, off, none⟩) l.length cap) tv w (pdL n (l.take k)) (tlK told n (l.take k)) (.slice ta (tlK told n (l.take k)).length tc) u7 wr) := P
      clear P hv
      generalize pdL n (l.take k) = ls at *
      generalize tlK told n (l.take k) = tl at *
      generalize l[k] = t at *
      obtain ⟨no, lf, per, wh⟩ := t
      simp only at h1 h2 h3
      by_cases hlt : n < lf
      · obtain ⟨z, hz⟩ : ∃ z, lf - n = z := ⟨_, rfl⟩
        have hsub : (lf : Int) - (n : Int) = (z : Int) := by omega
        have hgt : decide ((0 : Int) < (z : Int)) = true := by simp; omega
        have hks := HP.out.kw.size
        go_wp2_with (first
          | (refine dt_ld hR rfl _ rfl rfl ?_)
          | (refine app_dt (by rfl) _ _ rfl w.heap.size u7 ls rfl (HP.out.below (two_alloc _ _ _)).row ⟨no, z, per, wh⟩ _ rfl (new_two _ _ _) hLs (size_two _ _ _ _ hks) ?_; intro v6 w6 hr6 hg6))
        refine ⟨⟨k + 1, by omega, by go_num, ?_⟩, by simp [intOf]; omega⟩
        rw [HPd.out, HTl.out]
        rw [if_pos hlt]
        have e1 : dpF n ⟨no, lf, per, wh⟩ = some ⟨no, z, per, wh⟩ := by unfold dpF; rw [if_pos hlt]; rw [← hz]
        rw [e1]
        exact (HP.out.below (two_alloc _ _ _)).addL hr6 hg6
      · have hlf : lf = n := by omega
        have hsub : (lf : Int) - (n : Int) = 0 := by omega
        have hks := HP.out.kw.size
        have HTl2 : Hid (tlK told n (l.take (k + 1)) = (tl ++ [wh]).take 65536) := by have := HTl.out; rw [if_neg hlt] at this; exact this
        by_cases hpp : 0 < per
        · have hgp : decide ((0 : Int) < (per : Int)) = true := by simp; omega
          have HD : Hid (dpF n ⟨no, lf, per, wh⟩ = some ⟨no, per, per, wh⟩) := by unfold dpF; rw [if_neg hlt]; exact if_pos hpp
          by_cases htt : tl.length < 65536
          · have hdt : decide ((tl.length : Int) < 65536) = true := by simp; omega
            go_wp2_with (first
              | (refine dt_ld hR rfl _ rfl rfl ?_)
              | (refine app_int (by rfl) _ _ rfl B (.slice ta tl.length tc) tl rfl (HP.out.below (two_alloc _ _ _)).tel wh _ rfl (new_two _ _ _) hT (size_two _ _ _ _ (by omega)) ?_
                 intro v6 w6 hr6 hg6 hb6
                 have P6 := (HP.out.below (two_alloc wr _ _)).addT hr6 hg6 hb6
                 have T6 := (hg6.block wr.heap.size (by rw [size_alloc, size_alloc]; omega) (fun e => HP.out.tvlt e.symm)).trans (old_two wr _ _)
                 have P7 := P6.put T6 HP.out.lvlt hks 1 (.int .u64 per)
                 have HR7 := toHid2 (dt_rng (dt_put T6 per))
                 obtain ⟨d0, d1, d2, d3⟩ := dt_cells (dt_rng T6)
                 have z1 : w6.frozen? ⟨wr.heap.size, 1, none⟩ = false := Lib.frozen_of_heap T6 _
                 have hks6 := P7.kw.size
                 have HP7 := toHid2 P7
                 clear P6 P7 T6 hg6 hb6 hr6)
              | (refine dt_ld HR7.out rfl _ rfl rfl ?_)
              | (refine app_dt (by rfl) _ _ rfl w.heap.size u7 ls rfl (HP7.out.below (one_alloc _ _)).row ⟨no, per, per, wh⟩ _ rfl (new_set _ _ _ _ _) hLs (size_one _ _ _ hks6) ?_; intro v8 w8 hr8 hg8))
            refine ⟨⟨k + 1, by omega, by go_num, ?_⟩, by simp [intOf]; omega⟩
            rw [HPd.out, HTl2.out, HD.out, List.take_of_length_le (by simp; omega)]
            exact (HP7.out.below (one_alloc _ _)).addL hr8 hg8
          · have hdt : decide ((tl.length : Int) < 65536) = false := by simp; omega
            go_wp2_with (first
              | (refine dt_ld hR rfl _ rfl rfl ?_)
              | (refine app_dt (by rfl) _ _ rfl w.heap.size u7 ls rfl (HP.out.below (two_alloc _ _ _)).row ⟨no, per, per, wh⟩ _ rfl (new_two _ _ _) hLs (size_two _ _ _ _ hks) ?_; intro v6 w6 hr6 hg6))
            refine ⟨⟨k + 1, by omega, by go_num, ?_⟩, by simp [intOf]; omega⟩
            rw [HPd.out, HTl2.out, HD.out, List.take_append_of_le_length (by omega), List.take_of_length_le (by omega)]
            exact (HP.out.below (two_alloc _ _ _)).addL hr6 hg6
        · have hgp : decide ((0 : Int) < (per : Int)) = false := by simp; omega
          have HD : Hid (dpF n ⟨no, lf, per, wh⟩ = none) := by unfold dpF; rw [if_neg hlt]; exact if_neg hpp
          by_cases htt : tl.length < 65536
          · have hdt : decide ((tl.length : Int) < 65536) = true := by simp; omega
            go_wp2_with (first
              | (refine dt_ld hR rfl _ rfl rfl ?_)
              | (refine app_int (by rfl) _ _ rfl B (.slice ta tl.length tc) tl rfl (HP.out.below (two_alloc _ _ _)).tel wh _ rfl (new_two _ _ _) hT (size_two _ _ _ _ (by omega)) ?_
                 intro v6 w6 hr6 hg6 hb6
                 have P6 := (HP.out.below (two_alloc wr _ _)).addT hr6 hg6 hb6
                 have T6 := (hg6.block wr.heap.size (by rw [size_alloc, size_alloc]; omega) (fun e => HP.out.tvlt e.symm)).trans (old_two wr _ _)
                 obtain ⟨d0, d1, d2, d3⟩ := dt_cells (dt_rng T6)
                 have HP6 := toHid2 P6
                 clear P6 T6 hg6 hb6 hr6))
            refine ⟨⟨k + 1, by omega, by go_num, ?_⟩, by simp [intOf]; omega⟩
            rw [HPd.out, HTl2.out, HD.out, List.take_of_length_le (by simp; omega)]
            simpa using HP6.out
          · have hdt : decide ((tl.length : Int) < 65536) = false := by simp; omega
            go_wp2_with (refine dt_ld hR rfl _ rfl rfl ?_)
            refine ⟨⟨k + 1, by omega, by go_num, ?_⟩, by simp [intOf]; omega⟩
            rw [HPd.out, HTl2.out, HD.out, List.take_append_of_le_length (by omega), List.take_of_length_le (by omega)]
            simpa using HP.out.below (one_alloc _ _)
    · have hk2 : k = l.length := by omega
      subst hk2
      rw [List.take_length] at P hT hLs
      have f0 := P.xw.frozen 0
      obtain ⟨la, lc, hlv⟩ := own_shape5 P.row
      subst hlv
      have HX : Hid (Xw E (pdL n l) N2 last (.slice la (pdL n l).length lc) (wr.setCell ⟨E, 0, none⟩ (.slice la (pdL n l).length lc)) ∧ (wr.setCell ⟨E, 0, none⟩ (.slice la (pdL n l).length lc)).ownsRow B 3 1 (.slice ta (tlK told n l).length tc) (tlK told n l).length ((tlK told n l).map (Value.int .i64)) ∧ Kw (fun j => j = E ∨ tv.ownBlock = some j) w (wr.setCell ⟨E, 0, none⟩ (.slice la (pdL n l).length lc)) ∧ ∀ j, j < w.heap.size → (Value.slice ta (tlK told n l).length tc).ownBlock = some j → tv.ownBlock = some j) := by
        have R : RT 59 4 dtC wr (.slice la (pdL n l).length lc) (pdL n l) := RT.own DT P.row
        obtain ⟨x1, g1⟩ := P.xw.set (k := 0) (u := .slice la (pdL n l).length lc) (l' := pdL n l) (now' := N2) (last' := last) (v' := .slice la (pdL n l).length lc) rfl R hLs
        refine ⟨x1, row_apart P.tel (fun q cur _ hq => g1.block q (Array.getElem?_eq_some_iff.1 hq).1 (fun e => ?_)), P.kw.more (O' := fun j => j = E) ⟨g1.os, g1.tape, g1.output, g1.size, fun i hi ho => g1.block i hi (fun e => ho (by cases e; rfl))⟩ (fun i _ e => .inl e), P.blk⟩
        cases e
        rw [P.xw.head] at hq
        cases hq
      have HN3 := HN2.out
      rw [List.take_length]
      clear P
      go_wp2
      go_ret
      rw [HN3]
      exact ⟨_, _, rfl, HX.out⟩
end Go.Proofs.Ytjkkclojidhgdaa
