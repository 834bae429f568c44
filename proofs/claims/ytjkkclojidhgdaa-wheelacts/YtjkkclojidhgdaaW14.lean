/- runOut of a wheel, where the slot has a map. -/
import Derived.Test.YtjkkclojidhgdaaWRow
namespace Go.Proofs.Ytjkkclojidhgdaa
open Go.RowKit Go.Maps Go.WideMaps
set_option linter.unusedVariables false
set_option maxRecDepth 1000000
set_option linter.unusedSimpArgs false
theorem row_below {w w' : World} {B : Nat} {e : TypeId} {c m : Nat} {v : Value} {xs : List Value} (h : w.ownsRow B e c v m xs) (hb : Below w.heap.size w w') : w'.ownsRow B e c v m xs :=
  h.kept (row := none) ⟨hb.os, hb.tape, hb.output, hb.size, fun k hk _ => hb.block k hk⟩ (by cases hv : v.ownBlock with | none => exact .inl rfl | some q => exact .inr (by simp))
theorem Kw.more {O O' : Nat → Prop} {w x y : World} (h1 : Kw O w x) (h2 : Kw O' x y) (hO : ∀ k, k < w.heap.size → O' k → O k) : Kw O w y :=
  ⟨h2.os.trans h1.os, h2.tape.trans h1.tape, h2.output.trans h1.output, Nat.le_trans h1.size h2.size, fun k hk ho => (h2.keep k (Nat.lt_of_lt_of_le hk h1.size) (fun e => ho (hO k hk e))).trans (h1.keep k hk ho)⟩
theorem Kw.row {w w' : World} {v : Value} (h : w.grownBy w' v.ownBlock) : Kw (fun k => v.ownBlock = some k) w w' := ⟨h.os, h.tape, h.output, h.size, fun k hk ho => h.block k hk (fun e => ho e.symm)⟩
section
variable {g now given n : Nat} {ts ls : List Tm} {bt S : Nat} {sm : Nat → Option Nat} {w : World}
set_option maxHeartbeats 4000000 in
theorem runOut_some (h : Wh g now given n ts ts bt S sm w) (hb : Bkd ts) (hl : ts.length ≤ 1024) (hper : ∀ t ∈ ts, t.per ≤ 4294967296) (hdu : ∀ t ∈ ts, t.due < 9223372036854775808) (B : Nat) (hB0 : B ≤ w.heap.size) (tv : Value) (told : List Int) (htl : told.length ≤ 131072) (hown : w.ownsRow B 3 1 tv told.length (told.map (Value.int .i64))) (b : Nat) (hs : sm (now % n) = some b) :
    Calls Try.prog 36 #[.pointer (some ⟨g, 0, none⟩), tv] w fun e w' => ∃ tv', e = .returned tv' ∧ w'.ownsRow B 3 1 tv' (told.length + (outs now ts).length) ((told ++ (outs now ts).map (·.what)).map (Value.int .i64)) ∧ ∃ sm', Wh g now given n ((outs now ts).foldl (run1 now) ts) ((outs now ts).foldl (run1 now) ts) bt S sm' w' ∧ Kw (fun k => OwT g bt S n sm ts k ∨ tv.ownBlock = some k) w w' ∧ More n sm sm' w ∧ ∀ j, j < w.heap.size → tv'.ownBlock = some j → tv.ownBlock = some j := by
  obtain ⟨i, hi⟩ : ∃ i, now % n = i := ⟨_, rfl⟩
  rw [hi] at hs
  have hin : i < n := by rw [← hi]; exact Nat.mod_lt _ h.n0
  obtain ⟨i0, hi0, hz0, hz1, hz2⟩ := info_parts infoI
  obtain ⟨l, hL⟩ : ∃ l, inSlot n i ts = l := ⟨_, rfl⟩
  have hlr : Rise l := by rw [← hL]; exact rise_filter h.up _
  have hll : l.length ≤ 1024 := by rw [← hL]; exact Nat.le_trans (List.length_filter_le _ _) hl
  have hlt : ∀ t ∈ l, t ∈ ts := fun t ht => by rw [← hL] at ht; exact (List.mem_filter.1 ht).1
  have hlo : l.filter (fun t => t.due == now) = outs now ts := by rw [← hL, ← hi]; exact outs_slot n now ts
  have HW : Hid (Wh g now given n ts ts bt S sm w) := h
  have HO : Hid (w.ownsRow B 3 1 tv told.length (told.map (Value.int .i64))) := hown
  have hw1b := h.w1
  go_enter Try.func36, Try.ntmps36
  go_wp2_with fail
  refine wp_region_held (S := fun x => x.cell? ⟨g, 3, none⟩ = some (.slice (some ⟨S, 0, none⟩) n n) ∧ x.cell? ⟨g, 0, none⟩ = some (.int .u64 now) ∧ x.cell? ⟨S, i, none⟩ = some (.map (some b))) (by kernel_rfl) ?_
  obtain ⟨w1, hw1⟩ : ∃ x : World, { w with drawn := w.drawn + 1 } = x := ⟨_, rfl⟩
  rw [hw1]
  have h1 : Wh g now given n ts ts bt S sm w1 := by rw [← hw1]; exact h.drew _
  have hB : Below w.heap.size w w1 := by rw [← hw1]; exact ⟨rfl, rfl, rfl, Nat.le_refl _, fun _ _ => rfl⟩
  have s1 : w1.cell? ⟨g, 3, none⟩ = some (.slice (some ⟨S, 0, none⟩) n n) ∧ w1.cell? ⟨g, 0, none⟩ = some (.int .u64 now) ∧ w1.cell? ⟨S, i, none⟩ = some (.map (some b)) := by
    obtain ⟨cs, r1, r2, r3⟩ := h1.row
    exact ⟨h1.c.2.2.2, h1.c.1, by rw [Lib.cell_of_heap r1, r3 i hin, hs]⟩
  have hPl := place_any h1 now (by have := h1.w1; omega)
  rw [hi] at hPl
  obtain ⟨w2, hrg, hrn, hg2, hz⟩ := World.ownsMap.range (h1.maps i b hin hs).1 lawI und_slot
  rw [hL] at hrn
  have hB2 : Below w.heap.size w w2 := by
    have e1 : w1.heap.size = w.heap.size := by rw [← hw1]
    exact hB.trans (e1 ▸ grown_below hg2)
  have s2 : w2.cell? ⟨g, 3, none⟩ = some (.slice (some ⟨S, 0, none⟩) n n) ∧ w2.cell? ⟨g, 0, none⟩ = some (.int .u64 now) ∧ w2.cell? ⟨S, i, none⟩ = some (.map (some b)) := by
    have h2 := h1.below (grown_below hg2)
    obtain ⟨cs, r1, r2, r3⟩ := h2.row
    exact ⟨h2.c.2.2.2, h2.c.1, by rw [Lib.cell_of_heap r1, r3 i hin, hs]⟩
  have hin2 : (i : Int) < (n : Int) := by omega
  have e1 : w1.heap.size = w.heap.size := by rw [← hw1]
  rw [e1] at hrg hrn
  have hbw : b < w.heap.size := (h.maps i b hin hs).1.lt
  clear h h1 hw1 hB hg2 hz e1 hown
  refine wpAnyH_take (i := 0) (v := (.pointer (some ⟨g, 0, none⟩))) rfl (by kernel_rfl) (by kernel_rfl) (by kernel_rfl) (fun _ _ _ h => h) (.inl ⟨rfl, fun _ hS => rfl⟩) s1 ?_
  simp only [List.getElem_toArray, List.getElem_cons_succ, List.getElem_cons_zero, Act.put, List.setIfInBounds_toArray, List.set_cons_succ, List.set_cons_zero]
  refine wpAnyH_take (i := 1) (v := (.pointer (some ⟨g, 0, none⟩))) rfl (by kernel_rfl) (by kernel_rfl) (by kernel_rfl) (fun _ _ _ h => h) (.inl ⟨rfl, fun _ hS => by simp [execOp, go_sem, Act.eval]⟩) s1 ?_
  simp only [List.getElem_toArray, List.getElem_cons_succ, List.getElem_cons_zero, Act.put, List.setIfInBounds_toArray, List.set_cons_succ, List.set_cons_zero]
  refine wpAnyH_take (i := 2) (v := (.pointer (some ⟨g, 3, none⟩))) rfl (by kernel_rfl) (by kernel_rfl) (by kernel_rfl) (fun _ _ _ h => h) (.inl ⟨rfl, fun _ hS => by simp [execOp, go_sem, Act.eval]⟩) s1 ?_
  simp only [List.getElem_toArray, List.getElem_cons_succ, List.getElem_cons_zero, Act.put, List.setIfInBounds_toArray, List.set_cons_succ, List.set_cons_zero]
  refine wpAnyH_take (i := 3) (v := (.slice (some ⟨S, 0, none⟩) n n)) rfl (by kernel_rfl) (by kernel_rfl) (by kernel_rfl) (fun _ _ _ h => h) (.inl ⟨rfl, fun _ hS => exec_load rfl rfl (load_slots _ g 3 _ _ _ hS.1)⟩) s1 ?_
  simp only [List.getElem_toArray, List.getElem_cons_succ, List.getElem_cons_zero, Act.put, List.setIfInBounds_toArray, List.set_cons_succ, List.set_cons_zero]
  refine wpAnyH_take (i := 4) (v := (.pointer (some ⟨g, 0, none⟩))) rfl (by kernel_rfl) (by kernel_rfl) (by kernel_rfl) (fun _ _ _ h => h) (.inl ⟨rfl, fun _ hS => rfl⟩) s1 ?_
  simp only [List.getElem_toArray, List.getElem_cons_succ, List.getElem_cons_zero, Act.put, List.setIfInBounds_toArray, List.set_cons_succ, List.set_cons_zero]
  refine wpAnyH_take (i := 5) (v := (.pointer (some ⟨g, 0, none⟩))) rfl (by kernel_rfl) (by kernel_rfl) (by kernel_rfl) (fun _ _ _ h => h) (.inl ⟨rfl, fun _ hS => rfl⟩) s1 ?_
  simp only [List.getElem_toArray, List.getElem_cons_succ, List.getElem_cons_zero, Act.put, List.setIfInBounds_toArray, List.set_cons_succ, List.set_cons_zero]
  refine wpAnyH_take (i := 6) (v := (.pointer (some ⟨g, 0, none⟩))) rfl (by kernel_rfl) (by kernel_rfl) (by kernel_rfl) (fun _ _ _ h => h) (.inl ⟨rfl, fun _ hS => by simp [execOp, go_sem, Act.eval]⟩) s1 ?_
  simp only [List.getElem_toArray, List.getElem_cons_succ, List.getElem_cons_zero, Act.put, List.setIfInBounds_toArray, List.set_cons_succ, List.set_cons_zero]
  refine wpAnyH_take (i := 7) (v := (.pointer (some ⟨g, 0, none⟩))) rfl (by kernel_rfl) (by kernel_rfl) (by kernel_rfl) (fun _ _ _ h => h) (.inl ⟨rfl, fun _ hS => by simp [execOp, go_sem, Act.eval]⟩) s1 ?_
  simp only [List.getElem_toArray, List.getElem_cons_succ, List.getElem_cons_zero, Act.put, List.setIfInBounds_toArray, List.set_cons_succ, List.set_cons_zero]
  refine wpAnyH_take (i := 8) (v := (.int .u64 now)) rfl (by kernel_rfl) (by kernel_rfl) (by kernel_rfl) (fun _ _ _ h => h) (.inl ⟨rfl, fun _ hS => exec_load rfl rfl (load_u64 _ g 0 _ hS.2.1)⟩) s1 ?_
  simp only [List.getElem_toArray, List.getElem_cons_succ, List.getElem_cons_zero, Act.put, List.setIfInBounds_toArray, List.set_cons_succ, List.set_cons_zero]
  refine wpAnyH_all (rs := [9]) (by kernel_rfl) (by simp) ?_
  intro k hk
  simp only [List.mem_cons, List.mem_nil_iff, or_false] at hk
  subst hk
  refine wpOp_run rfl rfl (wp_call_fn 38 #[.pointer (some ⟨g, 0, none⟩), .int .u64 now] (by simp [execOp, go_sem, Act.eval, resolve, invoke, enterPlace]) (hPl.mono ?_))
  rintro e w9 ⟨rfl, rfl⟩
  refine ⟨s1, ?_⟩
  simp only [List.getElem_toArray, List.getElem_cons_succ, List.getElem_cons_zero, Act.put, List.setIfInBounds_toArray, List.set_cons_succ, List.set_cons_zero]
  refine wpAnyH_take (i := 10) (v := (.pointer (some ⟨S, i, none⟩))) rfl (by kernel_rfl) (by kernel_rfl) (by kernel_rfl) (fun _ _ _ h => h) (.inl ⟨rfl, fun _ hS => by simp [execOp, go_sem, Act.eval, hin]⟩) s1 ?_
  simp only [List.getElem_toArray, List.getElem_cons_succ, List.getElem_cons_zero, Act.put, List.setIfInBounds_toArray, List.set_cons_succ, List.set_cons_zero]
  refine wpAnyH_take (i := 11) (v := (.map (some b))) rfl (by kernel_rfl) (by kernel_rfl) (by kernel_rfl) (fun _ _ _ h => h) (.inl ⟨rfl, fun _ hS => exec_load rfl rfl (load_slot _ S i _ hS.2.2)⟩) s1 ?_
  simp only [List.getElem_toArray, List.getElem_cons_succ, List.getElem_cons_zero, Act.put, List.setIfInBounds_toArray, List.set_cons_succ, List.set_cons_zero]
  refine wpAnyH_all (rs := [12]) (by kernel_rfl) (by simp) ?_
  intro k hk
  simp only [List.mem_cons, List.mem_nil_iff, or_false] at hk
  subst hk
  refine wpOp_run rfl rfl (wp_range_run _ 73 rfl (.map (some b)) _ rfl hrg ?_)
  refine ⟨s2, ?_⟩
  simp only [List.getElem_toArray, List.getElem_cons_succ, List.getElem_cons_zero, Act.put, List.setIfInBounds_toArray, List.set_cons_succ, List.set_cons_zero]
  refine wpAnyH_done (by kernel_rfl) ?_ _
  clear s1 s2 hPl hrg hin2
  go_wp2_with fail
  go_loopw [5] (fun ov wr => ∃ (left : Lit → Bool) (cnt : Nat) (zs : List Int), wr.ranges Try.prog 3 ptrR b w.heap.size l.length (.map (l.map ent)) left cnt ∧ (∀ kl, left kl = true → Maps.has (.map (l.map ent)) kl = true) ∧ wr.ownsRow w.heap.size 3 1 ov zs.length (zs.map (Value.int .i64)) ∧ Gat now l left zs ∧ zs.length + cnt ≤ l.length ∧ Below w.heap.size w wr)
    (fun _ wr => wr.rangeLeft b w.heap.size)
  case atStart =>
    refine ⟨_, _, [], hrn, fun _ hk => hk, World.ownsRow_nil _ _ _ _, Gat.start (fun t ht => ?_), by simp [Maps.size], hB2⟩
    rw [Maps.has_eq, List.any_map, List.any_eq_true]; exact ⟨t, ht, by simp [ent, same_int]⟩
  case round =>
    obtain ⟨left, cnt, zs, hrg, hle, hrow, hG, hcn, hBr⟩ := hrel
    clear hrn hB2
    go_wp2_with (first
      | (at_next; refine wpList_next_pm _ rfl _ rfl b w.heap.size l hlr _ _ rfl hrg hle ?_ ?_)
      | go_in)
    · intro hl0
      have hperm : zs.Perm ((outs now ts).map (fun t => (t.no : Int))) := by rw [← hlo]; exact hG.done hlr hl0
      have hso := sort_row hrow (by omega)
      have hro : Rise (outs now ts) := rise_filter HW.out.up _
      rw [sort_nums hro hperm] at hso
      have hN : zs.length = (outs now ts).length := by have := hperm.length_eq; simpa using this
      rw [hN] at hso
      have HA : Hid (∀ k, k ≤ (outs now ts).length → Aft now ts k) := aft_any HW.out.up hb
      have HB : Hid (Below w.heap.size w wr ∧ ∀ j, u5.ownBlock = some j → w.heap.size ≤ j) := ⟨hBr, fun j hj => (hrow.lt j hj).1⟩
      have HD : Hid (∀ t ∈ outs now ts, t ∈ ts ∧ t.due = now) := fun t ht => ⟨(List.mem_filter.1 ht).1, by simpa using (List.mem_filter.1 ht).2⟩
      have hNl : (outs now ts).length ≤ 1024 := by omega
      obtain ⟨os, hos⟩ : ∃ os, outs now ts = os := ⟨_, rfl⟩
      have HOS : Hid (outs now ts = os) := hos
      rw [hos] at hso HA HD hNl hro
      obtain ⟨N, hNN⟩ : ∃ N, os.length = N := ⟨_, rfl⟩
      rw [hNN] at hso hNl
      have HNN : Hid (os.length = N) := hNN
      clear hrg hle hrow hG hperm hN hBr hos hNN hlo hlt hll hlr hcn hL
      go_wp2_with fail
      refine hso.mono ?_
      rintro e w6 ⟨rfl, hrow6, hg6⟩
      have hB6 : Below w.heap.size w w6 := HB.out.1.grown hg6 HB.out.1.size (fun j hj => HB.out.2 j hj)
      clear hso hg6 HB
      rcases hrow6.2 with ⟨hnil, h0⟩ | ⟨q, cap, cur, hq0, hbase, hq, h1, h2, h3, h4⟩
      · subst hnil
        have hos0 : os = [] := List.eq_nil_of_length_eq_zero (HNN.out.trans h0)
        clear hrow6
        go_wp2_with fail
        refine wp_loop_rounds 1 ?_
        rw [rounds_succ]
        go_wp2
        go_ret
        rw [HOS.out, hos0]
        exact ⟨tv, rfl, by simpa using row_below HO.out hB6, sm, by simpa using HW.out.below hB6, Kw.below hB6, fun i b _ h => .inl h, fun j _ h => h⟩
      · subst hq0
        have hqw : w.heap.size ≤ q := hbase
        clear hq h1 h2 h3 h4 hbase cur
        go_wp2_with fail
        go_loopw [1, 46] (fun tvk kv wk => ∃ (k : Nat) (smk : Nat → Option Nat), k ≤ N ∧ kv = .int .i64 k ∧ wk.ownsRow B 3 1 tvk (told.length + k) ((told ++ (os.take k).map (·.what)).map (Value.int .i64)) ∧ wk.ownsRow w.heap.size 3 1 (.slice (some ⟨q, 0, none⟩) N cap) N ((os.map (fun t => (t.no : Int))).map (Value.int .i64)) ∧ Wh g now given n (aftK now ts k) (aftK now ts k) bt S smk wk ∧ Kw (fun j => OwT g bt S n sm ts j ∨ tv.ownBlock = some j) w wk ∧ More n sm smk w ∧ (∀ j, j < w.heap.size → tvk.ownBlock = some j → tv.ownBlock = some j) ∧ tvk.ownBlock ≠ some q)
          (fun _ kv _ => (N - intOf kv).toNat)
        case atStart =>
          refine ⟨0, sm, Nat.zero_le _, rfl, by simpa using row_below HO.out hB6, hrow6, by rw [aft_zero]; exact HW.out.below hB6, Kw.below hB6, fun i b _ h => .inl h, fun j _ h => h, fun e => ?_⟩
          have := (HO.out.lt q e).2
          omega
        case round =>
          obtain ⟨k, smk, hkN, rfl, hrt, hro6, hWk, hKk, hMk, hbl, hnq⟩ := hrel
          clear hrow6 hB6
          by_cases hkl : k < N
          · have hdc : decide ((k : Int) < (N : Int)) = true := by simp [hkl]
            have hko : k < os.length := by rw [HNN.out]; exact hkl
            obtain ⟨t, ht⟩ : ∃ t, os[k] = t := ⟨_, rfl⟩
            have hA : Aft now ts k := HA.out k (Nat.le_of_lt hko)
            have hmem : t ∈ aftK now ts k := by
              have := hA.mem k (by rw [HOS.out]; exact hko) (Nat.le_refl _)
              simp only [HOS.out] at this
              rw [← ht]; exact this
            have hsucc : aftK now ts (k + 1) = run1 now (aftK now ts k) t := by
              have := aft_succ (now := now) (ts := ts) (k := k) (by rw [HOS.out]; exact hko)
              simp only [HOS.out] at this
              rw [this, ht]
            have htk : os.take (k + 1) = os.take k ++ [t] := by rw [List.take_succ_eq_append_getElem hko, ht]
            have hck : wr.cell? ⟨q, k, none⟩ = some (.int .i64 t.no) := by
              have := hro6.cells (g := q) rfl k (.int .i64 t.no) (by simp [hko, ht])
              have e9 : (⟨q, 0, none⟩ : Addr).add k = ⟨q, k, none⟩ := by
                cases k with
                | zero => rfl
                | succ j => simp [Addr.add]
              rw [e9] at this
              exact this
            have hlk := hWk.tim.look1 hWk.up hmem (by have := hWk.nos t hmem; have := hWk.g1; omega) und_mapt
            obtain ⟨c0, c1, c2, c3⟩ := hWk.c
            obtain ⟨d0, d1, d2⟩ := (hWk.rts t hmem).c
            obtain ⟨ht1, ht2⟩ := HD.out t (by rw [← ht]; exact List.getElem_mem hko)
            have htp := hper t ht1
            have hlen : (aftK now ts k).length ≤ 1024 := Nat.le_trans hA.len hl
            have hbW : Below wr.heap.size wr (wr.alloc (.cells #[.int .i64 t.what] 3)) := (Below.refl _ _).alloc (Nat.le_refl _) _
            have HV : Hid (wr.ownsRow w.heap.size 3 1 (.slice (some ⟨q, 0, none⟩) N cap) N ((os.map (fun t => (t.no : Int))).map (Value.int .i64)) ∧ Wh g now given n (aftK now ts k) (aftK now ts k) bt S smk wr ∧ Kw (fun j => OwT g bt S n sm ts j ∨ tv.ownBlock = some j) w wr ∧ More n sm smk w ∧ (∀ j, j < w.heap.size → u1.ownBlock = some j → tv.ownBlock = some j) ∧ u1.ownBlock ≠ some q ∧ Aft now ts k ∧ t ∈ aftK now ts k ∧ aftK now ts (k + 1) = run1 now (aftK now ts k) t ∧ os.take (k + 1) = os.take k ++ [t] ∧ Below wr.heap.size wr (wr.alloc (.cells #[.int .i64 t.what] 3)) ∧ t.due = now ∧ (aftK now ts k).length ≤ 1024) := ⟨hro6, hWk, hKk, hMk, hbl, hnq, hA, hmem, hsucc, htk, hbW, ht2, hlen⟩
            have hwsz : w.heap.size ≤ wr.heap.size := hKk.size
            have hqlt : q < wr.heap.size := (hro6.lt q rfl).2
            have hki : (k : Int) + 1 = ((k + 1 : Nat) : Int) := by omega
            clear hro6 hWk hKk hMk hbl hnq hA hmem hsucc htk hbW ht ht2 hlen
            unfold ptrV at hlk
            generalize hk1 : k + 1 = k1 at *
            go_wp2_with (first
              | (at_builtin; refine wpList_plain rfl fun _ hK => wp_append_own2 _ _ _ 48 rfl B 3 i0 (.int .i64 0) 1 8 Try.underlying48 hi0 hz0 hz1 hz2 rfl (by decide) _ _ _ rfl (hrt.alloc _) ⟨wr.heap.size, 0, none⟩ 1 1 [.int .i64 t.what] rfl rfl (cell_one_new _ _ _) (by simp [Value.oneCell']) (by unfold maxLen at *; omega) (by omega) (by simp; omega) ?_; intro v' w5 hown' hg5 hbl5; refine hK _ _ ?_; go_frame)
              | fail)
            obtain ⟨x1, x2, x3, x4, x5, x6, x7, x8, x9, x10, x11, x12, x13⟩ := HV.out
            have hW5 := (x2.below x11).row' (hrt.alloc (.cells #[.int .i64 t.what] 3)) hg5
            have hro5 := (x1.alloc (.cells #[.int .i64 t.what] 3)).kept hg5 (Or.inr (fun e => x6 e.symm))
            have hK5 : Kw (fun j => OwT g bt S n sm ts j ∨ tv.ownBlock = some j) w w5 := (x3.trans (Kw.below x11)).more (Kw.row hg5) (fun j hj e => .inr (x5 j hj e))
            have hnq5 : v'.ownBlock ≠ some q := fun e => x6 (hbl5 q (by have := x11.size; omega) e)
            have hbl6 : ∀ j, j < w.heap.size → v'.ownBlock = some j → tv.ownBlock = some j := fun j hj e => x5 j hj (hbl5 j (by have := x11.size; omega) e)
            have hBe := behind_any hW5 t x8 x7.bkd htp (by omega) x13
            unfold ptrV at hBe
            clear hrt
            refine hBe.mono ?_
            rintro e w7 ⟨rfl, smk', h7, k7, m7⟩
            have hto7 := hW5.keeps hown' k7
            have hro7 := hW5.keeps hro5 k7
            have hK7 : Kw (fun j => OwT g bt S n sm ts j ∨ tv.ownBlock = some j) w w7 := hK5.more k7 (fun j hj e => by
              rcases e with (e | e | e | ⟨i2, hi2, e⟩) | ⟨y, hy, e⟩
              · exact .inl (.inl (.inl e))
              · exact .inl (.inl (.inr (.inl e)))
              · exact .inl (.inl (.inr (.inr (.inl e))))
              · rcases x4 i2 j hi2 e with e | e
                · exact .inl (.inl (.inr (.inr (.inr ⟨i2, hi2, e⟩))))
                · omega
              · obtain ⟨z, hz, e2⟩ := x7.bks y hy
                exact .inl (.inr ⟨z, hz, e2.trans e⟩))
            have hM7 : More n sm smk' w := fun i2 b2 hi2 e => by
              rcases m7 i2 b2 hi2 e with e | e
              · exact x4 i2 b2 hi2 e
              · exact .inr (Nat.le_trans hK5.size e)
            have HZ : Hid (w7.ownsRow B 3 1 v' (told.length + k1) ((told ++ (os.take k1).map (·.what)).map (Value.int .i64)) ∧ w7.ownsRow w.heap.size 3 1 (.slice (some ⟨q, 0, none⟩) N cap) N ((os.map (fun t => (t.no : Int))).map (Value.int .i64)) ∧ Wh g now given n (aftK now ts k1) (aftK now ts k1) bt S smk' w7 ∧ Kw (fun j => OwT g bt S n sm ts j ∨ tv.ownBlock = some j) w w7 ∧ More n sm smk' w ∧ (∀ j, j < w.heap.size → v'.ownBlock = some j → tv.ownBlock = some j) ∧ v'.ownBlock ≠ some q) := by
              refine ⟨?_, hro7, by rw [x9]; exact h7, hK7, hM7, hbl6, hnq5⟩
              rw [x10, ← hk1, ← Nat.add_assoc]
              simpa using hto7
            clear hBe hto7 hro7 hK7 hM7 h7 k7 m7 hW5 hro5 hK5 hnq5 hbl6 x1 x2 x3 x4 x5 x6 x7 x8 x9 x10 x11 x12 x13 hown' hg5 hbl5 HV
            have hk1N : k1 ≤ N := by omega
            have hk1b : k1 < 4611686018427387904 := by omega
            have hk1e : Hid (k + 1 = k1) := hk1
            clear hk1
            go_wp2
            go_roundw
            case rel =>
              obtain ⟨z1, z2, z3, z4, z5, z6, z7⟩ := HZ.out
              exact ⟨k1, smk', hk1N, rfl, z1, z2, z3, z4, z5, z6, z7⟩
            case measure =>
              have := hk1e.out
              simp [intOf]
              omega
          · have hdc : decide ((k : Int) < (N : Int)) = false := by simp [hkl]
            have hkN2 : k = N := by omega
            have HE : Hid (wr.ownsRow B 3 1 u1 (told.length + k) ((told ++ (os.take k).map (·.what)).map (Value.int .i64)) ∧ Wh g now given n (aftK now ts k) (aftK now ts k) bt S smk wr ∧ Kw (fun j => OwT g bt S n sm ts j ∨ tv.ownBlock = some j) w wr ∧ k = N ∧ More n sm smk w ∧ ∀ j, j < w.heap.size → u1.ownBlock = some j → tv.ownBlock = some j) := ⟨hrt, hWk, hKk, hkN2, hMk, hbl⟩
            clear hrt hro6 hWk hKk hMk hbl hnq hkN2
            go_wp2
            go_ret
            obtain ⟨e1, e2, e3, e4, e6, e7⟩ := HE.out
            have e5 : os.take k = os := List.take_of_length_le (by rw [HNN.out]; omega)
            rw [e5] at e1
            unfold aftK at e2
            rw [HOS.out] at *
            rw [e5] at e2
            exact ⟨_, rfl, by rw [HNN.out, ← e4]; exact e1, smk, e2, e3, e6, e7⟩
    · intro t w3 cnt3 ht hlft hrg3 hlc hg3 hen
      have hB3 : Below w.heap.size w w3 := hBr.grown hg3 hBr.size (fun j hj => by cases hj; exact Nat.le_refl _)
      have hW3 := HW.out.below hB3
      obtain ⟨c0, c1, c2, c3⟩ := hW3.c
      obtain ⟨d0, d1, d2⟩ := (hW3.rts t (hlt t ht)).c
      have hrow3 := hrow.kept hg3 (Or.inr (Go.row_ne_iter hrow hrg).symm)
      have hle3 : ∀ kl, (left kl && !kl.sameKey (.int .i64 t.no)) = true → Maps.has (.map (l.map ent)) kl = true := fun kl hk => hle kl (by rw [Bool.and_eq_true] at hk; exact hk.1)
      have hm3 : wr.rangeLeft b w.heap.size = cnt := hrg.left_eq
      have hdt := hdu t (hlt t ht)
      unfold ptrV at hen
      unfold ptrV
      by_cases hd : t.due = now
      · have hG3 := hG.into hlr ht hlft hd
        have hq : ((t.due : Int) == (now : Int)) = true := by simp [hd]
        have HR : Hid (w3.ranges Try.prog 3 ptrR b w.heap.size l.length (.map (l.map ent)) (fun z => left z && !z.sameKey (.int .i64 t.no)) cnt3 ∧ (∀ kl, (left kl && !kl.sameKey (.int .i64 t.no)) = true → Maps.has (.map (l.map ent)) kl = true) ∧ Gat now l (fun z => left z && !z.sameKey (.int .i64 t.no)) (zs ++ [(t.no : Int)]) ∧ cnt3 < cnt ∧ wr.rangeLeft b w.heap.size = cnt ∧ Below w.heap.size w w3) := ⟨hrg3, hle3, hG3, hlc, hm3, hB3⟩
        clear hrg hle hrow hG hBr hg3 hW3 hrg3 hle3 hG3 hm3 hB3
        go_wp2_with fail
        go_quiet (fail)
        have hrow4 : (w3.drewN nq).ownsRow w.heap.size 3 1 u5 zs.length (zs.map (Value.int .i64)) := hrow3
        clear hrow3
        go_wp2_with (first
          | (at_builtin; refine wpList_append_own _ rfl _ _ 48 rfl w.heap.size 3 i0 (.int .i64 0) 1 8 Try.underlying48 hi0 hz0 hz1 hz2 rfl (by decide) _ _ _ rfl (hrow4.alloc _) ⟨(w3.drewN nq).heap.size, 0, none⟩ 1 1 [.int .i64 t.no] rfl rfl (cell_one_new _ _ _) (by simp [Value.oneCell']) (by unfold maxLen at *; omega) (by omega) (by have := HR.out.2.2.2.2.2.size; simp; omega) ?_; intro v' w5 hown' hg5 hnil5; go_frame)
          | go_in)
        obtain ⟨s1, s2, s3, s4, s5, s6⟩ := HR.out
        have s1' := ((s1.kept (w' := w3.drewN nq) (row := none) ⟨rfl, rfl, rfl, Nat.le_refl _, fun _ _ _ => rfl⟩ (by simp) (by simp)).alloc (.cells #[.int .i64 t.no] 3)).kept hg5 (Go.row_ne_low hrow4 hbw) (Go.row_ne_iter hrow4 (s1.kept (w' := w3.drewN nq) (row := none) ⟨rfl, rfl, rfl, Nat.le_refl _, fun _ _ _ => rfl⟩ (by simp) (by simp)))
        go_roundw
        case rel =>
          refine ⟨_, cnt3, zs ++ [(t.no : Int)], s1', s2, by simpa using hown', s3, by simp; omega, ?_⟩
          exact ((below_drawn s6 nq).alloc (by exact s6.size) _).grown hg5 (by have := s6.size; simp; omega) (fun j hj => (hrow4.lt j hj).1)
        case measure =>
          rw [s5, s1'.left_eq]
          exact s4
      · have hG3 := hG.past hlr ht hd
        have hq : ((t.due : Int) == (now : Int)) = false := by rw [beq_eq_false_iff_ne]; omega
        have HR : Hid (w3.ranges Try.prog 3 ptrR b w.heap.size l.length (.map (l.map ent)) (fun z => left z && !z.sameKey (.int .i64 t.no)) cnt3 ∧ (∀ kl, (left kl && !kl.sameKey (.int .i64 t.no)) = true → Maps.has (.map (l.map ent)) kl = true) ∧ Gat now l (fun z => left z && !z.sameKey (.int .i64 t.no)) zs ∧ cnt3 < cnt ∧ wr.rangeLeft b w.heap.size = cnt ∧ Below w.heap.size w w3) := ⟨hrg3, hle3, hG3, hlc, hm3, hB3⟩
        clear hrg hle hrow hG hBr hg3 hW3 hrg3 hle3 hG3 hm3 hB3
        go_wp2_with fail
        go_quiet (fail)
        go_wp2
        go_roundw
        case rel =>
          obtain ⟨s1, s2, s3, s4, s5, s6⟩ := HR.out
          have s1' := s1.kept (w' := w3.drewN nq) (row := none) ⟨rfl, rfl, rfl, Nat.le_refl _, fun _ _ _ => rfl⟩ (by simp) (by simp)
          exact ⟨_, cnt3, zs, s1', s2, hrow3, s3, by omega, below_drawn s6 nq⟩
        case measure =>
          obtain ⟨s1, s2, s3, s4, s5, s6⟩ := HR.out
          have s1' := s1.kept (w' := w3.drewN nq) (row := none) ⟨rfl, rfl, rfl, Nat.le_refl _, fun _ _ _ => rfl⟩ (by simp) (by simp)
          rw [s5, s1'.left_eq]
          exact s4
end
end Go.Proofs.Ytjkkclojidhgdaa
