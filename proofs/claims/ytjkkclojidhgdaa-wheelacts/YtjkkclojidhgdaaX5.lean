/- The document's Cancel. -/
import Derived.Test.YtjkkclojidhgdaaX4
namespace Go.Proofs.Ytjkkclojidhgdaa
open Go.RowKit Go.Maps Go.WideMaps
set_option linter.unusedVariables false
set_option maxRecDepth 1000000
set_option linter.unusedSimpArgs false
set_option maxHeartbeats 8000000 in
theorem XCancel_any {E : Nat} {l : List Dt} {now last : Nat} {v : Value} {w : World} (h : Xw E l now last v w) (no : Int) :
    Calls Try.prog 21 #[.pointer (some ⟨E, 0, none⟩), .int .i64 no] w fun e w' => (∃ k : Nat, e = .returned (.bool true) ∧ Fnd l no k ∧ ∃ v', Xw E (l.take k ++ l.drop (k + 1)) now last v' w' ∧ w.grownBy w' (some E)) ∨ (e = .returned (.bool false) ∧ (∀ j (hj : j < l.length), (l[j].no : Int) ≠ no) ∧ w' = w) := by
  have hF := Xfind_any h no
  obtain ⟨ao, cap, rfl⟩ := h.row.wide.shape
  have hlen := h.len
  have HX0 : Hid (Xw E l now last (.slice ao l.length cap) w) := h
  clear h
  go_enter Try.func21, Try.ntmps21
  go_wp2_with fail
  refine hF.mono ?_
  rintro e w1 ⟨rfl, ⟨k, rfl, f⟩ | ⟨rfl, f⟩⟩
  · have hkl := f.lt
    have HFk : Hid (Fnd l no k) := f
    have hk0 : decide ((k : Int) < 0) = false := by simp
    obtain ⟨v1, hs1, hw1⟩ := rm_take HX0.out.row k (by omega)
    obtain ⟨v2, hs2, hw2⟩ := rm_drop HX0.out.row (k + 1) (by omega)
    have HW1 : Hid _ := hw1
    have HW2 : Hid _ := hw2
    have hk1 : (((k + 1 : Nat) : Int)) = (k : Int) + 1 := by omega
    rw [hk1] at hs2
    have hkb : k < 1024 := by omega
    have hwr : IntKind.wrap .i64 ((k : Int) + 1) = (k : Int) + 1 := by simp [IntKind.wrap, IntKind.signed, IntKind.bits]; omega
    clear hw1 hw2 hF f hk1
    go_wp2_with fail
    refine wp_region_any (by kernel_rfl) ?_
    obtain ⟨w5, hw5⟩ : ∃ x : World, { w1 with drawn := w1.drawn + 1 } = x := ⟨_, rfl⟩
    rw [hw5]
    have HB5 : Hid (Below w1.heap.size w1 w5) := by rw [← hw5]; exact ⟨rfl, rfl, rfl, Nat.le_refl _, fun _ _ => rfl⟩
    have r0 := Below.refl w5.heap.size w5
    have HX : Hid (∀ x, Below w5.heap.size w5 x → Xw E l now last (.slice ao l.length cap) x) := fun x hx => (HX0.out.below HB5.out).below hx
    have SS : Hid (∀ x, Below w5.heap.size w5 x → x.cell? ⟨E, 0, none⟩ = some (.slice ao l.length cap)) := fun x hx => (HX.out x hx).c.1
    have s5 := SS.out _ r0
    clear hw5 HX0
    refine wpAny_take (i := 0) (v := (.pointer (some ⟨E, 0, none⟩))) rfl (by kernel_rfl) (by kernel_rfl) (by kernel_rfl) (fun _ _ _ h => h) (.inl ⟨rfl, fun _ => rfl⟩) ?_
    simp only [List.getElem_toArray, List.getElem_cons_succ, List.getElem_cons_zero, Act.put, List.setIfInBounds_toArray, List.set_cons_succ, List.set_cons_zero]
    refine wpAny_take (i := 2) (v := (.pointer (some ⟨E, 0, none⟩))) rfl (by kernel_rfl) (by kernel_rfl) (by kernel_rfl) (fun _ _ _ h => h) (.inl ⟨rfl, fun _ => rfl⟩) ?_
    simp only [List.getElem_toArray, List.getElem_cons_succ, List.getElem_cons_zero, Act.put, List.setIfInBounds_toArray, List.set_cons_succ, List.set_cons_zero]
    refine wpAny_take (i := 3) (v := (.pointer (some ⟨E, 0, none⟩))) rfl (by kernel_rfl) (by kernel_rfl) (by kernel_rfl) (fun _ _ _ h => h) (.inl ⟨rfl, fun _ => by simp [execOp, go_sem, Act.eval]⟩) ?_
    simp only [List.getElem_toArray, List.getElem_cons_succ, List.getElem_cons_zero, Act.put, List.setIfInBounds_toArray, List.set_cons_succ, List.set_cons_zero]
    refine wpAny_take (i := 4) (v := (.pointer (some ⟨E, 0, none⟩))) rfl (by kernel_rfl) (by kernel_rfl) (by kernel_rfl) (fun _ _ _ h => h) (.inl ⟨rfl, fun _ => by simp [execOp, go_sem, Act.eval]⟩) ?_
    simp only [List.getElem_toArray, List.getElem_cons_succ, List.getElem_cons_zero, Act.put, List.setIfInBounds_toArray, List.set_cons_succ, List.set_cons_zero]
    refine wpAny_take (i := 6) (v := (.int .i64 k)) rfl (by kernel_rfl) (by kernel_rfl) (by kernel_rfl) (fun _ _ _ h => h) (.inl ⟨rfl, fun _ => rfl⟩) ?_
    simp only [List.getElem_toArray, List.getElem_cons_succ, List.getElem_cons_zero, Act.put, List.setIfInBounds_toArray, List.set_cons_succ, List.set_cons_zero]
    refine wpAny_take (i := 9) (v := (.pointer (some ⟨E, 0, none⟩))) rfl (by kernel_rfl) (by kernel_rfl) (by kernel_rfl) (fun _ _ _ h => h) (.inl ⟨rfl, fun _ => rfl⟩) ?_
    simp only [List.getElem_toArray, List.getElem_cons_succ, List.getElem_cons_zero, Act.put, List.setIfInBounds_toArray, List.set_cons_succ, List.set_cons_zero]
    refine wpAny_take (i := 10) (v := (.pointer (some ⟨E, 0, none⟩))) rfl (by kernel_rfl) (by kernel_rfl) (by kernel_rfl) (fun _ _ _ h => h) (.inl ⟨rfl, fun _ => by simp [execOp, go_sem, Act.eval]⟩) ?_
    simp only [List.getElem_toArray, List.getElem_cons_succ, List.getElem_cons_zero, Act.put, List.setIfInBounds_toArray, List.set_cons_succ, List.set_cons_zero]
    refine wpAny_take (i := 11) (v := (.pointer (some ⟨E, 0, none⟩))) rfl (by kernel_rfl) (by kernel_rfl) (by kernel_rfl) (fun _ _ _ h => h) (.inl ⟨rfl, fun _ => by simp [execOp, go_sem, Act.eval]⟩) ?_
    simp only [List.getElem_toArray, List.getElem_cons_succ, List.getElem_cons_zero, Act.put, List.setIfInBounds_toArray, List.set_cons_succ, List.set_cons_zero]
    refine wpAny_take (i := 13) (v := (.int .i64 k)) rfl (by kernel_rfl) (by kernel_rfl) (by kernel_rfl) (fun _ _ _ h => h) (.inl ⟨rfl, fun _ => rfl⟩) ?_
    simp only [List.getElem_toArray, List.getElem_cons_succ, List.getElem_cons_zero, Act.put, List.setIfInBounds_toArray, List.set_cons_succ, List.set_cons_zero]
    refine wpAny_take (i := 14) (v := (.int .i64 ((k : Int) + 1))) rfl (by kernel_rfl) (by kernel_rfl) (by kernel_rfl) (fun _ _ _ h => h) (.inl ⟨rfl, fun _ => by simp [execOp, go_sem, Act.eval, hwr]⟩) ?_
    simp only [List.getElem_toArray, List.getElem_cons_succ, List.getElem_cons_zero, Act.put, List.setIfInBounds_toArray, List.set_cons_succ, List.set_cons_zero]
    refine wpAny_all (rs := [1, 5, 12]) (by kernel_rfl) (by simp) ?_
    intro k hk
    simp only [List.mem_cons, List.mem_nil_iff, or_false] at hk
    rcases hk with rfl | rfl | rfl
    · refine wpOp_run rfl rfl (wp_bs0g Try.underlying29 infoT rfl ?_)
      have bz := r0.alloc r0.size (.cells #[] 59)
      have sz := SS.out _ bz
      simp only [List.getElem_toArray, List.getElem_cons_succ, List.getElem_cons_zero, Act.put, List.setIfInBounds_toArray, List.set_cons_succ, List.set_cons_zero]
      refine wpAny_all (rs := [5, 12]) (by kernel_rfl) (by simp) ?_
      intro k hk
      simp only [List.mem_cons, List.mem_nil_iff, or_false] at hk
      rcases hk with rfl | rfl
      · refine wpOp_run rfl rfl (wp_load_cell 29 _ rfl E 0 rfl (.slice ao l.length cap) (load_tms _ E 0 _ _ _ (SS.out _ bz)) ?_)
        simp only [List.getElem_toArray, List.getElem_cons_succ, List.getElem_cons_zero, Act.put, List.setIfInBounds_toArray, List.set_cons_succ, List.set_cons_zero]
        refine wpAny_take (i := 7) (v := (v1)) rfl (by kernel_rfl) (by kernel_rfl) (by kernel_rfl) (fun _ _ _ h => h) (.inl ⟨rfl, fun _ => by simp [execOp, go_sem, Act.eval, hs1]⟩) ?_
        simp only [List.getElem_toArray, List.getElem_cons_succ, List.getElem_cons_zero, Act.put, List.setIfInBounds_toArray, List.set_cons_succ, List.set_cons_zero]
        refine wpAny_all (rs := [8, 12]) (by kernel_rfl) (by simp) ?_
        intro k hk
        simp only [List.mem_cons, List.mem_nil_iff, or_false] at hk
        rcases hk with rfl | rfl
        · refine wpOp_run rfl rfl (wp_append_wide DT _ _ 29 59 _ _ Try.underlying29 infoT rfl rfl w5.heap.size (.slice (some ⟨w5.heap.size, 0, none⟩) 0 0) [] rfl (by exact own_empty_e w5 59 4) _ (l.take k) rfl (HW1.out _ (HX.out _ bz).row.wide) (by unfold maxLen; simp; omega) (by simp; omega) (by rw [size_alloc]; omega) ?_)
          intro v6 w6 P6 G6
          have b6 : Below w5.heap.size w5 w6 := bz.trans (((Below.refl w5.heap.size _).grown G6 (by rw [size_alloc]; omega) (by simp [Value.ownBlock])).mono (by omega))
          have s6 := SS.out _ b6
          have P6' : w6.ownsRow w5.heap.size 59 4 v6 (l.take k).length (flatW DT (l.take k)) := own_lower P6 (by omega)
          simp only [List.getElem_toArray, List.getElem_cons_succ, List.getElem_cons_zero, Act.put, List.setIfInBounds_toArray, List.set_cons_succ, List.set_cons_zero]
          refine wpAny_all (rs := [12]) (by kernel_rfl) (by simp) ?_
          intro k hk
          simp only [List.mem_cons, List.mem_nil_iff, or_false] at hk
          subst hk
          refine wpOp_run rfl rfl (wp_load_cell 29 _ rfl E 0 rfl (.slice ao l.length cap) (load_tms _ E 0 _ _ _ (SS.out _ b6)) ?_)
          simp only [List.getElem_toArray, List.getElem_cons_succ, List.getElem_cons_zero, Act.put, List.setIfInBounds_toArray, List.set_cons_succ, List.set_cons_zero]
          refine wpAny_take (i := 15) (v := (v2)) rfl (by kernel_rfl) (by kernel_rfl) (by kernel_rfl) (fun _ _ _ h => h) (.inl ⟨rfl, fun _ => by simp [execOp, go_sem, Act.eval, hs2]⟩) ?_
          simp only [List.getElem_toArray, List.getElem_cons_succ, List.getElem_cons_zero, Act.put, List.setIfInBounds_toArray, List.set_cons_succ, List.set_cons_zero]
          refine wpAny_all (rs := [16]) (by kernel_rfl) (by simp) ?_
          intro k hk
          simp only [List.mem_cons, List.mem_nil_iff, or_false] at hk
          subst hk
          refine wpOp_run rfl rfl (wp_append_wide DT _ _ 29 59 _ _ Try.underlying29 infoT rfl rfl w5.heap.size v6 (l.take k) rfl P6' _ (l.drop (k + 1)) rfl (HW2.out _ (HX.out _ b6).row.wide) (by unfold maxLen; simp; omega) (by simp; omega) b6.size ?_)
          intro v9 w9 P9 G9
          have B9 : Below w5.heap.size w5 w9 := ⟨G9.os.trans b6.os, G9.tape.trans b6.tape, G9.output.trans b6.output, Nat.le_trans b6.size G9.size, fun k hk => (G9.block k (Nat.lt_of_lt_of_le hk b6.size) (fun e => by have := own_base P6' e.symm; omega)).trans (b6.block k hk)⟩
          have s9 := SS.out _ B9
          have X9 := HX.out _ B9
          obtain ⟨a9, c9, hv9⟩ := own_shape5 P9
          subst hv9
          simp only [List.getElem_toArray, List.getElem_cons_succ, List.getElem_cons_zero, Act.put, List.setIfInBounds_toArray, List.set_cons_succ, List.set_cons_zero]
          refine wpAny_take (i := 17) (v := (.pointer (some ⟨E, 0, none⟩))) rfl (by kernel_rfl) (by kernel_rfl) (by kernel_rfl) (fun _ _ _ h => h) (.inl ⟨rfl, fun _ => by simp [execOp, go_sem, Act.eval]⟩) ?_
          simp only [List.getElem_toArray, List.getElem_cons_succ, List.getElem_cons_zero, Act.put, List.setIfInBounds_toArray, List.set_cons_succ, List.set_cons_zero]
          refine wpAny_take (i := 18) (v := (.pointer (some ⟨E, 0, none⟩))) rfl (by kernel_rfl) (by kernel_rfl) (by kernel_rfl) (fun _ _ _ h => h) (.inl ⟨rfl, fun _ => by simp [execOp, go_sem, Act.eval]⟩) ?_
          simp only [List.getElem_toArray, List.getElem_cons_succ, List.getElem_cons_zero, Act.put, List.setIfInBounds_toArray, List.set_cons_succ, List.set_cons_zero]
          refine wpAny_all (rs := [19]) (by kernel_rfl) (by simp) ?_
          intro k hk
          simp only [List.mem_cons, List.mem_nil_iff, or_false] at hk
          subst hk
          refine wpOp_run rfl rfl (wp_store_cell 29 _ _ rfl E 0 rfl _ rfl (store_tms w9 E 0 _ a9 _ c9 X9.c.1 (X9.frozen 0)) ?_)
          have R9 : RT 59 4 dtC w9 (.slice a9 (l.take k ++ l.drop (k + 1)).length c9) (l.take k ++ l.drop (k + 1)) := RT.own DT P9
          have XS := X9.set (k := 0) (u := .slice a9 (l.take k ++ l.drop (k + 1)).length c9) (l' := l.take k ++ l.drop (k + 1)) (now' := now) (last' := last) (v' := .slice a9 (l.take k ++ l.drop (k + 1)).length c9) rfl R9 (by simp; omega)
          have sx : (w9.setCell ⟨E, 0, none⟩ (.slice a9 (l.take k ++ l.drop (k + 1)).length c9)).cell? ⟨E, 0, none⟩ = some (.slice a9 (l.take k ++ l.drop (k + 1)).length c9) := XS.1.c.1
          simp only [List.getElem_toArray, List.getElem_cons_succ, List.getElem_cons_zero, Act.put, List.setIfInBounds_toArray, List.set_cons_succ, List.set_cons_zero]
          refine wpAny_done (by kernel_rfl) ?_ _
          have HE : Hid (∃ v', Xw E (l.take k ++ l.drop (k + 1)) now last v' (w9.setCell ⟨E, 0, none⟩ (.slice a9 (l.take k ++ l.drop (k + 1)).length c9)) ∧ w1.grownBy (w9.setCell ⟨E, 0, none⟩ (.slice a9 (l.take k ++ l.drop (k + 1)).length c9)) (some E)) := ⟨_, XS.1, grown_trans (gb_any (HB5.out.trans (B9.mono HB5.out.size)) _) XS.2⟩
          generalize w9.setCell ⟨E, 0, none⟩ (.slice a9 (l.take k ++ l.drop (k + 1)).length c9) = wz at *
          clear XS sx R9 X9 P9 P6' P6 G6 G9 HW1 HW2 HX SS
          go_wp2
          go_ret
          exact .inl ⟨k, rfl, HFk.out, HE.out⟩
        · refine wpOp_run rfl rfl (wp_load_cell 29 _ rfl E 0 rfl (.slice ao l.length cap) (load_tms _ E 0 _ _ _ (SS.out _ bz)) ?_)
          simp only [List.getElem_toArray, List.getElem_cons_succ, List.getElem_cons_zero, Act.put, List.setIfInBounds_toArray, List.set_cons_succ, List.set_cons_zero]
          refine wpAny_take (i := 15) (v := (v2)) rfl (by kernel_rfl) (by kernel_rfl) (by kernel_rfl) (fun _ _ _ h => h) (.inl ⟨rfl, fun _ => by simp [execOp, go_sem, Act.eval, hs2]⟩) ?_
          simp only [List.getElem_toArray, List.getElem_cons_succ, List.getElem_cons_zero, Act.put, List.setIfInBounds_toArray, List.set_cons_succ, List.set_cons_zero]
          refine wpAny_all (rs := [8]) (by kernel_rfl) (by simp) ?_
          intro k hk
          simp only [List.mem_cons, List.mem_nil_iff, or_false] at hk
          subst hk
          refine wpOp_run rfl rfl (wp_append_wide DT _ _ 29 59 _ _ Try.underlying29 infoT rfl rfl w5.heap.size (.slice (some ⟨w5.heap.size, 0, none⟩) 0 0) [] rfl (by exact own_empty_e w5 59 4) _ (l.take k) rfl (HW1.out _ (HX.out _ bz).row.wide) (by unfold maxLen; simp; omega) (by simp; omega) (by rw [size_alloc]; omega) ?_)
          intro v6 w6 P6 G6
          have b6 : Below w5.heap.size w5 w6 := bz.trans (((Below.refl w5.heap.size _).grown G6 (by rw [size_alloc]; omega) (by simp [Value.ownBlock])).mono (by omega))
          have s6 := SS.out _ b6
          have P6' : w6.ownsRow w5.heap.size 59 4 v6 (l.take k).length (flatW DT (l.take k)) := own_lower P6 (by omega)
          simp only [List.getElem_toArray, List.getElem_cons_succ, List.getElem_cons_zero, Act.put, List.setIfInBounds_toArray, List.set_cons_succ, List.set_cons_zero]
          refine wpAny_all (rs := [16]) (by kernel_rfl) (by simp) ?_
          intro k hk
          simp only [List.mem_cons, List.mem_nil_iff, or_false] at hk
          subst hk
          refine wpOp_run rfl rfl (wp_append_wide DT _ _ 29 59 _ _ Try.underlying29 infoT rfl rfl w5.heap.size v6 (l.take k) rfl P6' _ (l.drop (k + 1)) rfl (HW2.out _ (HX.out _ b6).row.wide) (by unfold maxLen; simp; omega) (by simp; omega) b6.size ?_)
          intro v9 w9 P9 G9
          have B9 : Below w5.heap.size w5 w9 := ⟨G9.os.trans b6.os, G9.tape.trans b6.tape, G9.output.trans b6.output, Nat.le_trans b6.size G9.size, fun k hk => (G9.block k (Nat.lt_of_lt_of_le hk b6.size) (fun e => by have := own_base P6' e.symm; omega)).trans (b6.block k hk)⟩
          have s9 := SS.out _ B9
          have X9 := HX.out _ B9
          obtain ⟨a9, c9, hv9⟩ := own_shape5 P9
          subst hv9
          simp only [List.getElem_toArray, List.getElem_cons_succ, List.getElem_cons_zero, Act.put, List.setIfInBounds_toArray, List.set_cons_succ, List.set_cons_zero]
          refine wpAny_take (i := 17) (v := (.pointer (some ⟨E, 0, none⟩))) rfl (by kernel_rfl) (by kernel_rfl) (by kernel_rfl) (fun _ _ _ h => h) (.inl ⟨rfl, fun _ => by simp [execOp, go_sem, Act.eval]⟩) ?_
          simp only [List.getElem_toArray, List.getElem_cons_succ, List.getElem_cons_zero, Act.put, List.setIfInBounds_toArray, List.set_cons_succ, List.set_cons_zero]
          refine wpAny_take (i := 18) (v := (.pointer (some ⟨E, 0, none⟩))) rfl (by kernel_rfl) (by kernel_rfl) (by kernel_rfl) (fun _ _ _ h => h) (.inl ⟨rfl, fun _ => by simp [execOp, go_sem, Act.eval]⟩) ?_
          simp only [List.getElem_toArray, List.getElem_cons_succ, List.getElem_cons_zero, Act.put, List.setIfInBounds_toArray, List.set_cons_succ, List.set_cons_zero]
          refine wpAny_all (rs := [19]) (by kernel_rfl) (by simp) ?_
          intro k hk
          simp only [List.mem_cons, List.mem_nil_iff, or_false] at hk
          subst hk
          refine wpOp_run rfl rfl (wp_store_cell 29 _ _ rfl E 0 rfl _ rfl (store_tms w9 E 0 _ a9 _ c9 X9.c.1 (X9.frozen 0)) ?_)
          have R9 : RT 59 4 dtC w9 (.slice a9 (l.take k ++ l.drop (k + 1)).length c9) (l.take k ++ l.drop (k + 1)) := RT.own DT P9
          have XS := X9.set (k := 0) (u := .slice a9 (l.take k ++ l.drop (k + 1)).length c9) (l' := l.take k ++ l.drop (k + 1)) (now' := now) (last' := last) (v' := .slice a9 (l.take k ++ l.drop (k + 1)).length c9) rfl R9 (by simp; omega)
          have sx : (w9.setCell ⟨E, 0, none⟩ (.slice a9 (l.take k ++ l.drop (k + 1)).length c9)).cell? ⟨E, 0, none⟩ = some (.slice a9 (l.take k ++ l.drop (k + 1)).length c9) := XS.1.c.1
          simp only [List.getElem_toArray, List.getElem_cons_succ, List.getElem_cons_zero, Act.put, List.setIfInBounds_toArray, List.set_cons_succ, List.set_cons_zero]
          refine wpAny_done (by kernel_rfl) ?_ _
          have HE : Hid (∃ v', Xw E (l.take k ++ l.drop (k + 1)) now last v' (w9.setCell ⟨E, 0, none⟩ (.slice a9 (l.take k ++ l.drop (k + 1)).length c9)) ∧ w1.grownBy (w9.setCell ⟨E, 0, none⟩ (.slice a9 (l.take k ++ l.drop (k + 1)).length c9)) (some E)) := ⟨_, XS.1, grown_trans (gb_any (HB5.out.trans (B9.mono HB5.out.size)) _) XS.2⟩
          generalize w9.setCell ⟨E, 0, none⟩ (.slice a9 (l.take k ++ l.drop (k + 1)).length c9) = wz at *
          clear XS sx R9 X9 P9 P6' P6 G6 G9 HW1 HW2 HX SS
          go_wp2
          go_ret
          exact .inl ⟨k, rfl, HFk.out, HE.out⟩
      · refine wpOp_run rfl rfl (wp_load_cell 29 _ rfl E 0 rfl (.slice ao l.length cap) (load_tms _ E 0 _ _ _ (SS.out _ bz)) ?_)
        simp only [List.getElem_toArray, List.getElem_cons_succ, List.getElem_cons_zero, Act.put, List.setIfInBounds_toArray, List.set_cons_succ, List.set_cons_zero]
        refine wpAny_take (i := 15) (v := (v2)) rfl (by kernel_rfl) (by kernel_rfl) (by kernel_rfl) (fun _ _ _ h => h) (.inl ⟨rfl, fun _ => by simp [execOp, go_sem, Act.eval, hs2]⟩) ?_
        simp only [List.getElem_toArray, List.getElem_cons_succ, List.getElem_cons_zero, Act.put, List.setIfInBounds_toArray, List.set_cons_succ, List.set_cons_zero]
        refine wpAny_all (rs := [5]) (by kernel_rfl) (by simp) ?_
        intro k hk
        simp only [List.mem_cons, List.mem_nil_iff, or_false] at hk
        subst hk
        refine wpOp_run rfl rfl (wp_load_cell 29 _ rfl E 0 rfl (.slice ao l.length cap) (load_tms _ E 0 _ _ _ (SS.out _ bz)) ?_)
        simp only [List.getElem_toArray, List.getElem_cons_succ, List.getElem_cons_zero, Act.put, List.setIfInBounds_toArray, List.set_cons_succ, List.set_cons_zero]
        refine wpAny_take (i := 7) (v := (v1)) rfl (by kernel_rfl) (by kernel_rfl) (by kernel_rfl) (fun _ _ _ h => h) (.inl ⟨rfl, fun _ => by simp [execOp, go_sem, Act.eval, hs1]⟩) ?_
        simp only [List.getElem_toArray, List.getElem_cons_succ, List.getElem_cons_zero, Act.put, List.setIfInBounds_toArray, List.set_cons_succ, List.set_cons_zero]
        refine wpAny_all (rs := [8]) (by kernel_rfl) (by simp) ?_
        intro k hk
        simp only [List.mem_cons, List.mem_nil_iff, or_false] at hk
        subst hk
        refine wpOp_run rfl rfl (wp_append_wide DT _ _ 29 59 _ _ Try.underlying29 infoT rfl rfl w5.heap.size (.slice (some ⟨w5.heap.size, 0, none⟩) 0 0) [] rfl (by exact own_empty_e w5 59 4) _ (l.take k) rfl (HW1.out _ (HX.out _ bz).row.wide) (by unfold maxLen; simp; omega) (by simp; omega) (by rw [size_alloc]; omega) ?_)
        intro v6 w6 P6 G6
        have b6 : Below w5.heap.size w5 w6 := bz.trans (((Below.refl w5.heap.size _).grown G6 (by rw [size_alloc]; omega) (by simp [Value.ownBlock])).mono (by omega))
        have s6 := SS.out _ b6
        have P6' : w6.ownsRow w5.heap.size 59 4 v6 (l.take k).length (flatW DT (l.take k)) := own_lower P6 (by omega)
        simp only [List.getElem_toArray, List.getElem_cons_succ, List.getElem_cons_zero, Act.put, List.setIfInBounds_toArray, List.set_cons_succ, List.set_cons_zero]
        refine wpAny_all (rs := [16]) (by kernel_rfl) (by simp) ?_
        intro k hk
        simp only [List.mem_cons, List.mem_nil_iff, or_false] at hk
        subst hk
        refine wpOp_run rfl rfl (wp_append_wide DT _ _ 29 59 _ _ Try.underlying29 infoT rfl rfl w5.heap.size v6 (l.take k) rfl P6' _ (l.drop (k + 1)) rfl (HW2.out _ (HX.out _ b6).row.wide) (by unfold maxLen; simp; omega) (by simp; omega) b6.size ?_)
        intro v9 w9 P9 G9
        have B9 : Below w5.heap.size w5 w9 := ⟨G9.os.trans b6.os, G9.tape.trans b6.tape, G9.output.trans b6.output, Nat.le_trans b6.size G9.size, fun k hk => (G9.block k (Nat.lt_of_lt_of_le hk b6.size) (fun e => by have := own_base P6' e.symm; omega)).trans (b6.block k hk)⟩
        have s9 := SS.out _ B9
        have X9 := HX.out _ B9
        obtain ⟨a9, c9, hv9⟩ := own_shape5 P9
        subst hv9
        simp only [List.getElem_toArray, List.getElem_cons_succ, List.getElem_cons_zero, Act.put, List.setIfInBounds_toArray, List.set_cons_succ, List.set_cons_zero]
        refine wpAny_take (i := 17) (v := (.pointer (some ⟨E, 0, none⟩))) rfl (by kernel_rfl) (by kernel_rfl) (by kernel_rfl) (fun _ _ _ h => h) (.inl ⟨rfl, fun _ => by simp [execOp, go_sem, Act.eval]⟩) ?_
        simp only [List.getElem_toArray, List.getElem_cons_succ, List.getElem_cons_zero, Act.put, List.setIfInBounds_toArray, List.set_cons_succ, List.set_cons_zero]
        refine wpAny_take (i := 18) (v := (.pointer (some ⟨E, 0, none⟩))) rfl (by kernel_rfl) (by kernel_rfl) (by kernel_rfl) (fun _ _ _ h => h) (.inl ⟨rfl, fun _ => by simp [execOp, go_sem, Act.eval]⟩) ?_
        simp only [List.getElem_toArray, List.getElem_cons_succ, List.getElem_cons_zero, Act.put, List.setIfInBounds_toArray, List.set_cons_succ, List.set_cons_zero]
        refine wpAny_all (rs := [19]) (by kernel_rfl) (by simp) ?_
        intro k hk
        simp only [List.mem_cons, List.mem_nil_iff, or_false] at hk
        subst hk
        refine wpOp_run rfl rfl (wp_store_cell 29 _ _ rfl E 0 rfl _ rfl (store_tms w9 E 0 _ a9 _ c9 X9.c.1 (X9.frozen 0)) ?_)
        have R9 : RT 59 4 dtC w9 (.slice a9 (l.take k ++ l.drop (k + 1)).length c9) (l.take k ++ l.drop (k + 1)) := RT.own DT P9
        have XS := X9.set (k := 0) (u := .slice a9 (l.take k ++ l.drop (k + 1)).length c9) (l' := l.take k ++ l.drop (k + 1)) (now' := now) (last' := last) (v' := .slice a9 (l.take k ++ l.drop (k + 1)).length c9) rfl R9 (by simp; omega)
        have sx : (w9.setCell ⟨E, 0, none⟩ (.slice a9 (l.take k ++ l.drop (k + 1)).length c9)).cell? ⟨E, 0, none⟩ = some (.slice a9 (l.take k ++ l.drop (k + 1)).length c9) := XS.1.c.1
        simp only [List.getElem_toArray, List.getElem_cons_succ, List.getElem_cons_zero, Act.put, List.setIfInBounds_toArray, List.set_cons_succ, List.set_cons_zero]
        refine wpAny_done (by kernel_rfl) ?_ _
        have HE : Hid (∃ v', Xw E (l.take k ++ l.drop (k + 1)) now last v' (w9.setCell ⟨E, 0, none⟩ (.slice a9 (l.take k ++ l.drop (k + 1)).length c9)) ∧ w1.grownBy (w9.setCell ⟨E, 0, none⟩ (.slice a9 (l.take k ++ l.drop (k + 1)).length c9)) (some E)) := ⟨_, XS.1, grown_trans (gb_any (HB5.out.trans (B9.mono HB5.out.size)) _) XS.2⟩
        generalize w9.setCell ⟨E, 0, none⟩ (.slice a9 (l.take k ++ l.drop (k + 1)).length c9) = wz at *
        clear XS sx R9 X9 P9 P6' P6 G6 G9 HW1 HW2 HX SS
        go_wp2
        go_ret
        exact .inl ⟨k, rfl, HFk.out, HE.out⟩
    · refine wpOp_run rfl rfl (wp_load_cell 29 _ rfl E 0 rfl (.slice ao l.length cap) (load_tms _ E 0 _ _ _ (SS.out _ r0)) ?_)
      simp only [List.getElem_toArray, List.getElem_cons_succ, List.getElem_cons_zero, Act.put, List.setIfInBounds_toArray, List.set_cons_succ, List.set_cons_zero]
      refine wpAny_take (i := 7) (v := (v1)) rfl (by kernel_rfl) (by kernel_rfl) (by kernel_rfl) (fun _ _ _ h => h) (.inl ⟨rfl, fun _ => by simp [execOp, go_sem, Act.eval, hs1]⟩) ?_
      simp only [List.getElem_toArray, List.getElem_cons_succ, List.getElem_cons_zero, Act.put, List.setIfInBounds_toArray, List.set_cons_succ, List.set_cons_zero]
      refine wpAny_all (rs := [1, 12]) (by kernel_rfl) (by simp) ?_
      intro k hk
      simp only [List.mem_cons, List.mem_nil_iff, or_false] at hk
      rcases hk with rfl | rfl
      · refine wpOp_run rfl rfl (wp_bs0g Try.underlying29 infoT rfl ?_)
        have bz := r0.alloc r0.size (.cells #[] 59)
        have sz := SS.out _ bz
        simp only [List.getElem_toArray, List.getElem_cons_succ, List.getElem_cons_zero, Act.put, List.setIfInBounds_toArray, List.set_cons_succ, List.set_cons_zero]
        refine wpAny_all (rs := [8, 12]) (by kernel_rfl) (by simp) ?_
        intro k hk
        simp only [List.mem_cons, List.mem_nil_iff, or_false] at hk
        rcases hk with rfl | rfl
        · refine wpOp_run rfl rfl (wp_append_wide DT _ _ 29 59 _ _ Try.underlying29 infoT rfl rfl w5.heap.size (.slice (some ⟨w5.heap.size, 0, none⟩) 0 0) [] rfl (by exact own_empty_e w5 59 4) _ (l.take k) rfl (HW1.out _ (HX.out _ bz).row.wide) (by unfold maxLen; simp; omega) (by simp; omega) (by rw [size_alloc]; omega) ?_)
          intro v6 w6 P6 G6
          have b6 : Below w5.heap.size w5 w6 := bz.trans (((Below.refl w5.heap.size _).grown G6 (by rw [size_alloc]; omega) (by simp [Value.ownBlock])).mono (by omega))
          have s6 := SS.out _ b6
          have P6' : w6.ownsRow w5.heap.size 59 4 v6 (l.take k).length (flatW DT (l.take k)) := own_lower P6 (by omega)
          simp only [List.getElem_toArray, List.getElem_cons_succ, List.getElem_cons_zero, Act.put, List.setIfInBounds_toArray, List.set_cons_succ, List.set_cons_zero]
          refine wpAny_all (rs := [12]) (by kernel_rfl) (by simp) ?_
          intro k hk
          simp only [List.mem_cons, List.mem_nil_iff, or_false] at hk
          subst hk
          refine wpOp_run rfl rfl (wp_load_cell 29 _ rfl E 0 rfl (.slice ao l.length cap) (load_tms _ E 0 _ _ _ (SS.out _ b6)) ?_)
          simp only [List.getElem_toArray, List.getElem_cons_succ, List.getElem_cons_zero, Act.put, List.setIfInBounds_toArray, List.set_cons_succ, List.set_cons_zero]
          refine wpAny_take (i := 15) (v := (v2)) rfl (by kernel_rfl) (by kernel_rfl) (by kernel_rfl) (fun _ _ _ h => h) (.inl ⟨rfl, fun _ => by simp [execOp, go_sem, Act.eval, hs2]⟩) ?_
          simp only [List.getElem_toArray, List.getElem_cons_succ, List.getElem_cons_zero, Act.put, List.setIfInBounds_toArray, List.set_cons_succ, List.set_cons_zero]
          refine wpAny_all (rs := [16]) (by kernel_rfl) (by simp) ?_
          intro k hk
          simp only [List.mem_cons, List.mem_nil_iff, or_false] at hk
          subst hk
          refine wpOp_run rfl rfl (wp_append_wide DT _ _ 29 59 _ _ Try.underlying29 infoT rfl rfl w5.heap.size v6 (l.take k) rfl P6' _ (l.drop (k + 1)) rfl (HW2.out _ (HX.out _ b6).row.wide) (by unfold maxLen; simp; omega) (by simp; omega) b6.size ?_)
          intro v9 w9 P9 G9
          have B9 : Below w5.heap.size w5 w9 := ⟨G9.os.trans b6.os, G9.tape.trans b6.tape, G9.output.trans b6.output, Nat.le_trans b6.size G9.size, fun k hk => (G9.block k (Nat.lt_of_lt_of_le hk b6.size) (fun e => by have := own_base P6' e.symm; omega)).trans (b6.block k hk)⟩
          have s9 := SS.out _ B9
          have X9 := HX.out _ B9
          obtain ⟨a9, c9, hv9⟩ := own_shape5 P9
          subst hv9
          simp only [List.getElem_toArray, List.getElem_cons_succ, List.getElem_cons_zero, Act.put, List.setIfInBounds_toArray, List.set_cons_succ, List.set_cons_zero]
          refine wpAny_take (i := 17) (v := (.pointer (some ⟨E, 0, none⟩))) rfl (by kernel_rfl) (by kernel_rfl) (by kernel_rfl) (fun _ _ _ h => h) (.inl ⟨rfl, fun _ => by simp [execOp, go_sem, Act.eval]⟩) ?_
          simp only [List.getElem_toArray, List.getElem_cons_succ, List.getElem_cons_zero, Act.put, List.setIfInBounds_toArray, List.set_cons_succ, List.set_cons_zero]
          refine wpAny_take (i := 18) (v := (.pointer (some ⟨E, 0, none⟩))) rfl (by kernel_rfl) (by kernel_rfl) (by kernel_rfl) (fun _ _ _ h => h) (.inl ⟨rfl, fun _ => by simp [execOp, go_sem, Act.eval]⟩) ?_
          simp only [List.getElem_toArray, List.getElem_cons_succ, List.getElem_cons_zero, Act.put, List.setIfInBounds_toArray, List.set_cons_succ, List.set_cons_zero]
          refine wpAny_all (rs := [19]) (by kernel_rfl) (by simp) ?_
          intro k hk
          simp only [List.mem_cons, List.mem_nil_iff, or_false] at hk
          subst hk
          refine wpOp_run rfl rfl (wp_store_cell 29 _ _ rfl E 0 rfl _ rfl (store_tms w9 E 0 _ a9 _ c9 X9.c.1 (X9.frozen 0)) ?_)
          have R9 : RT 59 4 dtC w9 (.slice a9 (l.take k ++ l.drop (k + 1)).length c9) (l.take k ++ l.drop (k + 1)) := RT.own DT P9
          have XS := X9.set (k := 0) (u := .slice a9 (l.take k ++ l.drop (k + 1)).length c9) (l' := l.take k ++ l.drop (k + 1)) (now' := now) (last' := last) (v' := .slice a9 (l.take k ++ l.drop (k + 1)).length c9) rfl R9 (by simp; omega)
          have sx : (w9.setCell ⟨E, 0, none⟩ (.slice a9 (l.take k ++ l.drop (k + 1)).length c9)).cell? ⟨E, 0, none⟩ = some (.slice a9 (l.take k ++ l.drop (k + 1)).length c9) := XS.1.c.1
          simp only [List.getElem_toArray, List.getElem_cons_succ, List.getElem_cons_zero, Act.put, List.setIfInBounds_toArray, List.set_cons_succ, List.set_cons_zero]
          refine wpAny_done (by kernel_rfl) ?_ _
          have HE : Hid (∃ v', Xw E (l.take k ++ l.drop (k + 1)) now last v' (w9.setCell ⟨E, 0, none⟩ (.slice a9 (l.take k ++ l.drop (k + 1)).length c9)) ∧ w1.grownBy (w9.setCell ⟨E, 0, none⟩ (.slice a9 (l.take k ++ l.drop (k + 1)).length c9)) (some E)) := ⟨_, XS.1, grown_trans (gb_any (HB5.out.trans (B9.mono HB5.out.size)) _) XS.2⟩
          generalize w9.setCell ⟨E, 0, none⟩ (.slice a9 (l.take k ++ l.drop (k + 1)).length c9) = wz at *
          clear XS sx R9 X9 P9 P6' P6 G6 G9 HW1 HW2 HX SS
          go_wp2
          go_ret
          exact .inl ⟨k, rfl, HFk.out, HE.out⟩
        · refine wpOp_run rfl rfl (wp_load_cell 29 _ rfl E 0 rfl (.slice ao l.length cap) (load_tms _ E 0 _ _ _ (SS.out _ bz)) ?_)
          simp only [List.getElem_toArray, List.getElem_cons_succ, List.getElem_cons_zero, Act.put, List.setIfInBounds_toArray, List.set_cons_succ, List.set_cons_zero]
          refine wpAny_take (i := 15) (v := (v2)) rfl (by kernel_rfl) (by kernel_rfl) (by kernel_rfl) (fun _ _ _ h => h) (.inl ⟨rfl, fun _ => by simp [execOp, go_sem, Act.eval, hs2]⟩) ?_
          simp only [List.getElem_toArray, List.getElem_cons_succ, List.getElem_cons_zero, Act.put, List.setIfInBounds_toArray, List.set_cons_succ, List.set_cons_zero]
          refine wpAny_all (rs := [8]) (by kernel_rfl) (by simp) ?_
          intro k hk
          simp only [List.mem_cons, List.mem_nil_iff, or_false] at hk
          subst hk
          refine wpOp_run rfl rfl (wp_append_wide DT _ _ 29 59 _ _ Try.underlying29 infoT rfl rfl w5.heap.size (.slice (some ⟨w5.heap.size, 0, none⟩) 0 0) [] rfl (by exact own_empty_e w5 59 4) _ (l.take k) rfl (HW1.out _ (HX.out _ bz).row.wide) (by unfold maxLen; simp; omega) (by simp; omega) (by rw [size_alloc]; omega) ?_)
          intro v6 w6 P6 G6
          have b6 : Below w5.heap.size w5 w6 := bz.trans (((Below.refl w5.heap.size _).grown G6 (by rw [size_alloc]; omega) (by simp [Value.ownBlock])).mono (by omega))
          have s6 := SS.out _ b6
          have P6' : w6.ownsRow w5.heap.size 59 4 v6 (l.take k).length (flatW DT (l.take k)) := own_lower P6 (by omega)
          simp only [List.getElem_toArray, List.getElem_cons_succ, List.getElem_cons_zero, Act.put, List.setIfInBounds_toArray, List.set_cons_succ, List.set_cons_zero]
          refine wpAny_all (rs := [16]) (by kernel_rfl) (by simp) ?_
          intro k hk
          simp only [List.mem_cons, List.mem_nil_iff, or_false] at hk
          subst hk
          refine wpOp_run rfl rfl (wp_append_wide DT _ _ 29 59 _ _ Try.underlying29 infoT rfl rfl w5.heap.size v6 (l.take k) rfl P6' _ (l.drop (k + 1)) rfl (HW2.out _ (HX.out _ b6).row.wide) (by unfold maxLen; simp; omega) (by simp; omega) b6.size ?_)
          intro v9 w9 P9 G9
          have B9 : Below w5.heap.size w5 w9 := ⟨G9.os.trans b6.os, G9.tape.trans b6.tape, G9.output.trans b6.output, Nat.le_trans b6.size G9.size, fun k hk => (G9.block k (Nat.lt_of_lt_of_le hk b6.size) (fun e => by have := own_base P6' e.symm; omega)).trans (b6.block k hk)⟩
          have s9 := SS.out _ B9
          have X9 := HX.out _ B9
          obtain ⟨a9, c9, hv9⟩ := own_shape5 P9
          subst hv9
          simp only [List.getElem_toArray, List.getElem_cons_succ, List.getElem_cons_zero, Act.put, List.setIfInBounds_toArray, List.set_cons_succ, List.set_cons_zero]
          refine wpAny_take (i := 17) (v := (.pointer (some ⟨E, 0, none⟩))) rfl (by kernel_rfl) (by kernel_rfl) (by kernel_rfl) (fun _ _ _ h => h) (.inl ⟨rfl, fun _ => by simp [execOp, go_sem, Act.eval]⟩) ?_
          simp only [List.getElem_toArray, List.getElem_cons_succ, List.getElem_cons_zero, Act.put, List.setIfInBounds_toArray, List.set_cons_succ, List.set_cons_zero]
          refine wpAny_take (i := 18) (v := (.pointer (some ⟨E, 0, none⟩))) rfl (by kernel_rfl) (by kernel_rfl) (by kernel_rfl) (fun _ _ _ h => h) (.inl ⟨rfl, fun _ => by simp [execOp, go_sem, Act.eval]⟩) ?_
          simp only [List.getElem_toArray, List.getElem_cons_succ, List.getElem_cons_zero, Act.put, List.setIfInBounds_toArray, List.set_cons_succ, List.set_cons_zero]
          refine wpAny_all (rs := [19]) (by kernel_rfl) (by simp) ?_
          intro k hk
          simp only [List.mem_cons, List.mem_nil_iff, or_false] at hk
          subst hk
          refine wpOp_run rfl rfl (wp_store_cell 29 _ _ rfl E 0 rfl _ rfl (store_tms w9 E 0 _ a9 _ c9 X9.c.1 (X9.frozen 0)) ?_)
          have R9 : RT 59 4 dtC w9 (.slice a9 (l.take k ++ l.drop (k + 1)).length c9) (l.take k ++ l.drop (k + 1)) := RT.own DT P9
          have XS := X9.set (k := 0) (u := .slice a9 (l.take k ++ l.drop (k + 1)).length c9) (l' := l.take k ++ l.drop (k + 1)) (now' := now) (last' := last) (v' := .slice a9 (l.take k ++ l.drop (k + 1)).length c9) rfl R9 (by simp; omega)
          have sx : (w9.setCell ⟨E, 0, none⟩ (.slice a9 (l.take k ++ l.drop (k + 1)).length c9)).cell? ⟨E, 0, none⟩ = some (.slice a9 (l.take k ++ l.drop (k + 1)).length c9) := XS.1.c.1
          simp only [List.getElem_toArray, List.getElem_cons_succ, List.getElem_cons_zero, Act.put, List.setIfInBounds_toArray, List.set_cons_succ, List.set_cons_zero]
          refine wpAny_done (by kernel_rfl) ?_ _
          have HE : Hid (∃ v', Xw E (l.take k ++ l.drop (k + 1)) now last v' (w9.setCell ⟨E, 0, none⟩ (.slice a9 (l.take k ++ l.drop (k + 1)).length c9)) ∧ w1.grownBy (w9.setCell ⟨E, 0, none⟩ (.slice a9 (l.take k ++ l.drop (k + 1)).length c9)) (some E)) := ⟨_, XS.1, grown_trans (gb_any (HB5.out.trans (B9.mono HB5.out.size)) _) XS.2⟩
          generalize w9.setCell ⟨E, 0, none⟩ (.slice a9 (l.take k ++ l.drop (k + 1)).length c9) = wz at *
          clear XS sx R9 X9 P9 P6' P6 G6 G9 HW1 HW2 HX SS
          go_wp2
          go_ret
          exact .inl ⟨k, rfl, HFk.out, HE.out⟩
      · refine wpOp_run rfl rfl (wp_load_cell 29 _ rfl E 0 rfl (.slice ao l.length cap) (load_tms _ E 0 _ _ _ (SS.out _ r0)) ?_)
        simp only [List.getElem_toArray, List.getElem_cons_succ, List.getElem_cons_zero, Act.put, List.setIfInBounds_toArray, List.set_cons_succ, List.set_cons_zero]
        refine wpAny_take (i := 15) (v := (v2)) rfl (by kernel_rfl) (by kernel_rfl) (by kernel_rfl) (fun _ _ _ h => h) (.inl ⟨rfl, fun _ => by simp [execOp, go_sem, Act.eval, hs2]⟩) ?_
        simp only [List.getElem_toArray, List.getElem_cons_succ, List.getElem_cons_zero, Act.put, List.setIfInBounds_toArray, List.set_cons_succ, List.set_cons_zero]
        refine wpAny_all (rs := [1]) (by kernel_rfl) (by simp) ?_
        intro k hk
        simp only [List.mem_cons, List.mem_nil_iff, or_false] at hk
        subst hk
        refine wpOp_run rfl rfl (wp_bs0g Try.underlying29 infoT rfl ?_)
        have bz := r0.alloc r0.size (.cells #[] 59)
        have sz := SS.out _ bz
        simp only [List.getElem_toArray, List.getElem_cons_succ, List.getElem_cons_zero, Act.put, List.setIfInBounds_toArray, List.set_cons_succ, List.set_cons_zero]
        refine wpAny_all (rs := [8]) (by kernel_rfl) (by simp) ?_
        intro k hk
        simp only [List.mem_cons, List.mem_nil_iff, or_false] at hk
        subst hk
        refine wpOp_run rfl rfl (wp_append_wide DT _ _ 29 59 _ _ Try.underlying29 infoT rfl rfl w5.heap.size (.slice (some ⟨w5.heap.size, 0, none⟩) 0 0) [] rfl (by exact own_empty_e w5 59 4) _ (l.take k) rfl (HW1.out _ (HX.out _ bz).row.wide) (by unfold maxLen; simp; omega) (by simp; omega) (by rw [size_alloc]; omega) ?_)
        intro v6 w6 P6 G6
        have b6 : Below w5.heap.size w5 w6 := bz.trans (((Below.refl w5.heap.size _).grown G6 (by rw [size_alloc]; omega) (by simp [Value.ownBlock])).mono (by omega))
        have s6 := SS.out _ b6
        have P6' : w6.ownsRow w5.heap.size 59 4 v6 (l.take k).length (flatW DT (l.take k)) := own_lower P6 (by omega)
        simp only [List.getElem_toArray, List.getElem_cons_succ, List.getElem_cons_zero, Act.put, List.setIfInBounds_toArray, List.set_cons_succ, List.set_cons_zero]
        refine wpAny_all (rs := [16]) (by kernel_rfl) (by simp) ?_
        intro k hk
        simp only [List.mem_cons, List.mem_nil_iff, or_false] at hk
        subst hk
        refine wpOp_run rfl rfl (wp_append_wide DT _ _ 29 59 _ _ Try.underlying29 infoT rfl rfl w5.heap.size v6 (l.take k) rfl P6' _ (l.drop (k + 1)) rfl (HW2.out _ (HX.out _ b6).row.wide) (by unfold maxLen; simp; omega) (by simp; omega) b6.size ?_)
        intro v9 w9 P9 G9
        have B9 : Below w5.heap.size w5 w9 := ⟨G9.os.trans b6.os, G9.tape.trans b6.tape, G9.output.trans b6.output, Nat.le_trans b6.size G9.size, fun k hk => (G9.block k (Nat.lt_of_lt_of_le hk b6.size) (fun e => by have := own_base P6' e.symm; omega)).trans (b6.block k hk)⟩
        have s9 := SS.out _ B9
        have X9 := HX.out _ B9
        obtain ⟨a9, c9, hv9⟩ := own_shape5 P9
        subst hv9
        simp only [List.getElem_toArray, List.getElem_cons_succ, List.getElem_cons_zero, Act.put, List.setIfInBounds_toArray, List.set_cons_succ, List.set_cons_zero]
        refine wpAny_take (i := 17) (v := (.pointer (some ⟨E, 0, none⟩))) rfl (by kernel_rfl) (by kernel_rfl) (by kernel_rfl) (fun _ _ _ h => h) (.inl ⟨rfl, fun _ => by simp [execOp, go_sem, Act.eval]⟩) ?_
        simp only [List.getElem_toArray, List.getElem_cons_succ, List.getElem_cons_zero, Act.put, List.setIfInBounds_toArray, List.set_cons_succ, List.set_cons_zero]
        refine wpAny_take (i := 18) (v := (.pointer (some ⟨E, 0, none⟩))) rfl (by kernel_rfl) (by kernel_rfl) (by kernel_rfl) (fun _ _ _ h => h) (.inl ⟨rfl, fun _ => by simp [execOp, go_sem, Act.eval]⟩) ?_
        simp only [List.getElem_toArray, List.getElem_cons_succ, List.getElem_cons_zero, Act.put, List.setIfInBounds_toArray, List.set_cons_succ, List.set_cons_zero]
        refine wpAny_all (rs := [19]) (by kernel_rfl) (by simp) ?_
        intro k hk
        simp only [List.mem_cons, List.mem_nil_iff, or_false] at hk
        subst hk
        refine wpOp_run rfl rfl (wp_store_cell 29 _ _ rfl E 0 rfl _ rfl (store_tms w9 E 0 _ a9 _ c9 X9.c.1 (X9.frozen 0)) ?_)
        have R9 : RT 59 4 dtC w9 (.slice a9 (l.take k ++ l.drop (k + 1)).length c9) (l.take k ++ l.drop (k + 1)) := RT.own DT P9
        have XS := X9.set (k := 0) (u := .slice a9 (l.take k ++ l.drop (k + 1)).length c9) (l' := l.take k ++ l.drop (k + 1)) (now' := now) (last' := last) (v' := .slice a9 (l.take k ++ l.drop (k + 1)).length c9) rfl R9 (by simp; omega)
        have sx : (w9.setCell ⟨E, 0, none⟩ (.slice a9 (l.take k ++ l.drop (k + 1)).length c9)).cell? ⟨E, 0, none⟩ = some (.slice a9 (l.take k ++ l.drop (k + 1)).length c9) := XS.1.c.1
        simp only [List.getElem_toArray, List.getElem_cons_succ, List.getElem_cons_zero, Act.put, List.setIfInBounds_toArray, List.set_cons_succ, List.set_cons_zero]
        refine wpAny_done (by kernel_rfl) ?_ _
        have HE : Hid (∃ v', Xw E (l.take k ++ l.drop (k + 1)) now last v' (w9.setCell ⟨E, 0, none⟩ (.slice a9 (l.take k ++ l.drop (k + 1)).length c9)) ∧ w1.grownBy (w9.setCell ⟨E, 0, none⟩ (.slice a9 (l.take k ++ l.drop (k + 1)).length c9)) (some E)) := ⟨_, XS.1, grown_trans (gb_any (HB5.out.trans (B9.mono HB5.out.size)) _) XS.2⟩
        generalize w9.setCell ⟨E, 0, none⟩ (.slice a9 (l.take k ++ l.drop (k + 1)).length c9) = wz at *
        clear XS sx R9 X9 P9 P6' P6 G6 G9 HW1 HW2 HX SS
        go_wp2
        go_ret
        exact .inl ⟨k, rfl, HFk.out, HE.out⟩
    · refine wpOp_run rfl rfl (wp_load_cell 29 _ rfl E 0 rfl (.slice ao l.length cap) (load_tms _ E 0 _ _ _ (SS.out _ r0)) ?_)
      simp only [List.getElem_toArray, List.getElem_cons_succ, List.getElem_cons_zero, Act.put, List.setIfInBounds_toArray, List.set_cons_succ, List.set_cons_zero]
      refine wpAny_take (i := 15) (v := (v2)) rfl (by kernel_rfl) (by kernel_rfl) (by kernel_rfl) (fun _ _ _ h => h) (.inl ⟨rfl, fun _ => by simp [execOp, go_sem, Act.eval, hs2]⟩) ?_
      simp only [List.getElem_toArray, List.getElem_cons_succ, List.getElem_cons_zero, Act.put, List.setIfInBounds_toArray, List.set_cons_succ, List.set_cons_zero]
      refine wpAny_all (rs := [1, 5]) (by kernel_rfl) (by simp) ?_
      intro k hk
      simp only [List.mem_cons, List.mem_nil_iff, or_false] at hk
      rcases hk with rfl | rfl
      · refine wpOp_run rfl rfl (wp_bs0g Try.underlying29 infoT rfl ?_)
        have bz := r0.alloc r0.size (.cells #[] 59)
        have sz := SS.out _ bz
        simp only [List.getElem_toArray, List.getElem_cons_succ, List.getElem_cons_zero, Act.put, List.setIfInBounds_toArray, List.set_cons_succ, List.set_cons_zero]
        refine wpAny_all (rs := [5]) (by kernel_rfl) (by simp) ?_
        intro k hk
        simp only [List.mem_cons, List.mem_nil_iff, or_false] at hk
        subst hk
        refine wpOp_run rfl rfl (wp_load_cell 29 _ rfl E 0 rfl (.slice ao l.length cap) (load_tms _ E 0 _ _ _ (SS.out _ bz)) ?_)
        simp only [List.getElem_toArray, List.getElem_cons_succ, List.getElem_cons_zero, Act.put, List.setIfInBounds_toArray, List.set_cons_succ, List.set_cons_zero]
        refine wpAny_take (i := 7) (v := (v1)) rfl (by kernel_rfl) (by kernel_rfl) (by kernel_rfl) (fun _ _ _ h => h) (.inl ⟨rfl, fun _ => by simp [execOp, go_sem, Act.eval, hs1]⟩) ?_
        simp only [List.getElem_toArray, List.getElem_cons_succ, List.getElem_cons_zero, Act.put, List.setIfInBounds_toArray, List.set_cons_succ, List.set_cons_zero]
        refine wpAny_all (rs := [8]) (by kernel_rfl) (by simp) ?_
        intro k hk
        simp only [List.mem_cons, List.mem_nil_iff, or_false] at hk
        subst hk
        refine wpOp_run rfl rfl (wp_append_wide DT _ _ 29 59 _ _ Try.underlying29 infoT rfl rfl w5.heap.size (.slice (some ⟨w5.heap.size, 0, none⟩) 0 0) [] rfl (by exact own_empty_e w5 59 4) _ (l.take k) rfl (HW1.out _ (HX.out _ bz).row.wide) (by unfold maxLen; simp; omega) (by simp; omega) (by rw [size_alloc]; omega) ?_)
        intro v6 w6 P6 G6
        have b6 : Below w5.heap.size w5 w6 := bz.trans (((Below.refl w5.heap.size _).grown G6 (by rw [size_alloc]; omega) (by simp [Value.ownBlock])).mono (by omega))
        have s6 := SS.out _ b6
        have P6' : w6.ownsRow w5.heap.size 59 4 v6 (l.take k).length (flatW DT (l.take k)) := own_lower P6 (by omega)
        simp only [List.getElem_toArray, List.getElem_cons_succ, List.getElem_cons_zero, Act.put, List.setIfInBounds_toArray, List.set_cons_succ, List.set_cons_zero]
        refine wpAny_all (rs := [16]) (by kernel_rfl) (by simp) ?_
        intro k hk
        simp only [List.mem_cons, List.mem_nil_iff, or_false] at hk
        subst hk
        refine wpOp_run rfl rfl (wp_append_wide DT _ _ 29 59 _ _ Try.underlying29 infoT rfl rfl w5.heap.size v6 (l.take k) rfl P6' _ (l.drop (k + 1)) rfl (HW2.out _ (HX.out _ b6).row.wide) (by unfold maxLen; simp; omega) (by simp; omega) b6.size ?_)
        intro v9 w9 P9 G9
        have B9 : Below w5.heap.size w5 w9 := ⟨G9.os.trans b6.os, G9.tape.trans b6.tape, G9.output.trans b6.output, Nat.le_trans b6.size G9.size, fun k hk => (G9.block k (Nat.lt_of_lt_of_le hk b6.size) (fun e => by have := own_base P6' e.symm; omega)).trans (b6.block k hk)⟩
        have s9 := SS.out _ B9
        have X9 := HX.out _ B9
        obtain ⟨a9, c9, hv9⟩ := own_shape5 P9
        subst hv9
        simp only [List.getElem_toArray, List.getElem_cons_succ, List.getElem_cons_zero, Act.put, List.setIfInBounds_toArray, List.set_cons_succ, List.set_cons_zero]
        refine wpAny_take (i := 17) (v := (.pointer (some ⟨E, 0, none⟩))) rfl (by kernel_rfl) (by kernel_rfl) (by kernel_rfl) (fun _ _ _ h => h) (.inl ⟨rfl, fun _ => by simp [execOp, go_sem, Act.eval]⟩) ?_
        simp only [List.getElem_toArray, List.getElem_cons_succ, List.getElem_cons_zero, Act.put, List.setIfInBounds_toArray, List.set_cons_succ, List.set_cons_zero]
        refine wpAny_take (i := 18) (v := (.pointer (some ⟨E, 0, none⟩))) rfl (by kernel_rfl) (by kernel_rfl) (by kernel_rfl) (fun _ _ _ h => h) (.inl ⟨rfl, fun _ => by simp [execOp, go_sem, Act.eval]⟩) ?_
        simp only [List.getElem_toArray, List.getElem_cons_succ, List.getElem_cons_zero, Act.put, List.setIfInBounds_toArray, List.set_cons_succ, List.set_cons_zero]
        refine wpAny_all (rs := [19]) (by kernel_rfl) (by simp) ?_
        intro k hk
        simp only [List.mem_cons, List.mem_nil_iff, or_false] at hk
        subst hk
        refine wpOp_run rfl rfl (wp_store_cell 29 _ _ rfl E 0 rfl _ rfl (store_tms w9 E 0 _ a9 _ c9 X9.c.1 (X9.frozen 0)) ?_)
        have R9 : RT 59 4 dtC w9 (.slice a9 (l.take k ++ l.drop (k + 1)).length c9) (l.take k ++ l.drop (k + 1)) := RT.own DT P9
        have XS := X9.set (k := 0) (u := .slice a9 (l.take k ++ l.drop (k + 1)).length c9) (l' := l.take k ++ l.drop (k + 1)) (now' := now) (last' := last) (v' := .slice a9 (l.take k ++ l.drop (k + 1)).length c9) rfl R9 (by simp; omega)
        have sx : (w9.setCell ⟨E, 0, none⟩ (.slice a9 (l.take k ++ l.drop (k + 1)).length c9)).cell? ⟨E, 0, none⟩ = some (.slice a9 (l.take k ++ l.drop (k + 1)).length c9) := XS.1.c.1
        simp only [List.getElem_toArray, List.getElem_cons_succ, List.getElem_cons_zero, Act.put, List.setIfInBounds_toArray, List.set_cons_succ, List.set_cons_zero]
        refine wpAny_done (by kernel_rfl) ?_ _
        have HE : Hid (∃ v', Xw E (l.take k ++ l.drop (k + 1)) now last v' (w9.setCell ⟨E, 0, none⟩ (.slice a9 (l.take k ++ l.drop (k + 1)).length c9)) ∧ w1.grownBy (w9.setCell ⟨E, 0, none⟩ (.slice a9 (l.take k ++ l.drop (k + 1)).length c9)) (some E)) := ⟨_, XS.1, grown_trans (gb_any (HB5.out.trans (B9.mono HB5.out.size)) _) XS.2⟩
        generalize w9.setCell ⟨E, 0, none⟩ (.slice a9 (l.take k ++ l.drop (k + 1)).length c9) = wz at *
        clear XS sx R9 X9 P9 P6' P6 G6 G9 HW1 HW2 HX SS
        go_wp2
        go_ret
        exact .inl ⟨k, rfl, HFk.out, HE.out⟩
      · refine wpOp_run rfl rfl (wp_load_cell 29 _ rfl E 0 rfl (.slice ao l.length cap) (load_tms _ E 0 _ _ _ (SS.out _ r0)) ?_)
        simp only [List.getElem_toArray, List.getElem_cons_succ, List.getElem_cons_zero, Act.put, List.setIfInBounds_toArray, List.set_cons_succ, List.set_cons_zero]
        refine wpAny_take (i := 7) (v := (v1)) rfl (by kernel_rfl) (by kernel_rfl) (by kernel_rfl) (fun _ _ _ h => h) (.inl ⟨rfl, fun _ => by simp [execOp, go_sem, Act.eval, hs1]⟩) ?_
        simp only [List.getElem_toArray, List.getElem_cons_succ, List.getElem_cons_zero, Act.put, List.setIfInBounds_toArray, List.set_cons_succ, List.set_cons_zero]
        refine wpAny_all (rs := [1]) (by kernel_rfl) (by simp) ?_
        intro k hk
        simp only [List.mem_cons, List.mem_nil_iff, or_false] at hk
        subst hk
        refine wpOp_run rfl rfl (wp_bs0g Try.underlying29 infoT rfl ?_)
        have bz := r0.alloc r0.size (.cells #[] 59)
        have sz := SS.out _ bz
        simp only [List.getElem_toArray, List.getElem_cons_succ, List.getElem_cons_zero, Act.put, List.setIfInBounds_toArray, List.set_cons_succ, List.set_cons_zero]
        refine wpAny_all (rs := [8]) (by kernel_rfl) (by simp) ?_
        intro k hk
        simp only [List.mem_cons, List.mem_nil_iff, or_false] at hk
        subst hk
        refine wpOp_run rfl rfl (wp_append_wide DT _ _ 29 59 _ _ Try.underlying29 infoT rfl rfl w5.heap.size (.slice (some ⟨w5.heap.size, 0, none⟩) 0 0) [] rfl (by exact own_empty_e w5 59 4) _ (l.take k) rfl (HW1.out _ (HX.out _ bz).row.wide) (by unfold maxLen; simp; omega) (by simp; omega) (by rw [size_alloc]; omega) ?_)
        intro v6 w6 P6 G6
        have b6 : Below w5.heap.size w5 w6 := bz.trans (((Below.refl w5.heap.size _).grown G6 (by rw [size_alloc]; omega) (by simp [Value.ownBlock])).mono (by omega))
        have s6 := SS.out _ b6
        have P6' : w6.ownsRow w5.heap.size 59 4 v6 (l.take k).length (flatW DT (l.take k)) := own_lower P6 (by omega)
        simp only [List.getElem_toArray, List.getElem_cons_succ, List.getElem_cons_zero, Act.put, List.setIfInBounds_toArray, List.set_cons_succ, List.set_cons_zero]
        refine wpAny_all (rs := [16]) (by kernel_rfl) (by simp) ?_
        intro k hk
        simp only [List.mem_cons, List.mem_nil_iff, or_false] at hk
        subst hk
        refine wpOp_run rfl rfl (wp_append_wide DT _ _ 29 59 _ _ Try.underlying29 infoT rfl rfl w5.heap.size v6 (l.take k) rfl P6' _ (l.drop (k + 1)) rfl (HW2.out _ (HX.out _ b6).row.wide) (by unfold maxLen; simp; omega) (by simp; omega) b6.size ?_)
        intro v9 w9 P9 G9
        have B9 : Below w5.heap.size w5 w9 := ⟨G9.os.trans b6.os, G9.tape.trans b6.tape, G9.output.trans b6.output, Nat.le_trans b6.size G9.size, fun k hk => (G9.block k (Nat.lt_of_lt_of_le hk b6.size) (fun e => by have := own_base P6' e.symm; omega)).trans (b6.block k hk)⟩
        have s9 := SS.out _ B9
        have X9 := HX.out _ B9
        obtain ⟨a9, c9, hv9⟩ := own_shape5 P9
        subst hv9
        simp only [List.getElem_toArray, List.getElem_cons_succ, List.getElem_cons_zero, Act.put, List.setIfInBounds_toArray, List.set_cons_succ, List.set_cons_zero]
        refine wpAny_take (i := 17) (v := (.pointer (some ⟨E, 0, none⟩))) rfl (by kernel_rfl) (by kernel_rfl) (by kernel_rfl) (fun _ _ _ h => h) (.inl ⟨rfl, fun _ => by simp [execOp, go_sem, Act.eval]⟩) ?_
        simp only [List.getElem_toArray, List.getElem_cons_succ, List.getElem_cons_zero, Act.put, List.setIfInBounds_toArray, List.set_cons_succ, List.set_cons_zero]
        refine wpAny_take (i := 18) (v := (.pointer (some ⟨E, 0, none⟩))) rfl (by kernel_rfl) (by kernel_rfl) (by kernel_rfl) (fun _ _ _ h => h) (.inl ⟨rfl, fun _ => by simp [execOp, go_sem, Act.eval]⟩) ?_
        simp only [List.getElem_toArray, List.getElem_cons_succ, List.getElem_cons_zero, Act.put, List.setIfInBounds_toArray, List.set_cons_succ, List.set_cons_zero]
        refine wpAny_all (rs := [19]) (by kernel_rfl) (by simp) ?_
        intro k hk
        simp only [List.mem_cons, List.mem_nil_iff, or_false] at hk
        subst hk
        refine wpOp_run rfl rfl (wp_store_cell 29 _ _ rfl E 0 rfl _ rfl (store_tms w9 E 0 _ a9 _ c9 X9.c.1 (X9.frozen 0)) ?_)
        have R9 : RT 59 4 dtC w9 (.slice a9 (l.take k ++ l.drop (k + 1)).length c9) (l.take k ++ l.drop (k + 1)) := RT.own DT P9
        have XS := X9.set (k := 0) (u := .slice a9 (l.take k ++ l.drop (k + 1)).length c9) (l' := l.take k ++ l.drop (k + 1)) (now' := now) (last' := last) (v' := .slice a9 (l.take k ++ l.drop (k + 1)).length c9) rfl R9 (by simp; omega)
        have sx : (w9.setCell ⟨E, 0, none⟩ (.slice a9 (l.take k ++ l.drop (k + 1)).length c9)).cell? ⟨E, 0, none⟩ = some (.slice a9 (l.take k ++ l.drop (k + 1)).length c9) := XS.1.c.1
        simp only [List.getElem_toArray, List.getElem_cons_succ, List.getElem_cons_zero, Act.put, List.setIfInBounds_toArray, List.set_cons_succ, List.set_cons_zero]
        refine wpAny_done (by kernel_rfl) ?_ _
        have HE : Hid (∃ v', Xw E (l.take k ++ l.drop (k + 1)) now last v' (w9.setCell ⟨E, 0, none⟩ (.slice a9 (l.take k ++ l.drop (k + 1)).length c9)) ∧ w1.grownBy (w9.setCell ⟨E, 0, none⟩ (.slice a9 (l.take k ++ l.drop (k + 1)).length c9)) (some E)) := ⟨_, XS.1, grown_trans (gb_any (HB5.out.trans (B9.mono HB5.out.size)) _) XS.2⟩
        generalize w9.setCell ⟨E, 0, none⟩ (.slice a9 (l.take k ++ l.drop (k + 1)).length c9) = wz at *
        clear XS sx R9 X9 P9 P6' P6 G6 G9 HW1 HW2 HX SS
        go_wp2
        go_ret
        exact .inl ⟨k, rfl, HFk.out, HE.out⟩
  · have HF : Hid (∀ j (hj : j < l.length), (l[j].no : Int) ≠ no) := f
    clear hF f
    go_wp2
    go_ret
    exact .inr ⟨rfl, HF.out, rfl⟩
end Go.Proofs.Ytjkkclojidhgdaa
