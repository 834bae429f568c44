/- The law OdApart holds: whatever entries a dictionary is made of and whatever act is done to it, no other entry's value changes; no condition. -/
import Derived.Test.YtdcogpadioeclaaP6
import Derived.Test.YtdcogpadioeclaaTyO
namespace Go.Proofs.Ytdcogpadioeclaa
open Go.RowKit Go.Proofs.Ty Go.Sort Go.Lib
set_option linter.unusedVariables false
set_option maxRecDepth 1000000
set_option linter.unusedSimpArgs false
theorem enterG8 : ∀ args x, (callFunc 15 args).run Try.prog x = .ok (.enter 15 args) x := fun _ _ => by rfl
theorem enterW8 : ∀ args x, (callFunc 14 args).run Try.prog x = .ok (.enter 14 args) x := fun _ _ => by rfl
theorem enterS8 : ∀ args x, (callFunc 20 args).run Try.prog x = .ok (.enter 20 args) x := fun _ _ => by rfl
set_option maxHeartbeats 16000000 in
theorem oap_walk (v0 : Value) (l : List En) (a : A8) (w : World) (h0 : Wide 14 enC w v0 l) (hn0 : l.length ≤ 1172812402927) (hb : Bytes w a.bv a.bl) (hbl : a.bl.length ≤ 140737488351232) :
    Calls Try.prog 6 #[v0, .agg a.arr] w fun e w' => e = .returned (.bool true) ∧ Below w.heap.size w w' := by
  have HW0 := hidOf2 h0
  obtain ⟨ao0, cp0, rfl⟩ := h0.shape
  obtain ⟨qa, hqa⟩ : ∃ q, w.heap.size = q := ⟨_, rfl⟩
  have bA : Below w.heap.size w (w.alloc (.cells a.arr 35)) := (Below.refl _ _).alloc (Nat.le_refl _) _
  have hA : (w.alloc (.cells a.arr 35)).heap[qa]? = some (.cells a.arr 35 (0, 0)) := by rw [← hqa]; exact heap_alloc_new _ _
  have hBg := Begins_any _ l _ (h0.same bA.size (fun b _ hl => bA.block b hl)) hn0
  have hL8 := lives8_any
  have HBy := hidOf2 hb
  clear h0 hb
  go_enter Try.func6, Try.ntmps6
  go_upto_region 1 with fail
  generalize w.alloc (.cells a.arr 35) = wA at *
  try simp only [hqa]
  go_wp2_with fail
  refine hBg.mono ?_
  rintro e w1 ⟨b1, hbad, hgood⟩
  have HG := hidOf2 hgood
  have HB2 := hidOf2 hbad
  have B1 := bA.trans (b1.mono bA.size)
  clear hBg hgood hbad
  by_cases hc : chkL l = 0
  · obtain ⟨X, D, R, E, its, vL, vV, rfl, N1⟩ := HG.out hc
    have HPe := hidOf2 N1.perm
    have HSo1 : Hid (So w X D R E qa a its w1) := ⟨N1.dct, N1.pair, (b1.block qa (Array.getElem?_eq_some_iff.1 hA).1).trans hA, B1, fun b hb => by
      obtain ⟨i, hi, rfl⟩ := List.mem_map.1 hb
      exact Nat.le_trans bA.size (N1.base i hi)⟩
    clear HG HB2 N1 b1 B1 bA hA
    have bB : Below w1.heap.size w1 (w1.alloc (.cells #[] 33)) := (Below.refl _ _).alloc (Nat.le_refl _) _
    have HSo2 := hidOf2 (HSo1.out.next bB)
    have HP2 := hidOf2 (own_lower (own0V w1) HSo1.out.below.size)
    clear HSo1 bB
    go_wp2_with (first | (refine bs0V rfl rfl ?_))
    generalize w1.alloc (.cells #[] 33) = w2 at *
    try simp only [Act.put]
    go_loopw [7, 8] (fun s7 s8 x => ∃ k : Nat, k ≤ l.length ∧ s8 = .int .i64 k ∧ Hid (x.ownsRow w.heap.size 33 3 s7 ((l.take k).map (fun e : En => getV its e.ix e.sb)).length (flatW DV ((l.take k).map (fun e : En => getV its e.ix e.sb)))) ∧ Hid (So w X D R E qa a its x)) (fun _ s8 _ => l.length - (intOf s8).toNat)
    case atStart => exact ⟨0, Nat.zero_le _, rfl, HP2, HSo2⟩
    case round =>
      clear HP2 HSo2
      obtain ⟨k, hk, rfl, HP, HSo⟩ := hrel
      by_cases hkl : k < l.length
      · skip
        obtain ⟨eb, eo, cpx, hv, hab, hR⟩ := HW0.out.at0 k hkl
        injection hv with hv1 _ hv3
        subst hv1
        subst hv3
        obtain ⟨i0, hi0, hie, hf⟩ := fnd_entry HSo.out.dct.sorted HPe.out (List.getElem_mem hkl)
        have HCE : Hid (∀ x, Below w.heap.size w x → x.rangeAt eb (eo + k * 14) (enC l[k])) := fun x hb => rng_below hR hb hab
        have hGet : Hid (∀ x, Below wr.heap.size wr x → Calls Try.prog 15 #[.pointer (some ⟨D, 0, none⟩), .int .u16 l[k].ix, .int .u8 l[k].sb] x fun e w' => e = .returned (.tuple #[.agg (getV its l[k].ix l[k].sb).arr, .int .i64 0]) ∧ Below x.heap.size x w') := fun x hb => by
          have := Get_any (HSo.out.dct.below hb) l[k].ix l[k].sb l[k].hix l[k].hsb
          have e2 : getE its l[k].ix l[k].sb = 0 := by unfold getE; rw [hf]
          rw [e2] at this
          exact this
        have HSS : Hid (∀ x, Below wr.heap.size wr x → x.cell? ⟨X, 0, none⟩ = some (.pointer (some ⟨D, 0, none⟩)) ∧ x.cell? ⟨eb, eo + k * 14, none⟩ = some (.int .u16 l[k].ix) ∧ x.cell? ⟨eb, eo + k * 14 + 1, none⟩ = some (.int .u8 l[k].sb)) := fun x hb =>
          have hS := HSo.out.next hb
          ⟨hS.c.1, HCE.out x hS.below 0 _ rfl, HCE.out x hS.below 1 _ rfl⟩
        have HT := hidOf2 (show (l.take (k + 1)).map (fun e : En => getV its e.ix e.sb) = (l.take k).map (fun e : En => getV its e.ix e.sb) ++ [getV its l[k].ix l[k].sb] by rw [List.take_succ_eq_append_getElem hkl, List.map_append]; rfl)
        clear hie hf hi0 hR
        generalize l[k] = E8 at *
        have S0 := HSS.out wr.drew (bdr (Below.refl _ _) 1)
        go_upto_region 8 with fail
        refine wp_region_held (S := fun x => x.cell? ⟨X, 0, none⟩ = some (.pointer (some ⟨D, 0, none⟩)) ∧ x.cell? ⟨eb, eo + k * 14, none⟩ = some (.int .u16 E8.ix) ∧ x.cell? ⟨eb, eo + k * 14 + 1, none⟩ = some (.int .u8 E8.sb)) (by kernel_rfl) ?_
        change wpAnyH _ _ _ _ _ _ _ _ wr.drew
        refine wpAnyH_take (i := 0) (v := (.pointer (some ⟨X, 0, none⟩))) rfl (by kernel_rfl) (by kernel_rfl) (by kernel_rfl) (fun _ _ _ h => h) (.inl ⟨rfl, fun _ hS => rfl⟩) S0 ?_
        simp only [List.getElem_toArray, List.getElem_cons_succ, List.getElem_cons_zero, Act.put, List.setIfInBounds_toArray, List.set_cons_succ, List.set_cons_zero]
        refine wpAnyH_take (i := 1) (v := (.pointer (some ⟨X, 0, none⟩))) rfl (by kernel_rfl) (by kernel_rfl) (by kernel_rfl) (fun _ _ _ h => h) (.inl ⟨rfl, fun _ hS => by simp [execOp, go_sem, Act.eval]⟩) S0 ?_
        simp only [List.getElem_toArray, List.getElem_cons_succ, List.getElem_cons_zero, Act.put, List.setIfInBounds_toArray, List.set_cons_succ, List.set_cons_zero]
        refine wpAnyH_take (i := 2) (v := (.pointer (some ⟨X, 0, none⟩))) rfl (by kernel_rfl) (by kernel_rfl) (by kernel_rfl) (fun _ _ _ h => h) (.inl ⟨rfl, fun _ hS => by simp [execOp, go_sem, Act.eval]⟩) S0 ?_
        simp only [List.getElem_toArray, List.getElem_cons_succ, List.getElem_cons_zero, Act.put, List.setIfInBounds_toArray, List.set_cons_succ, List.set_cons_zero]
        refine wpAnyH_take (i := 3) (v := (.pointer (some ⟨D, 0, none⟩))) rfl (by kernel_rfl) (by kernel_rfl) (by kernel_rfl) (fun _ _ _ h => h) (.inl ⟨rfl, fun _ hS => exec_load rfl rfl (load_pd _ _ _ _ hS.1)⟩) S0 ?_
        simp only [List.getElem_toArray, List.getElem_cons_succ, List.getElem_cons_zero, Act.put, List.setIfInBounds_toArray, List.set_cons_succ, List.set_cons_zero]
        refine wpAnyH_take (i := 4) (v := (.slice (some ⟨eb, eo, none⟩) l.length cp0)) rfl (by kernel_rfl) (by kernel_rfl) (by kernel_rfl) (fun _ _ _ h => h) (.inl ⟨rfl, fun _ hS => rfl⟩) S0 ?_
        simp only [List.getElem_toArray, List.getElem_cons_succ, List.getElem_cons_zero, Act.put, List.setIfInBounds_toArray, List.set_cons_succ, List.set_cons_zero]
        refine wpAnyH_take (i := 5) (v := (.int .i64 (k : Int))) rfl (by kernel_rfl) (by kernel_rfl) (by kernel_rfl) (fun _ _ _ h => h) (.inl ⟨rfl, fun _ hS => rfl⟩) S0 ?_
        simp only [List.getElem_toArray, List.getElem_cons_succ, List.getElem_cons_zero, Act.put, List.setIfInBounds_toArray, List.set_cons_succ, List.set_cons_zero]
        refine wpAnyH_take (i := 6) (v := (.pointer (some ⟨eb, eo + k * 14, none⟩))) rfl (by kernel_rfl) (by kernel_rfl) (by kernel_rfl) (fun _ _ _ h => h) (.inl ⟨rfl, fun _ hS => exec_idxE rfl rfl rfl hkl _⟩) S0 ?_
        simp only [List.getElem_toArray, List.getElem_cons_succ, List.getElem_cons_zero, Act.put, List.setIfInBounds_toArray, List.set_cons_succ, List.set_cons_zero]
        refine wpAnyH_take (i := 7) (v := (.pointer (some ⟨eb, eo + k * 14, none⟩))) rfl (by kernel_rfl) (by kernel_rfl) (by kernel_rfl) (fun _ _ _ h => h) (.inl ⟨rfl, fun _ hS => by simp [execOp, go_sem, Act.eval]⟩) S0 ?_
        simp only [List.getElem_toArray, List.getElem_cons_succ, List.getElem_cons_zero, Act.put, List.setIfInBounds_toArray, List.set_cons_succ, List.set_cons_zero]
        refine wpAnyH_take (i := 8) (v := (.int .u16 E8.ix)) rfl (by kernel_rfl) (by kernel_rfl) (by kernel_rfl) (fun _ _ _ h => h) (.inl ⟨rfl, fun _ hS => exec_load rfl rfl (load_u16 _ _ _ _ hS.2.1)⟩) S0 ?_
        simp only [List.getElem_toArray, List.getElem_cons_succ, List.getElem_cons_zero, Act.put, List.setIfInBounds_toArray, List.set_cons_succ, List.set_cons_zero]
        refine wpAnyH_take (i := 9) (v := (.slice (some ⟨eb, eo, none⟩) l.length cp0)) rfl (by kernel_rfl) (by kernel_rfl) (by kernel_rfl) (fun _ _ _ h => h) (.inl ⟨rfl, fun _ hS => rfl⟩) S0 ?_
        simp only [List.getElem_toArray, List.getElem_cons_succ, List.getElem_cons_zero, Act.put, List.setIfInBounds_toArray, List.set_cons_succ, List.set_cons_zero]
        refine wpAnyH_take (i := 10) (v := (.int .i64 (k : Int))) rfl (by kernel_rfl) (by kernel_rfl) (by kernel_rfl) (fun _ _ _ h => h) (.inl ⟨rfl, fun _ hS => rfl⟩) S0 ?_
        simp only [List.getElem_toArray, List.getElem_cons_succ, List.getElem_cons_zero, Act.put, List.setIfInBounds_toArray, List.set_cons_succ, List.set_cons_zero]
        refine wpAnyH_take (i := 11) (v := (.pointer (some ⟨eb, eo + k * 14, none⟩))) rfl (by kernel_rfl) (by kernel_rfl) (by kernel_rfl) (fun _ _ _ h => h) (.inl ⟨rfl, fun _ hS => exec_idxE rfl rfl rfl hkl _⟩) S0 ?_
        simp only [List.getElem_toArray, List.getElem_cons_succ, List.getElem_cons_zero, Act.put, List.setIfInBounds_toArray, List.set_cons_succ, List.set_cons_zero]
        refine wpAnyH_take (i := 12) (v := (.pointer (some ⟨eb, eo + k * 14 + 1, none⟩))) rfl (by kernel_rfl) (by kernel_rfl) (by kernel_rfl) (fun _ _ _ h => h) (.inl ⟨rfl, fun _ hS => by simp [execOp, go_sem, Act.eval]⟩) S0 ?_
        simp only [List.getElem_toArray, List.getElem_cons_succ, List.getElem_cons_zero, Act.put, List.setIfInBounds_toArray, List.set_cons_succ, List.set_cons_zero]
        refine wpAnyH_take (i := 13) (v := (.int .u8 E8.sb)) rfl (by kernel_rfl) (by kernel_rfl) (by kernel_rfl) (fun _ _ _ h => h) (.inl ⟨rfl, fun _ hS => exec_load rfl rfl (load_u8 _ _ _ _ hS.2.2)⟩) S0 ?_
        simp only [List.getElem_toArray, List.getElem_cons_succ, List.getElem_cons_zero, Act.put, List.setIfInBounds_toArray, List.set_cons_succ, List.set_cons_zero]
        refine wpAnyH_all (rs := [14, 18]) (by kernel_rfl) (by simp) ?_
        intro k hk
        simp only [List.mem_cons, List.mem_nil_iff, or_false] at hk
        rcases hk with rfl | rfl
        · refine wpOp_run rfl rfl (wp_call_fn 15 #[.pointer (some ⟨D, 0, none⟩), .int .u16 E8.ix, .int .u8 E8.sb] (by simp [execOp, go_sem, Act.eval, resolve, invoke, enterG8]) ?_)
          refine (hGet.out wr.drew (bdr (Below.refl _ _) 1)).mono ?_
          rintro e w4 ⟨rfl, b4⟩
          have s4 := HSS.out _ (bdrw b4)
          refine ⟨s4, ?_⟩
          simp only [List.getElem_toArray, List.getElem_cons_succ, List.getElem_cons_zero, Act.put, List.setIfInBounds_toArray, List.set_cons_succ, List.set_cons_zero]
          refine wpAnyH_take (i := 15) (v := (.tuple #[.agg (getV its E8.ix E8.sb).arr, .int .i64 0])) rfl (by kernel_rfl) (by kernel_rfl) (by kernel_rfl) (fun _ _ _ h => h) (.inl ⟨rfl, fun _ hS => rfl⟩) s4 ?_
          simp only [List.getElem_toArray, List.getElem_cons_succ, List.getElem_cons_zero, Act.put, List.setIfInBounds_toArray, List.set_cons_succ, List.set_cons_zero]
          refine wpAnyH_take (i := 16) (v := (.agg (getV its E8.ix E8.sb).arr)) rfl (by kernel_rfl) (by kernel_rfl) (by kernel_rfl) (fun _ _ _ h => h) (.inl ⟨rfl, fun _ hS => by simp [execOp, go_sem, Act.eval]⟩) s4 ?_
          simp only [List.getElem_toArray, List.getElem_cons_succ, List.getElem_cons_zero, Act.put, List.setIfInBounds_toArray, List.set_cons_succ, List.set_cons_zero]
          refine wpAnyH_take (i := 17) (v := (.int .i64 0)) rfl (by kernel_rfl) (by kernel_rfl) (by kernel_rfl) (fun _ _ _ h => h) (.inl ⟨rfl, fun _ hS => by simp [execOp, go_sem, Act.eval]⟩) s4 ?_
          simp only [List.getElem_toArray, List.getElem_cons_succ, List.getElem_cons_zero, Act.put, List.setIfInBounds_toArray, List.set_cons_succ, List.set_cons_zero]
          refine wpAnyH_all (rs := [18]) (by kernel_rfl) (by simp) ?_
          intro k hk
          simp only [List.mem_cons, List.mem_nil_iff, or_false] at hk
          subst hk
          refine wpOp_run rfl rfl (wp_allocV rfl ?_)
          obtain ⟨q9, hq9⟩ : ∃ q, w4.heap.size = q := ⟨_, rfl⟩
          have g5 := Va.new w4 Vl.nul
          have c5 := (bdrw b4).alloc (bdrw b4).size (.cells Vl.nul.arr 33)
          have s5 := HSS.out _ c5
          have hqr : wr.heap.size ≤ q9 := by rw [← hq9]; exact (bdrw b4).size
          rw [hq9] at g5 ⊢
          generalize w4.alloc (.cells Vl.nul.arr 33) = w5 at *
          refine ⟨s5, ?_⟩
          simp only [List.getElem_toArray, List.getElem_cons_succ, List.getElem_cons_zero, Act.put, List.setIfInBounds_toArray, List.set_cons_succ, List.set_cons_zero]
          refine wpAnyH_all (rs := [19]) (by kernel_rfl) (by simp) ?_
          intro k hk
          simp only [List.mem_cons, List.mem_nil_iff, or_false] at hk
          subst hk
          refine wpOp_run rfl rfl (wp_store_row 33 _ _ rfl q9 (getV its E8.ix E8.sb).arr rfl rfl 33 Vl.nul.arr g5 (by rw [Vl.arr_size]; exact infoV) (by rw [Vl.arr_size, Vl.arr_size]) (getV its E8.ix E8.sb).one ?_)
          have g6 := g5.row (getV its E8.ix E8.sb)
          have c6 := below_row c5 hqr c5.size (q := q9) (getV its E8.ix E8.sb).arr
          have s6 := HSS.out _ c6
          refine ⟨s6, ?_⟩
          simp only [List.getElem_toArray, List.getElem_cons_succ, List.getElem_cons_zero, Act.put, List.setIfInBounds_toArray, List.set_cons_succ, List.set_cons_zero]
          refine wpAnyH_take (i := 20) (v := (.int .i64 0)) rfl (by kernel_rfl) (by kernel_rfl) (by kernel_rfl) (fun _ _ _ h => h) (.inl ⟨rfl, fun _ hS => rfl⟩) s6 ?_
          simp only [List.getElem_toArray, List.getElem_cons_succ, List.getElem_cons_zero, Act.put, List.setIfInBounds_toArray, List.set_cons_succ, List.set_cons_zero]
          refine wpAnyH_done (by kernel_rfl) ?_ _
          have G6 := hidOf2 g6
          have C6 := hidOf2 c6
          have O6 := hidOf2 (HSo.out.next c6)
          have P6 := hidOf2 (own_below5 HP.out c6)
          generalize w5.setRow q9 (getV its E8.ix E8.sb).arr = w6 at *
          clear s4 s5 s6 g6 g5 S0 HSS hGet c5 c6 hqr HSo HP
          obtain ⟨V8, hV8⟩ : ∃ V8, getV its E8.ix E8.sb = V8 := ⟨_, rfl⟩
          rw [hV8] at G6 HT ⊢
          have g6 := G6.out
          have bA : Below w6.heap.size w6 (w6.alloc (.cells V8.arr 33)) := (Below.refl _ _).alloc (Nat.le_refl _) _
          have P7 := ownsRow_alloc P6.out (.cells V8.arr 33)
          have hWv := wide_new DV w6 V8 33
          have hlw : ((l.take k).map (fun e : En => getV its e.ix e.sb)).length + 1 ≤ 1172812402927 := by simp; omega
          have hbs : w.heap.size ≤ (w6.alloc (.cells V8.arr 33)).heap.size := Nat.le_trans O6.out.below.size bA.size
          go_wp2_with (first | (refine g6.ld rfl _ rfl rfl ?_) | (refine one_bs DV V8 56 33 _ 32 rfl _ rfl rfl Try.underlying56 infoVz (by decide) ?_) | (refine apV rfl _ _ rfl w.heap.size _ ((l.take k).map (fun e : En => getV its e.ix e.sb)) rfl P7 _ [V8] rfl hWv hlw hbs ?_; intro v8 w8 P8 G8; have HP8 := hidOf2 P8; have HO8 := hidOf2 ((O6.out.next bA).row G8 (fun b hb => own_of P7 hb)); clear P8 G8))
          go_roundw
          case rel => exact ⟨k + 1, by omega, by go_num, by rw [HT.out]; exact HP8, HO8⟩
          case measure => simp [intOf]; omega
        · refine wpOp_run rfl rfl (wp_allocV rfl ?_)
          obtain ⟨q9, hq9⟩ : ∃ q, wr.drew.heap.size = q := ⟨_, rfl⟩
          have g4 := Va.new wr.drew Vl.nul
          have b4 : Below wr.heap.size wr (wr.drew.alloc (.cells Vl.nul.arr 33)) := (bdr (Below.refl _ _) 1).alloc (Nat.le_refl _) _
          have s4 := HSS.out _ b4
          have hqr : wr.heap.size ≤ q9 := by rw [← hq9]; exact Nat.le_refl _
          rw [hq9] at g4 ⊢
          generalize wr.drew.alloc (.cells Vl.nul.arr 33) = w4 at *
          refine ⟨s4, ?_⟩
          simp only [List.getElem_toArray, List.getElem_cons_succ, List.getElem_cons_zero, Act.put, List.setIfInBounds_toArray, List.set_cons_succ, List.set_cons_zero]
          refine wpAnyH_all (rs := [14]) (by kernel_rfl) (by simp) ?_
          intro k hk
          simp only [List.mem_cons, List.mem_nil_iff, or_false] at hk
          subst hk
          refine wpOp_run rfl rfl (wp_call_fn 15 #[.pointer (some ⟨D, 0, none⟩), .int .u16 E8.ix, .int .u8 E8.sb] (by simp [execOp, go_sem, Act.eval, resolve, invoke, enterG8]) ?_)
          refine (hGet.out w4 b4).mono ?_
          rintro e w5 ⟨rfl, b5⟩
          have g5 := g4.below b5
          have c5 := b4.trans (b5.mono b4.size)
          have s5 := HSS.out _ c5
          refine ⟨s5, ?_⟩
          simp only [List.getElem_toArray, List.getElem_cons_succ, List.getElem_cons_zero, Act.put, List.setIfInBounds_toArray, List.set_cons_succ, List.set_cons_zero]
          refine wpAnyH_take (i := 15) (v := (.tuple #[.agg (getV its E8.ix E8.sb).arr, .int .i64 0])) rfl (by kernel_rfl) (by kernel_rfl) (by kernel_rfl) (fun _ _ _ h => h) (.inl ⟨rfl, fun _ hS => rfl⟩) s5 ?_
          simp only [List.getElem_toArray, List.getElem_cons_succ, List.getElem_cons_zero, Act.put, List.setIfInBounds_toArray, List.set_cons_succ, List.set_cons_zero]
          refine wpAnyH_take (i := 16) (v := (.agg (getV its E8.ix E8.sb).arr)) rfl (by kernel_rfl) (by kernel_rfl) (by kernel_rfl) (fun _ _ _ h => h) (.inl ⟨rfl, fun _ hS => by simp [execOp, go_sem, Act.eval]⟩) s5 ?_
          simp only [List.getElem_toArray, List.getElem_cons_succ, List.getElem_cons_zero, Act.put, List.setIfInBounds_toArray, List.set_cons_succ, List.set_cons_zero]
          refine wpAnyH_take (i := 17) (v := (.int .i64 0)) rfl (by kernel_rfl) (by kernel_rfl) (by kernel_rfl) (fun _ _ _ h => h) (.inl ⟨rfl, fun _ hS => by simp [execOp, go_sem, Act.eval]⟩) s5 ?_
          simp only [List.getElem_toArray, List.getElem_cons_succ, List.getElem_cons_zero, Act.put, List.setIfInBounds_toArray, List.set_cons_succ, List.set_cons_zero]
          refine wpAnyH_all (rs := [19]) (by kernel_rfl) (by simp) ?_
          intro k hk
          simp only [List.mem_cons, List.mem_nil_iff, or_false] at hk
          subst hk
          refine wpOp_run rfl rfl (wp_store_row 33 _ _ rfl q9 (getV its E8.ix E8.sb).arr rfl rfl 33 Vl.nul.arr g5 (by rw [Vl.arr_size]; exact infoV) (by rw [Vl.arr_size, Vl.arr_size]) (getV its E8.ix E8.sb).one ?_)
          have g6 := g5.row (getV its E8.ix E8.sb)
          have c6 := below_row c5 hqr c5.size (q := q9) (getV its E8.ix E8.sb).arr
          have s6 := HSS.out _ c6
          refine ⟨s6, ?_⟩
          simp only [List.getElem_toArray, List.getElem_cons_succ, List.getElem_cons_zero, Act.put, List.setIfInBounds_toArray, List.set_cons_succ, List.set_cons_zero]
          refine wpAnyH_take (i := 20) (v := (.int .i64 0)) rfl (by kernel_rfl) (by kernel_rfl) (by kernel_rfl) (fun _ _ _ h => h) (.inl ⟨rfl, fun _ hS => rfl⟩) s6 ?_
          simp only [List.getElem_toArray, List.getElem_cons_succ, List.getElem_cons_zero, Act.put, List.setIfInBounds_toArray, List.set_cons_succ, List.set_cons_zero]
          refine wpAnyH_done (by kernel_rfl) ?_ _
          have G6 := hidOf2 g6
          have C6 := hidOf2 c6
          have O6 := hidOf2 (HSo.out.next c6)
          have P6 := hidOf2 (own_below5 HP.out c6)
          generalize w5.setRow q9 (getV its E8.ix E8.sb).arr = w6 at *
          clear s4 s5 s6 g6 g5 S0 HSS hGet c5 c6 hqr HSo HP
          obtain ⟨V8, hV8⟩ : ∃ V8, getV its E8.ix E8.sb = V8 := ⟨_, rfl⟩
          rw [hV8] at G6 HT ⊢
          have g6 := G6.out
          have bA : Below w6.heap.size w6 (w6.alloc (.cells V8.arr 33)) := (Below.refl _ _).alloc (Nat.le_refl _) _
          have P7 := ownsRow_alloc P6.out (.cells V8.arr 33)
          have hWv := wide_new DV w6 V8 33
          have hlw : ((l.take k).map (fun e : En => getV its e.ix e.sb)).length + 1 ≤ 1172812402927 := by simp; omega
          have hbs : w.heap.size ≤ (w6.alloc (.cells V8.arr 33)).heap.size := Nat.le_trans O6.out.below.size bA.size
          go_wp2_with (first | (refine g6.ld rfl _ rfl rfl ?_) | (refine one_bs DV V8 56 33 _ 32 rfl _ rfl rfl Try.underlying56 infoVz (by decide) ?_) | (refine apV rfl _ _ rfl w.heap.size _ ((l.take k).map (fun e : En => getV its e.ix e.sb)) rfl P7 _ [V8] rfl hWv hlw hbs ?_; intro v8 w8 P8 G8; have HP8 := hidOf2 P8; have HO8 := hidOf2 ((O6.out.next bA).row G8 (fun b hb => own_of P7 hb)); clear P8 G8))
          go_roundw
          case rel => exact ⟨k + 1, by omega, by go_num, by rw [HT.out]; exact HP8, HO8⟩
          case measure => simp [intOf]; omega
      · have e1 : k = l.length := by omega
        subst e1
        rw [List.take_length] at HP
        obtain ⟨aw, cw, hsw⟩ := own_shape5 HP.out
        obtain ⟨nw, hnw⟩ : ∃ n, (l.map (fun e : En => getV its e.ix e.sb)).length = n := ⟨_, rfl⟩
        rw [hnw] at hsw
        subst hsw
        have HPw := hidOf2 HP.out
        clear HP
        have ck := HSo.out.c.2.1
        obtain ⟨aob, cpb, hbv⟩ := bytes_shape HBy.out
        rw [hbv] at HBy
        have b0 : Below wr.heap.size wr wr.drew := bdr (Below.refl _ _) 1
        by_cases hkd : a.kind = 1
        · rw [hkd] at ck
          have HSS : Hid (∀ x, Below wr.heap.size wr x → x.cell? ⟨X, 0, none⟩ = some (.pointer (some ⟨D, 0, none⟩)) ∧ x.cell? ⟨qa, 1, none⟩ = some (.int .u16 a.ix) ∧ x.cell? ⟨qa, 2, none⟩ = some (.int .u8 a.sb) ∧ x.cell? ⟨qa, 3, none⟩ = some (.slice aob a.bl.length cpb)) := fun x hb => by
            have hS := (HSo.out.next hb).c
            rw [hbv] at hS
            exact ⟨hS.1, hS.2.2.1, hS.2.2.2.1, hS.2.2.2.2⟩
          have HSO : Hid (∀ (its' : List Im) x, So w X D R E qa a its' x → x.cell? ⟨X, 0, none⟩ = some (.pointer (some ⟨D, 0, none⟩)) ∧ x.cell? ⟨qa, 1, none⟩ = some (.int .u16 a.ix) ∧ x.cell? ⟨qa, 2, none⟩ = some (.int .u8 a.sb) ∧ x.cell? ⟨qa, 3, none⟩ = some (.slice aob a.bl.length cpb)) := fun its' x h => by
            have hS := h.c
            rw [hbv] at hS
            exact ⟨hS.1, hS.2.2.1, hS.2.2.2.1, hS.2.2.2.2⟩
          have S0 := HSS.out wr.drew b0
          go_upto_region 11 with fail
          clear ck hbv b0
          refine wp_region_held (S := fun x => x.cell? ⟨X, 0, none⟩ = some (.pointer (some ⟨D, 0, none⟩)) ∧ x.cell? ⟨qa, 1, none⟩ = some (.int .u16 a.ix) ∧ x.cell? ⟨qa, 2, none⟩ = some (.int .u8 a.sb) ∧ x.cell? ⟨qa, 3, none⟩ = some (.slice aob a.bl.length cpb)) (by kernel_rfl) ?_
          change wpAnyH _ _ _ _ _ _ _ _ wr.drew
          refine wpAnyH_take (i := 0) (v := (.pointer (some ⟨X, 0, none⟩))) rfl (by kernel_rfl) (by kernel_rfl) (by kernel_rfl) (fun _ _ _ h => h) (.inl ⟨rfl, fun _ hS => rfl⟩) S0 ?_
          simp only [List.getElem_toArray, List.getElem_cons_succ, List.getElem_cons_zero, Act.put, List.setIfInBounds_toArray, List.set_cons_succ, List.set_cons_zero]
          refine wpAnyH_take (i := 1) (v := (.pointer (some ⟨X, 0, none⟩))) rfl (by kernel_rfl) (by kernel_rfl) (by kernel_rfl) (fun _ _ _ h => h) (.inl ⟨rfl, fun _ hS => by simp [execOp, go_sem, Act.eval]⟩) S0 ?_
          simp only [List.getElem_toArray, List.getElem_cons_succ, List.getElem_cons_zero, Act.put, List.setIfInBounds_toArray, List.set_cons_succ, List.set_cons_zero]
          refine wpAnyH_take (i := 2) (v := (.pointer (some ⟨X, 0, none⟩))) rfl (by kernel_rfl) (by kernel_rfl) (by kernel_rfl) (fun _ _ _ h => h) (.inl ⟨rfl, fun _ hS => by simp [execOp, go_sem, Act.eval]⟩) S0 ?_
          simp only [List.getElem_toArray, List.getElem_cons_succ, List.getElem_cons_zero, Act.put, List.setIfInBounds_toArray, List.set_cons_succ, List.set_cons_zero]
          refine wpAnyH_take (i := 3) (v := (.pointer (some ⟨D, 0, none⟩))) rfl (by kernel_rfl) (by kernel_rfl) (by kernel_rfl) (fun _ _ _ h => h) (.inl ⟨rfl, fun _ hS => exec_load rfl rfl (load_pd _ _ _ _ hS.1)⟩) S0 ?_
          simp only [List.getElem_toArray, List.getElem_cons_succ, List.getElem_cons_zero, Act.put, List.setIfInBounds_toArray, List.set_cons_succ, List.set_cons_zero]
          refine wpAnyH_take (i := 4) (v := (.pointer (some ⟨qa, 1, none⟩))) rfl (by kernel_rfl) (by kernel_rfl) (by kernel_rfl) (fun _ _ _ h => h) (.inl ⟨rfl, fun _ hS => by simp [execOp, go_sem, Act.eval]⟩) S0 ?_
          simp only [List.getElem_toArray, List.getElem_cons_succ, List.getElem_cons_zero, Act.put, List.setIfInBounds_toArray, List.set_cons_succ, List.set_cons_zero]
          refine wpAnyH_take (i := 5) (v := (.int .u16 a.ix)) rfl (by kernel_rfl) (by kernel_rfl) (by kernel_rfl) (fun _ _ _ h => h) (.inl ⟨rfl, fun _ hS => exec_load rfl rfl (load_u16 _ _ _ _ hS.2.1)⟩) S0 ?_
          simp only [List.getElem_toArray, List.getElem_cons_succ, List.getElem_cons_zero, Act.put, List.setIfInBounds_toArray, List.set_cons_succ, List.set_cons_zero]
          refine wpAnyH_take (i := 6) (v := (.pointer (some ⟨qa, 2, none⟩))) rfl (by kernel_rfl) (by kernel_rfl) (by kernel_rfl) (fun _ _ _ h => h) (.inl ⟨rfl, fun _ hS => by simp [execOp, go_sem, Act.eval]⟩) S0 ?_
          simp only [List.getElem_toArray, List.getElem_cons_succ, List.getElem_cons_zero, Act.put, List.setIfInBounds_toArray, List.set_cons_succ, List.set_cons_zero]
          refine wpAnyH_take (i := 7) (v := (.int .u8 a.sb)) rfl (by kernel_rfl) (by kernel_rfl) (by kernel_rfl) (fun _ _ _ h => h) (.inl ⟨rfl, fun _ hS => exec_load rfl rfl (load_u8 _ _ _ _ hS.2.2.1)⟩) S0 ?_
          simp only [List.getElem_toArray, List.getElem_cons_succ, List.getElem_cons_zero, Act.put, List.setIfInBounds_toArray, List.set_cons_succ, List.set_cons_zero]
          refine wpAnyH_take (i := 9) (v := (.pointer (some ⟨qa, 3, none⟩))) rfl (by kernel_rfl) (by kernel_rfl) (by kernel_rfl) (fun _ _ _ h => h) (.inl ⟨rfl, fun _ hS => by simp [execOp, go_sem, Act.eval]⟩) S0 ?_
          simp only [List.getElem_toArray, List.getElem_cons_succ, List.getElem_cons_zero, Act.put, List.setIfInBounds_toArray, List.set_cons_succ, List.set_cons_zero]
          refine wpAnyH_take (i := 10) (v := (.slice aob a.bl.length cpb)) rfl (by kernel_rfl) (by kernel_rfl) (by kernel_rfl) (fun _ _ _ h => h) (.inl ⟨rfl, fun _ hS => exec_load rfl rfl (load_bytes _ _ _ _ _ _ hS.2.2.2)⟩) S0 ?_
          simp only [List.getElem_toArray, List.getElem_cons_succ, List.getElem_cons_zero, Act.put, List.setIfInBounds_toArray, List.set_cons_succ, List.set_cons_zero]
          refine wpAnyH_all (rs := [8]) (by kernel_rfl) (by simp) ?_
          intro k hk
          simp only [List.mem_cons, List.mem_nil_iff, or_false] at hk
          subst hk
          refine wpOp_run rfl rfl (wp_bs0g Try.underlying30 info5 rfl ?_)
          have b1 : Below wr.heap.size wr (wr.drew.alloc (.cells #[] 5)) := (bdr (Below.refl _ _) 1).alloc (Nat.le_refl _) _
          have s1 := HSS.out _ b1
          refine ⟨s1, ?_⟩
          simp only [List.getElem_toArray, List.getElem_cons_succ, List.getElem_cons_zero, Act.put, List.setIfInBounds_toArray, List.set_cons_succ, List.set_cons_zero]
          refine wpAnyH_all (rs := [11]) (by kernel_rfl) (by simp) ?_
          intro k hk
          simp only [List.mem_cons, List.mem_nil_iff, or_false] at hk
          subst hk
          refine wpOp_run rfl rfl (wp_append_bytes _ _ rfl wr.drew.heap.size (.slice (some ⟨wr.drew.heap.size, 0, none⟩) 0 0) [] rfl (own_empty wr.drew) _ a.bl rfl (HBy.out.below (HSo.out.below.trans (b1.mono HSo.out.below.size))) (by simp; omega) (by rw [size_alloc]; omega) ?_)
          intro v7 w7 P7 G7 _
          have b7 : Below wr.heap.size wr w7 := b1.grown G7 (by rw [size_alloc]; exact Nat.le_succ _) (fun j hj => by simp [Value.ownBlock] at hj; subst hj; exact Nat.le_refl _)
          have s7 := HSS.out _ b7
          rw [List.nil_append] at P7
          have hby7 := bytes_of_own P7
          have O7 := HSo.out.next b7
          have Q7 := own_below5 HPw.out b7
          refine ⟨s7, ?_⟩
          simp only [List.getElem_toArray, List.getElem_cons_succ, List.getElem_cons_zero, Act.put, List.setIfInBounds_toArray, List.set_cons_succ, List.set_cons_zero]
          refine wpAnyH_all (rs := [12]) (by kernel_rfl) (by simp) ?_
          intro k hk
          simp only [List.mem_cons, List.mem_nil_iff, or_false] at hk
          subst hk
          refine wpOp_run rfl rfl (wp_call_fn 14 #[.pointer (some ⟨D, 0, none⟩), .int .u16 a.ix, .int .u8 a.sb, v7] (by simp [execOp, go_sem, Act.eval, resolve, invoke, enterW8]) ?_)
          refine (Write_any O7.dct a.ix a.sb a.hix a.hsb v7 a.bl hby7).mono ?_
          rintro e w8 ⟨rfl, D8, K8⟩
          have O8 := O7.kp D8 K8 (((⟨rfl, rfl⟩ : Al (its.map Im.e) (its.map Im.b) its).wrt a.ix a.sb a.bl).b)
          have Q8 := own_kp Q7 O7.dct K8
          have s8 := HSO.out _ _ O8
          refine ⟨s8, ?_⟩
          simp only [List.getElem_toArray, List.getElem_cons_succ, List.getElem_cons_zero, Act.put, List.setIfInBounds_toArray, List.set_cons_succ, List.set_cons_zero]
          refine wpAnyH_done (by kernel_rfl) ?_ _
          obtain ⟨its2, hits2⟩ : ∃ its2, wrt its a.ix a.sb a.bl = its2 := ⟨_, rfl⟩
          have HAl2 : Hid (Al (its.map Im.e) (its.map Im.b) its2) := hits2 ▸ (⟨rfl, rfl⟩ : Al (its.map Im.e) (its.map Im.b) its).wrt a.ix a.sb a.bl
          have HAp : Hid (∀ e ∈ l, e.ix ≠ a.ix ∨ e.sb ≠ a.sb → getV its2 e.ix e.sb = getV its e.ix e.sb) := fun e _ hne => by rw [← hits2]; exact apart_wrt HSo.out.dct.apart hne a.bl
          rw [hits2] at O8
          have HSz := hidOf2 O8
          have HPz := hidOf2 Q8
          clear s1 s7 s8 O7 O8 Q7 Q8 P7 G7 hby7 b1 b7 D8 K8 S0 HSS HSO HSo HPw hits2
          have HPe2 : Hid ((its2.map Im.e).Perm (l.map En.plain)) := by rw [HAl2.out.e]; exact HPe
          go_wp2
          go_loopw [11] (fun s11 x => ∃ k : Nat, k ≤ l.length ∧ s11 = .int .i64 k ∧ Hid (x.ownsRow w.heap.size 33 3 (.slice aw nw cw) (l.map (fun e : En => getV its e.ix e.sb)).length (flatW DV (l.map (fun e : En => getV its e.ix e.sb)))) ∧ Hid (So w X D R E qa a its2 x)) (fun s11 _ => l.length - (intOf s11).toNat)
          case atStart => exact ⟨0, Nat.zero_le _, rfl, HPz, HSz⟩
          case round =>
            clear HPz HSz
            rename Hid ((List.map Im.e its).Perm (List.map En.plain l)) => HPe1
            rename Hid ((List.map Im.e its2).Perm (List.map En.plain l)) => HPe
            obtain ⟨k, hk, rfl, HP, HSo⟩ := hrel
            by_cases hkl : k < l.length
            · skip
              obtain ⟨eb, eo, cpx, hv, hab, hR⟩ := HW0.out.at0 k hkl
              injection hv with hv1 _ hv3
              subst hv1
              subst hv3
              obtain ⟨i0, hi0, hie, hf⟩ := fnd_entry HSo.out.dct.sorted HPe.out (List.getElem_mem hkl)
              have HCE : Hid (∀ x, Below w.heap.size w x → x.rangeAt eb (eo + k * 14) (enC l[k])) := fun x hb => rng_below hR hb hab
              have hGet : Hid (∀ x, Below wr.heap.size wr x → Calls Try.prog 15 #[.pointer (some ⟨D, 0, none⟩), .int .u16 l[k].ix, .int .u8 l[k].sb] x fun e w' => e = .returned (.tuple #[.agg (getV its2 l[k].ix l[k].sb).arr, .int .i64 0]) ∧ Below x.heap.size x w') := fun x hb => by
                have := Get_any (HSo.out.dct.below hb) l[k].ix l[k].sb l[k].hix l[k].hsb
                have e2 : getE its2 l[k].ix l[k].sb = 0 := by unfold getE; rw [hf]
                rw [e2] at this
                exact this
              have HSS : Hid (∀ x, Below wr.heap.size wr x → x.cell? ⟨X, 0, none⟩ = some (.pointer (some ⟨D, 0, none⟩)) ∧ x.cell? ⟨eb, eo + k * 14, none⟩ = some (.int .u16 l[k].ix) ∧ x.cell? ⟨eb, eo + k * 14 + 1, none⟩ = some (.int .u8 l[k].sb)) := fun x hb =>
                have hS := HSo.out.next hb
                ⟨hS.c.1, HCE.out x hS.below 0 _ rfl, HCE.out x hS.below 1 _ rfl⟩
              have HMK := hidOf2 (show ∀ h, (l.map (fun e : En => getV its e.ix e.sb))[k]'h = getV its l[k].ix l[k].sb from fun h => by simp)
              have HAK := hidOf2 (HAp.out l[k] (List.getElem_mem hkl))
              clear hie hf hi0 hR
              generalize l[k] = E8 at *
              have S0 := HSS.out wr.drew (bdr (Below.refl _ _) 1)
              go_upto_region 16 with fail
              refine wp_region_held (S := fun x => x.cell? ⟨X, 0, none⟩ = some (.pointer (some ⟨D, 0, none⟩)) ∧ x.cell? ⟨eb, eo + k * 14, none⟩ = some (.int .u16 E8.ix) ∧ x.cell? ⟨eb, eo + k * 14 + 1, none⟩ = some (.int .u8 E8.sb)) (by kernel_rfl) ?_
              change wpAnyH _ _ _ _ _ _ _ _ wr.drew
              refine wpAnyH_take (i := 0) (v := (.pointer (some ⟨X, 0, none⟩))) rfl (by kernel_rfl) (by kernel_rfl) (by kernel_rfl) (fun _ _ _ h => h) (.inl ⟨rfl, fun _ hS => rfl⟩) S0 ?_
              simp only [List.getElem_toArray, List.getElem_cons_succ, List.getElem_cons_zero, Act.put, List.setIfInBounds_toArray, List.set_cons_succ, List.set_cons_zero]
              refine wpAnyH_take (i := 1) (v := (.pointer (some ⟨X, 0, none⟩))) rfl (by kernel_rfl) (by kernel_rfl) (by kernel_rfl) (fun _ _ _ h => h) (.inl ⟨rfl, fun _ hS => by simp [execOp, go_sem, Act.eval]⟩) S0 ?_
              simp only [List.getElem_toArray, List.getElem_cons_succ, List.getElem_cons_zero, Act.put, List.setIfInBounds_toArray, List.set_cons_succ, List.set_cons_zero]
              refine wpAnyH_take (i := 2) (v := (.pointer (some ⟨X, 0, none⟩))) rfl (by kernel_rfl) (by kernel_rfl) (by kernel_rfl) (fun _ _ _ h => h) (.inl ⟨rfl, fun _ hS => by simp [execOp, go_sem, Act.eval]⟩) S0 ?_
              simp only [List.getElem_toArray, List.getElem_cons_succ, List.getElem_cons_zero, Act.put, List.setIfInBounds_toArray, List.set_cons_succ, List.set_cons_zero]
              refine wpAnyH_take (i := 3) (v := (.pointer (some ⟨D, 0, none⟩))) rfl (by kernel_rfl) (by kernel_rfl) (by kernel_rfl) (fun _ _ _ h => h) (.inl ⟨rfl, fun _ hS => exec_load rfl rfl (load_pd _ _ _ _ hS.1)⟩) S0 ?_
              simp only [List.getElem_toArray, List.getElem_cons_succ, List.getElem_cons_zero, Act.put, List.setIfInBounds_toArray, List.set_cons_succ, List.set_cons_zero]
              refine wpAnyH_take (i := 4) (v := (.slice (some ⟨eb, eo, none⟩) l.length cp0)) rfl (by kernel_rfl) (by kernel_rfl) (by kernel_rfl) (fun _ _ _ h => h) (.inl ⟨rfl, fun _ hS => rfl⟩) S0 ?_
              simp only [List.getElem_toArray, List.getElem_cons_succ, List.getElem_cons_zero, Act.put, List.setIfInBounds_toArray, List.set_cons_succ, List.set_cons_zero]
              refine wpAnyH_take (i := 5) (v := (.int .i64 (k : Int))) rfl (by kernel_rfl) (by kernel_rfl) (by kernel_rfl) (fun _ _ _ h => h) (.inl ⟨rfl, fun _ hS => rfl⟩) S0 ?_
              simp only [List.getElem_toArray, List.getElem_cons_succ, List.getElem_cons_zero, Act.put, List.setIfInBounds_toArray, List.set_cons_succ, List.set_cons_zero]
              refine wpAnyH_take (i := 6) (v := (.pointer (some ⟨eb, eo + k * 14, none⟩))) rfl (by kernel_rfl) (by kernel_rfl) (by kernel_rfl) (fun _ _ _ h => h) (.inl ⟨rfl, fun _ hS => exec_idxE rfl rfl rfl hkl _⟩) S0 ?_
              simp only [List.getElem_toArray, List.getElem_cons_succ, List.getElem_cons_zero, Act.put, List.setIfInBounds_toArray, List.set_cons_succ, List.set_cons_zero]
              refine wpAnyH_take (i := 7) (v := (.pointer (some ⟨eb, eo + k * 14, none⟩))) rfl (by kernel_rfl) (by kernel_rfl) (by kernel_rfl) (fun _ _ _ h => h) (.inl ⟨rfl, fun _ hS => by simp [execOp, go_sem, Act.eval]⟩) S0 ?_
              simp only [List.getElem_toArray, List.getElem_cons_succ, List.getElem_cons_zero, Act.put, List.setIfInBounds_toArray, List.set_cons_succ, List.set_cons_zero]
              refine wpAnyH_take (i := 8) (v := (.int .u16 E8.ix)) rfl (by kernel_rfl) (by kernel_rfl) (by kernel_rfl) (fun _ _ _ h => h) (.inl ⟨rfl, fun _ hS => exec_load rfl rfl (load_u16 _ _ _ _ hS.2.1)⟩) S0 ?_
              simp only [List.getElem_toArray, List.getElem_cons_succ, List.getElem_cons_zero, Act.put, List.setIfInBounds_toArray, List.set_cons_succ, List.set_cons_zero]
              refine wpAnyH_take (i := 9) (v := (.slice (some ⟨eb, eo, none⟩) l.length cp0)) rfl (by kernel_rfl) (by kernel_rfl) (by kernel_rfl) (fun _ _ _ h => h) (.inl ⟨rfl, fun _ hS => rfl⟩) S0 ?_
              simp only [List.getElem_toArray, List.getElem_cons_succ, List.getElem_cons_zero, Act.put, List.setIfInBounds_toArray, List.set_cons_succ, List.set_cons_zero]
              refine wpAnyH_take (i := 10) (v := (.int .i64 (k : Int))) rfl (by kernel_rfl) (by kernel_rfl) (by kernel_rfl) (fun _ _ _ h => h) (.inl ⟨rfl, fun _ hS => rfl⟩) S0 ?_
              simp only [List.getElem_toArray, List.getElem_cons_succ, List.getElem_cons_zero, Act.put, List.setIfInBounds_toArray, List.set_cons_succ, List.set_cons_zero]
              refine wpAnyH_take (i := 11) (v := (.pointer (some ⟨eb, eo + k * 14, none⟩))) rfl (by kernel_rfl) (by kernel_rfl) (by kernel_rfl) (fun _ _ _ h => h) (.inl ⟨rfl, fun _ hS => exec_idxE rfl rfl rfl hkl _⟩) S0 ?_
              simp only [List.getElem_toArray, List.getElem_cons_succ, List.getElem_cons_zero, Act.put, List.setIfInBounds_toArray, List.set_cons_succ, List.set_cons_zero]
              refine wpAnyH_take (i := 12) (v := (.pointer (some ⟨eb, eo + k * 14 + 1, none⟩))) rfl (by kernel_rfl) (by kernel_rfl) (by kernel_rfl) (fun _ _ _ h => h) (.inl ⟨rfl, fun _ hS => by simp [execOp, go_sem, Act.eval]⟩) S0 ?_
              simp only [List.getElem_toArray, List.getElem_cons_succ, List.getElem_cons_zero, Act.put, List.setIfInBounds_toArray, List.set_cons_succ, List.set_cons_zero]
              refine wpAnyH_take (i := 13) (v := (.int .u8 E8.sb)) rfl (by kernel_rfl) (by kernel_rfl) (by kernel_rfl) (fun _ _ _ h => h) (.inl ⟨rfl, fun _ hS => exec_load rfl rfl (load_u8 _ _ _ _ hS.2.2)⟩) S0 ?_
              simp only [List.getElem_toArray, List.getElem_cons_succ, List.getElem_cons_zero, Act.put, List.setIfInBounds_toArray, List.set_cons_succ, List.set_cons_zero]
              refine wpAnyH_all (rs := [14, 18]) (by kernel_rfl) (by simp) ?_
              intro k hk
              simp only [List.mem_cons, List.mem_nil_iff, or_false] at hk
              rcases hk with rfl | rfl
              · refine wpOp_run rfl rfl (wp_call_fn 15 #[.pointer (some ⟨D, 0, none⟩), .int .u16 E8.ix, .int .u8 E8.sb] (by simp [execOp, go_sem, Act.eval, resolve, invoke, enterG8]) ?_)
                refine (hGet.out wr.drew (bdr (Below.refl _ _) 1)).mono ?_
                rintro e w4 ⟨rfl, b4⟩
                have s4 := HSS.out _ (bdrw b4)
                refine ⟨s4, ?_⟩
                simp only [List.getElem_toArray, List.getElem_cons_succ, List.getElem_cons_zero, Act.put, List.setIfInBounds_toArray, List.set_cons_succ, List.set_cons_zero]
                refine wpAnyH_take (i := 15) (v := (.tuple #[.agg (getV its2 E8.ix E8.sb).arr, .int .i64 0])) rfl (by kernel_rfl) (by kernel_rfl) (by kernel_rfl) (fun _ _ _ h => h) (.inl ⟨rfl, fun _ hS => rfl⟩) s4 ?_
                simp only [List.getElem_toArray, List.getElem_cons_succ, List.getElem_cons_zero, Act.put, List.setIfInBounds_toArray, List.set_cons_succ, List.set_cons_zero]
                refine wpAnyH_take (i := 16) (v := (.agg (getV its2 E8.ix E8.sb).arr)) rfl (by kernel_rfl) (by kernel_rfl) (by kernel_rfl) (fun _ _ _ h => h) (.inl ⟨rfl, fun _ hS => by simp [execOp, go_sem, Act.eval]⟩) s4 ?_
                simp only [List.getElem_toArray, List.getElem_cons_succ, List.getElem_cons_zero, Act.put, List.setIfInBounds_toArray, List.set_cons_succ, List.set_cons_zero]
                refine wpAnyH_take (i := 17) (v := (.int .i64 0)) rfl (by kernel_rfl) (by kernel_rfl) (by kernel_rfl) (fun _ _ _ h => h) (.inl ⟨rfl, fun _ hS => by simp [execOp, go_sem, Act.eval]⟩) s4 ?_
                simp only [List.getElem_toArray, List.getElem_cons_succ, List.getElem_cons_zero, Act.put, List.setIfInBounds_toArray, List.set_cons_succ, List.set_cons_zero]
                refine wpAnyH_all (rs := [18]) (by kernel_rfl) (by simp) ?_
                intro k hk
                simp only [List.mem_cons, List.mem_nil_iff, or_false] at hk
                subst hk
                refine wpOp_run rfl rfl (wp_allocV rfl ?_)
                obtain ⟨q9, hq9⟩ : ∃ q, w4.heap.size = q := ⟨_, rfl⟩
                have g5 := Va.new w4 Vl.nul
                have c5 := (bdrw b4).alloc (bdrw b4).size (.cells Vl.nul.arr 33)
                have s5 := HSS.out _ c5
                have hqr : wr.heap.size ≤ q9 := by rw [← hq9]; exact (bdrw b4).size
                rw [hq9] at g5 ⊢
                generalize w4.alloc (.cells Vl.nul.arr 33) = w5 at *
                refine ⟨s5, ?_⟩
                simp only [List.getElem_toArray, List.getElem_cons_succ, List.getElem_cons_zero, Act.put, List.setIfInBounds_toArray, List.set_cons_succ, List.set_cons_zero]
                refine wpAnyH_all (rs := [19]) (by kernel_rfl) (by simp) ?_
                intro k hk
                simp only [List.mem_cons, List.mem_nil_iff, or_false] at hk
                subst hk
                refine wpOp_run rfl rfl (wp_store_row 33 _ _ rfl q9 (getV its2 E8.ix E8.sb).arr rfl rfl 33 Vl.nul.arr g5 (by rw [Vl.arr_size]; exact infoV) (by rw [Vl.arr_size, Vl.arr_size]) (getV its2 E8.ix E8.sb).one ?_)
                have g6 := g5.row (getV its2 E8.ix E8.sb)
                have c6 := below_row c5 hqr c5.size (q := q9) (getV its2 E8.ix E8.sb).arr
                have s6 := HSS.out _ c6
                refine ⟨s6, ?_⟩
                simp only [List.getElem_toArray, List.getElem_cons_succ, List.getElem_cons_zero, Act.put, List.setIfInBounds_toArray, List.set_cons_succ, List.set_cons_zero]
                refine wpAnyH_take (i := 20) (v := (.int .i64 0)) rfl (by kernel_rfl) (by kernel_rfl) (by kernel_rfl) (fun _ _ _ h => h) (.inl ⟨rfl, fun _ hS => rfl⟩) s6 ?_
                simp only [List.getElem_toArray, List.getElem_cons_succ, List.getElem_cons_zero, Act.put, List.setIfInBounds_toArray, List.set_cons_succ, List.set_cons_zero]
                refine wpAnyH_done (by kernel_rfl) ?_ _
                have G6 := hidOf2 g6
                have C6 := hidOf2 c6
                have O6 := hidOf2 (HSo.out.next c6)
                have P6 := hidOf2 (own_below5 HP.out c6)
                generalize w5.setRow q9 (getV its2 E8.ix E8.sb).arr = w6 at *
                clear s4 s5 s6 g6 g5 S0 HSS hGet c5 c6 hqr HSo HP
                obtain ⟨V2, hV2⟩ : ∃ V2, getV its2 E8.ix E8.sb = V2 := ⟨_, rfl⟩
                obtain ⟨V1, hV1⟩ : ∃ V1, getV its E8.ix E8.sb = V1 := ⟨_, rfl⟩
                rw [hV2] at G6 HAK ⊢
                rw [hV1] at HAK HMK
                have g6 := G6.out
                obtain ⟨wb, wo, wcp, hvw, hwb, hrW⟩ := (wide_of_own DV P6.out).at0 k (by simpa using hkl)
                rw [HMK.out] at hrW
                injection hvw with hvw1 _ hvw3
                subst hvw1
                subst hvw3
                have hrW : w6.rangeAt wb (wo + k * 3) (vlC V1) := hrW
                have hkw : k < nw := by rw [← hnw]; simpa using hkl
                have hLq := Later.some w6
                have kE0 : ∀ x : Later w6, x.now.cell? ⟨eb, eo + k * 14, none⟩ = some (.int .u16 E8.ix) := fun x => HCE.out x.now (O6.out.next x.below).below 0 _ rfl
                have kE1 : ∀ x : Later w6, x.now.cell? ⟨eb, eo + k * 14 + 1, none⟩ = some (.int .u8 E8.sb) := fun x => HCE.out x.now (O6.out.next x.below).below 1 _ rfl
                have kA1 : ∀ x : Later w6, x.now.cell? ⟨qa, 1, none⟩ = some (.int .u16 a.ix) := fun x => (O6.out.next x.below).c.2.2.1
                have kA2 : ∀ x : Later w6, x.now.cell? ⟨qa, 2, none⟩ = some (.int .u8 a.sb) := fun x => (O6.out.next x.below).c.2.2.2.1
                go_upto_region 17 with fail
                cases hB : vlB V2 V1
                · have hpl : E8.ix = a.ix ∧ E8.sb = a.sb := by
                    by_cases h1 : E8.ix = a.ix
                    · by_cases h2 : E8.sb = a.sb
                      · exact ⟨h1, h2⟩
                      · have := HAK.out (.inr h2)
                        rw [this, vlB_same] at hB; cases hB
                    · have := HAK.out (.inl h1)
                      rw [this, vlB_same] at hB; cases hB
                  rw [hpl.1] at kE0
                  rw [hpl.2] at kE1
                  refine wp_region_later (by kernel_rfl) (by kernel_rfl) ?_
                  repeat (go_big_quiet_step (fail))
                  refine quiet_ldv g6 rfl _ rfl rfl ?_
                  simp only [Act.put, List.setIfInBounds_toArray, List.set_cons_succ, List.set_cons_zero]
                  repeat (go_big_quiet_step (fail))
                  refine quiet_pure (.pointer (some ⟨wb, wo + k * 3, none⟩)) rfl (fun w => exec_idxV rfl rfl rfl hkw w) ?_
                  simp only [Act.put, List.setIfInBounds_toArray, List.set_cons_succ, List.set_cons_zero]
                  refine quiet_ldV hrW hwb rfl _ rfl rfl ?_
                  simp only [Act.put, List.setIfInBounds_toArray, List.set_cons_succ, List.set_cons_zero]
                  refine quiet_neqv V2 V1 rfl _ _ rfl rfl rfl ?_
                  rw [hB]
                  simp only [Bool.not_true, Bool.not_false, Act.put, List.setIfInBounds_toArray, List.set_cons_succ, List.set_cons_zero]
                  repeat (go_big_quiet_step (fail))
                  refine wpQuiet_nil ?_
                  rintro _ ⟨x1, rfl⟩
                  have P9 := hidOf2 (own_below5 P6.out x1.below)
                  have O9 := hidOf2 (O6.out.next x1.below)
                  clear hLq kE0 kE1 kA1 kA2 g6 hrW P6 O6
                  generalize x1.now = w9 at *
                  clear x1
                  go_wp2
                  go_roundw
                  case rel => exact ⟨k + 1, by omega, by go_num, P9, O9⟩
                  case measure => simp [intOf]; omega
                · skip
                  refine wp_region_later (by kernel_rfl) (by kernel_rfl) ?_
                  repeat (go_big_quiet_step (fail))
                  refine quiet_ldv g6 rfl _ rfl rfl ?_
                  simp only [Act.put, List.setIfInBounds_toArray, List.set_cons_succ, List.set_cons_zero]
                  repeat (go_big_quiet_step (fail))
                  refine quiet_pure (.pointer (some ⟨wb, wo + k * 3, none⟩)) rfl (fun w => exec_idxV rfl rfl rfl hkw w) ?_
                  simp only [Act.put, List.setIfInBounds_toArray, List.set_cons_succ, List.set_cons_zero]
                  refine quiet_ldV hrW hwb rfl _ rfl rfl ?_
                  simp only [Act.put, List.setIfInBounds_toArray, List.set_cons_succ, List.set_cons_zero]
                  refine quiet_neqv V2 V1 rfl _ _ rfl rfl rfl ?_
                  rw [hB]
                  simp only [Bool.not_true, Bool.not_false, Act.put, List.setIfInBounds_toArray, List.set_cons_succ, List.set_cons_zero]
                  repeat (go_big_quiet_step (fail))
                  refine wpQuiet_nil ?_
                  rintro _ ⟨x1, rfl⟩
                  have P9 := hidOf2 (own_below5 P6.out x1.below)
                  have O9 := hidOf2 (O6.out.next x1.below)
                  clear hLq kE0 kE1 kA1 kA2 g6 hrW P6 O6
                  generalize x1.now = w9 at *
                  clear x1
                  go_wp2
                  go_roundw
                  case rel => exact ⟨k + 1, by omega, by go_num, P9, O9⟩
                  case measure => simp [intOf]; omega
              · refine wpOp_run rfl rfl (wp_allocV rfl ?_)
                obtain ⟨q9, hq9⟩ : ∃ q, wr.drew.heap.size = q := ⟨_, rfl⟩
                have g4 := Va.new wr.drew Vl.nul
                have b4 : Below wr.heap.size wr (wr.drew.alloc (.cells Vl.nul.arr 33)) := (bdr (Below.refl _ _) 1).alloc (Nat.le_refl _) _
                have s4 := HSS.out _ b4
                have hqr : wr.heap.size ≤ q9 := by rw [← hq9]; exact Nat.le_refl _
                rw [hq9] at g4 ⊢
                generalize wr.drew.alloc (.cells Vl.nul.arr 33) = w4 at *
                refine ⟨s4, ?_⟩
                simp only [List.getElem_toArray, List.getElem_cons_succ, List.getElem_cons_zero, Act.put, List.setIfInBounds_toArray, List.set_cons_succ, List.set_cons_zero]
                refine wpAnyH_all (rs := [14]) (by kernel_rfl) (by simp) ?_
                intro k hk
                simp only [List.mem_cons, List.mem_nil_iff, or_false] at hk
                subst hk
                refine wpOp_run rfl rfl (wp_call_fn 15 #[.pointer (some ⟨D, 0, none⟩), .int .u16 E8.ix, .int .u8 E8.sb] (by simp [execOp, go_sem, Act.eval, resolve, invoke, enterG8]) ?_)
                refine (hGet.out w4 b4).mono ?_
                rintro e w5 ⟨rfl, b5⟩
                have g5 := g4.below b5
                have c5 := b4.trans (b5.mono b4.size)
                have s5 := HSS.out _ c5
                refine ⟨s5, ?_⟩
                simp only [List.getElem_toArray, List.getElem_cons_succ, List.getElem_cons_zero, Act.put, List.setIfInBounds_toArray, List.set_cons_succ, List.set_cons_zero]
                refine wpAnyH_take (i := 15) (v := (.tuple #[.agg (getV its2 E8.ix E8.sb).arr, .int .i64 0])) rfl (by kernel_rfl) (by kernel_rfl) (by kernel_rfl) (fun _ _ _ h => h) (.inl ⟨rfl, fun _ hS => rfl⟩) s5 ?_
                simp only [List.getElem_toArray, List.getElem_cons_succ, List.getElem_cons_zero, Act.put, List.setIfInBounds_toArray, List.set_cons_succ, List.set_cons_zero]
                refine wpAnyH_take (i := 16) (v := (.agg (getV its2 E8.ix E8.sb).arr)) rfl (by kernel_rfl) (by kernel_rfl) (by kernel_rfl) (fun _ _ _ h => h) (.inl ⟨rfl, fun _ hS => by simp [execOp, go_sem, Act.eval]⟩) s5 ?_
                simp only [List.getElem_toArray, List.getElem_cons_succ, List.getElem_cons_zero, Act.put, List.setIfInBounds_toArray, List.set_cons_succ, List.set_cons_zero]
                refine wpAnyH_take (i := 17) (v := (.int .i64 0)) rfl (by kernel_rfl) (by kernel_rfl) (by kernel_rfl) (fun _ _ _ h => h) (.inl ⟨rfl, fun _ hS => by simp [execOp, go_sem, Act.eval]⟩) s5 ?_
                simp only [List.getElem_toArray, List.getElem_cons_succ, List.getElem_cons_zero, Act.put, List.setIfInBounds_toArray, List.set_cons_succ, List.set_cons_zero]
                refine wpAnyH_all (rs := [19]) (by kernel_rfl) (by simp) ?_
                intro k hk
                simp only [List.mem_cons, List.mem_nil_iff, or_false] at hk
                subst hk
                refine wpOp_run rfl rfl (wp_store_row 33 _ _ rfl q9 (getV its2 E8.ix E8.sb).arr rfl rfl 33 Vl.nul.arr g5 (by rw [Vl.arr_size]; exact infoV) (by rw [Vl.arr_size, Vl.arr_size]) (getV its2 E8.ix E8.sb).one ?_)
                have g6 := g5.row (getV its2 E8.ix E8.sb)
                have c6 := below_row c5 hqr c5.size (q := q9) (getV its2 E8.ix E8.sb).arr
                have s6 := HSS.out _ c6
                refine ⟨s6, ?_⟩
                simp only [List.getElem_toArray, List.getElem_cons_succ, List.getElem_cons_zero, Act.put, List.setIfInBounds_toArray, List.set_cons_succ, List.set_cons_zero]
                refine wpAnyH_take (i := 20) (v := (.int .i64 0)) rfl (by kernel_rfl) (by kernel_rfl) (by kernel_rfl) (fun _ _ _ h => h) (.inl ⟨rfl, fun _ hS => rfl⟩) s6 ?_
                simp only [List.getElem_toArray, List.getElem_cons_succ, List.getElem_cons_zero, Act.put, List.setIfInBounds_toArray, List.set_cons_succ, List.set_cons_zero]
                refine wpAnyH_done (by kernel_rfl) ?_ _
                have G6 := hidOf2 g6
                have C6 := hidOf2 c6
                have O6 := hidOf2 (HSo.out.next c6)
                have P6 := hidOf2 (own_below5 HP.out c6)
                generalize w5.setRow q9 (getV its2 E8.ix E8.sb).arr = w6 at *
                clear s4 s5 s6 g6 g5 S0 HSS hGet c5 c6 hqr HSo HP
                obtain ⟨V2, hV2⟩ : ∃ V2, getV its2 E8.ix E8.sb = V2 := ⟨_, rfl⟩
                obtain ⟨V1, hV1⟩ : ∃ V1, getV its E8.ix E8.sb = V1 := ⟨_, rfl⟩
                rw [hV2] at G6 HAK ⊢
                rw [hV1] at HAK HMK
                have g6 := G6.out
                obtain ⟨wb, wo, wcp, hvw, hwb, hrW⟩ := (wide_of_own DV P6.out).at0 k (by simpa using hkl)
                rw [HMK.out] at hrW
                injection hvw with hvw1 _ hvw3
                subst hvw1
                subst hvw3
                have hrW : w6.rangeAt wb (wo + k * 3) (vlC V1) := hrW
                have hkw : k < nw := by rw [← hnw]; simpa using hkl
                have hLq := Later.some w6
                have kE0 : ∀ x : Later w6, x.now.cell? ⟨eb, eo + k * 14, none⟩ = some (.int .u16 E8.ix) := fun x => HCE.out x.now (O6.out.next x.below).below 0 _ rfl
                have kE1 : ∀ x : Later w6, x.now.cell? ⟨eb, eo + k * 14 + 1, none⟩ = some (.int .u8 E8.sb) := fun x => HCE.out x.now (O6.out.next x.below).below 1 _ rfl
                have kA1 : ∀ x : Later w6, x.now.cell? ⟨qa, 1, none⟩ = some (.int .u16 a.ix) := fun x => (O6.out.next x.below).c.2.2.1
                have kA2 : ∀ x : Later w6, x.now.cell? ⟨qa, 2, none⟩ = some (.int .u8 a.sb) := fun x => (O6.out.next x.below).c.2.2.2.1
                go_upto_region 17 with fail
                cases hB : vlB V2 V1
                · have hpl : E8.ix = a.ix ∧ E8.sb = a.sb := by
                    by_cases h1 : E8.ix = a.ix
                    · by_cases h2 : E8.sb = a.sb
                      · exact ⟨h1, h2⟩
                      · have := HAK.out (.inr h2)
                        rw [this, vlB_same] at hB; cases hB
                    · have := HAK.out (.inl h1)
                      rw [this, vlB_same] at hB; cases hB
                  rw [hpl.1] at kE0
                  rw [hpl.2] at kE1
                  refine wp_region_later (by kernel_rfl) (by kernel_rfl) ?_
                  repeat (go_big_quiet_step (fail))
                  refine quiet_ldv g6 rfl _ rfl rfl ?_
                  simp only [Act.put, List.setIfInBounds_toArray, List.set_cons_succ, List.set_cons_zero]
                  repeat (go_big_quiet_step (fail))
                  refine quiet_pure (.pointer (some ⟨wb, wo + k * 3, none⟩)) rfl (fun w => exec_idxV rfl rfl rfl hkw w) ?_
                  simp only [Act.put, List.setIfInBounds_toArray, List.set_cons_succ, List.set_cons_zero]
                  refine quiet_ldV hrW hwb rfl _ rfl rfl ?_
                  simp only [Act.put, List.setIfInBounds_toArray, List.set_cons_succ, List.set_cons_zero]
                  refine quiet_neqv V2 V1 rfl _ _ rfl rfl rfl ?_
                  rw [hB]
                  simp only [Bool.not_true, Bool.not_false, Act.put, List.setIfInBounds_toArray, List.set_cons_succ, List.set_cons_zero]
                  repeat (go_big_quiet_step (fail))
                  refine wpQuiet_nil ?_
                  rintro _ ⟨x1, rfl⟩
                  have P9 := hidOf2 (own_below5 P6.out x1.below)
                  have O9 := hidOf2 (O6.out.next x1.below)
                  clear hLq kE0 kE1 kA1 kA2 g6 hrW P6 O6
                  generalize x1.now = w9 at *
                  clear x1
                  go_wp2
                  go_roundw
                  case rel => exact ⟨k + 1, by omega, by go_num, P9, O9⟩
                  case measure => simp [intOf]; omega
                · skip
                  refine wp_region_later (by kernel_rfl) (by kernel_rfl) ?_
                  repeat (go_big_quiet_step (fail))
                  refine quiet_ldv g6 rfl _ rfl rfl ?_
                  simp only [Act.put, List.setIfInBounds_toArray, List.set_cons_succ, List.set_cons_zero]
                  repeat (go_big_quiet_step (fail))
                  refine quiet_pure (.pointer (some ⟨wb, wo + k * 3, none⟩)) rfl (fun w => exec_idxV rfl rfl rfl hkw w) ?_
                  simp only [Act.put, List.setIfInBounds_toArray, List.set_cons_succ, List.set_cons_zero]
                  refine quiet_ldV hrW hwb rfl _ rfl rfl ?_
                  simp only [Act.put, List.setIfInBounds_toArray, List.set_cons_succ, List.set_cons_zero]
                  refine quiet_neqv V2 V1 rfl _ _ rfl rfl rfl ?_
                  rw [hB]
                  simp only [Bool.not_true, Bool.not_false, Act.put, List.setIfInBounds_toArray, List.set_cons_succ, List.set_cons_zero]
                  repeat (go_big_quiet_step (fail))
                  refine wpQuiet_nil ?_
                  rintro _ ⟨x1, rfl⟩
                  have P9 := hidOf2 (own_below5 P6.out x1.below)
                  have O9 := hidOf2 (O6.out.next x1.below)
                  clear hLq kE0 kE1 kA1 kA2 g6 hrW P6 O6
                  generalize x1.now = w9 at *
                  clear x1
                  go_wp2
                  go_roundw
                  case rel => exact ⟨k + 1, by omega, by go_num, P9, O9⟩
                  case measure => simp [intOf]; omega
            · have hS := hL8 wr
              go_wp2_with fail
              refine hS.mono ?_
              rintro e w3 ⟨rfl, b3⟩
              have B3 := HSo.out.below.trans (b3.mono HSo.out.below.size)
              clear hS
              go_wp2
              go_ret
              exact ⟨rfl, B3⟩
        · have dk : (a.kind == 1) = false := by simpa using hkd
          have HSS : Hid (∀ x, Below wr.heap.size wr x → x.cell? ⟨X, 0, none⟩ = some (.pointer (some ⟨D, 0, none⟩)) ∧ x.cell? ⟨qa, 1, none⟩ = some (.int .u16 a.ix) ∧ x.cell? ⟨qa, 2, none⟩ = some (.int .u8 a.sb) ∧ x.rangeAt qa 4 (vlC a.v)) := fun x hb =>
            have hS := HSo.out.next hb
            ⟨hS.c.1, hS.c.2.2.1, hS.c.2.2.2.1, hS.r4⟩
          have HSO : Hid (∀ (its' : List Im) x, So w X D R E qa a its' x → x.cell? ⟨X, 0, none⟩ = some (.pointer (some ⟨D, 0, none⟩)) ∧ x.cell? ⟨qa, 1, none⟩ = some (.int .u16 a.ix) ∧ x.cell? ⟨qa, 2, none⟩ = some (.int .u8 a.sb) ∧ x.rangeAt qa 4 (vlC a.v)) := fun its' x hS => ⟨hS.c.1, hS.c.2.2.1, hS.c.2.2.2.1, hS.r4⟩
          have S0 := HSS.out wr.drew b0
          go_upto_region 12 with fail
          clear ck hbv
          refine wp_region_held (S := fun x => x.cell? ⟨X, 0, none⟩ = some (.pointer (some ⟨D, 0, none⟩)) ∧ x.cell? ⟨qa, 1, none⟩ = some (.int .u16 a.ix) ∧ x.cell? ⟨qa, 2, none⟩ = some (.int .u8 a.sb) ∧ x.rangeAt qa 4 (vlC a.v)) (by kernel_rfl) ?_
          change wpAnyH _ _ _ _ _ _ _ _ wr.drew
          refine wpAnyH_take (i := 0) (v := (.pointer (some ⟨X, 0, none⟩))) rfl (by kernel_rfl) (by kernel_rfl) (by kernel_rfl) (fun _ _ _ h => h) (.inl ⟨rfl, fun _ hS => rfl⟩) S0 ?_
          simp only [List.getElem_toArray, List.getElem_cons_succ, List.getElem_cons_zero, Act.put, List.setIfInBounds_toArray, List.set_cons_succ, List.set_cons_zero]
          refine wpAnyH_take (i := 1) (v := (.pointer (some ⟨X, 0, none⟩))) rfl (by kernel_rfl) (by kernel_rfl) (by kernel_rfl) (fun _ _ _ h => h) (.inl ⟨rfl, fun _ hS => by simp [execOp, go_sem, Act.eval]⟩) S0 ?_
          simp only [List.getElem_toArray, List.getElem_cons_succ, List.getElem_cons_zero, Act.put, List.setIfInBounds_toArray, List.set_cons_succ, List.set_cons_zero]
          refine wpAnyH_take (i := 2) (v := (.pointer (some ⟨X, 0, none⟩))) rfl (by kernel_rfl) (by kernel_rfl) (by kernel_rfl) (fun _ _ _ h => h) (.inl ⟨rfl, fun _ hS => by simp [execOp, go_sem, Act.eval]⟩) S0 ?_
          simp only [List.getElem_toArray, List.getElem_cons_succ, List.getElem_cons_zero, Act.put, List.setIfInBounds_toArray, List.set_cons_succ, List.set_cons_zero]
          refine wpAnyH_take (i := 3) (v := (.pointer (some ⟨D, 0, none⟩))) rfl (by kernel_rfl) (by kernel_rfl) (by kernel_rfl) (fun _ _ _ h => h) (.inl ⟨rfl, fun _ hS => exec_load rfl rfl (load_pd _ _ _ _ hS.1)⟩) S0 ?_
          simp only [List.getElem_toArray, List.getElem_cons_succ, List.getElem_cons_zero, Act.put, List.setIfInBounds_toArray, List.set_cons_succ, List.set_cons_zero]
          refine wpAnyH_take (i := 4) (v := (.pointer (some ⟨qa, 1, none⟩))) rfl (by kernel_rfl) (by kernel_rfl) (by kernel_rfl) (fun _ _ _ h => h) (.inl ⟨rfl, fun _ hS => by simp [execOp, go_sem, Act.eval]⟩) S0 ?_
          simp only [List.getElem_toArray, List.getElem_cons_succ, List.getElem_cons_zero, Act.put, List.setIfInBounds_toArray, List.set_cons_succ, List.set_cons_zero]
          refine wpAnyH_take (i := 5) (v := (.int .u16 a.ix)) rfl (by kernel_rfl) (by kernel_rfl) (by kernel_rfl) (fun _ _ _ h => h) (.inl ⟨rfl, fun _ hS => exec_load rfl rfl (load_u16 _ _ _ _ hS.2.1)⟩) S0 ?_
          simp only [List.getElem_toArray, List.getElem_cons_succ, List.getElem_cons_zero, Act.put, List.setIfInBounds_toArray, List.set_cons_succ, List.set_cons_zero]
          refine wpAnyH_take (i := 6) (v := (.pointer (some ⟨qa, 2, none⟩))) rfl (by kernel_rfl) (by kernel_rfl) (by kernel_rfl) (fun _ _ _ h => h) (.inl ⟨rfl, fun _ hS => by simp [execOp, go_sem, Act.eval]⟩) S0 ?_
          simp only [List.getElem_toArray, List.getElem_cons_succ, List.getElem_cons_zero, Act.put, List.setIfInBounds_toArray, List.set_cons_succ, List.set_cons_zero]
          refine wpAnyH_take (i := 7) (v := (.int .u8 a.sb)) rfl (by kernel_rfl) (by kernel_rfl) (by kernel_rfl) (fun _ _ _ h => h) (.inl ⟨rfl, fun _ hS => exec_load rfl rfl (load_u8 _ _ _ _ hS.2.2.1)⟩) S0 ?_
          simp only [List.getElem_toArray, List.getElem_cons_succ, List.getElem_cons_zero, Act.put, List.setIfInBounds_toArray, List.set_cons_succ, List.set_cons_zero]
          refine wpAnyH_take (i := 8) (v := (.pointer (some ⟨qa, 4, none⟩))) rfl (by kernel_rfl) (by kernel_rfl) (by kernel_rfl) (fun _ _ _ h => h) (.inl ⟨rfl, fun _ hS => by simp [execOp, go_sem, Act.eval]⟩) S0 ?_
          simp only [List.getElem_toArray, List.getElem_cons_succ, List.getElem_cons_zero, Act.put, List.setIfInBounds_toArray, List.set_cons_succ, List.set_cons_zero]
          refine wpAnyH_take (i := 9) (v := (.agg a.v.arr)) rfl (by kernel_rfl) (by kernel_rfl) (by kernel_rfl) (fun _ _ _ h => h) (.inl ⟨rfl, fun _ hS => exec_load rfl rfl (run_ldV hS.2.2.2)⟩) S0 ?_
          simp only [List.getElem_toArray, List.getElem_cons_succ, List.getElem_cons_zero, Act.put, List.setIfInBounds_toArray, List.set_cons_succ, List.set_cons_zero]
          refine wpAnyH_all (rs := [10]) (by kernel_rfl) (by simp) ?_
          intro k hk
          simp only [List.mem_cons, List.mem_nil_iff, or_false] at hk
          subst hk
          refine wpOp_run rfl rfl (wp_call_fn 20 #[.pointer (some ⟨D, 0, none⟩), .int .u16 a.ix, .int .u8 a.sb, .agg a.v.arr] (by simp [execOp, go_sem, Act.eval, resolve, invoke, enterS8]) ?_)
          have O7 := HSo.out.next b0
          have Q7 := own_below5 HPw.out b0
          refine (Set_any O7.dct a.ix a.sb a.hix a.hsb a.v).mono ?_
          rintro e w8 ⟨rfl, D8, K8⟩
          have O8 := O7.kp D8 K8 (((⟨rfl, rfl⟩ : Al (its.map Im.e) (its.map Im.b) its).sett a.ix a.sb a.v).b)
          have Q8 := own_kp Q7 O7.dct K8
          have s8 := HSO.out _ _ O8
          refine ⟨s8, ?_⟩
          simp only [List.getElem_toArray, List.getElem_cons_succ, List.getElem_cons_zero, Act.put, List.setIfInBounds_toArray, List.set_cons_succ, List.set_cons_zero]
          refine wpAnyH_done (by kernel_rfl) ?_ _
          obtain ⟨its2, hits2⟩ : ∃ its2, sett its a.ix a.sb a.v = its2 := ⟨_, rfl⟩
          have HAl2 : Hid (Al (its.map Im.e) (its.map Im.b) its2) := hits2 ▸ (⟨rfl, rfl⟩ : Al (its.map Im.e) (its.map Im.b) its).sett a.ix a.sb a.v
          have HAp : Hid (∀ e ∈ l, e.ix ≠ a.ix ∨ e.sb ≠ a.sb → getV its2 e.ix e.sb = getV its e.ix e.sb) := fun e _ hne => by rw [← hits2]; exact apart_sett HSo.out.dct.apart hne a.v
          rw [hits2] at O8
          have HSz := hidOf2 O8
          have HPz := hidOf2 Q8
          clear s8 O7 O8 Q7 Q8 D8 K8 S0 HSS HSO HSo HPw hits2
          have HPe2 : Hid ((its2.map Im.e).Perm (l.map En.plain)) := by rw [HAl2.out.e]; exact HPe
          go_wp2
          go_loopw [11] (fun s11 x => ∃ k : Nat, k ≤ l.length ∧ s11 = .int .i64 k ∧ Hid (x.ownsRow w.heap.size 33 3 (.slice aw nw cw) (l.map (fun e : En => getV its e.ix e.sb)).length (flatW DV (l.map (fun e : En => getV its e.ix e.sb)))) ∧ Hid (So w X D R E qa a its2 x)) (fun s11 _ => l.length - (intOf s11).toNat)
          case atStart => exact ⟨0, Nat.zero_le _, rfl, HPz, HSz⟩
          case round =>
            clear HPz HSz
            rename Hid ((List.map Im.e its).Perm (List.map En.plain l)) => HPe1
            rename Hid ((List.map Im.e its2).Perm (List.map En.plain l)) => HPe
            obtain ⟨k, hk, rfl, HP, HSo⟩ := hrel
            by_cases hkl : k < l.length
            · skip
              obtain ⟨eb, eo, cpx, hv, hab, hR⟩ := HW0.out.at0 k hkl
              injection hv with hv1 _ hv3
              subst hv1
              subst hv3
              obtain ⟨i0, hi0, hie, hf⟩ := fnd_entry HSo.out.dct.sorted HPe.out (List.getElem_mem hkl)
              have HCE : Hid (∀ x, Below w.heap.size w x → x.rangeAt eb (eo + k * 14) (enC l[k])) := fun x hb => rng_below hR hb hab
              have hGet : Hid (∀ x, Below wr.heap.size wr x → Calls Try.prog 15 #[.pointer (some ⟨D, 0, none⟩), .int .u16 l[k].ix, .int .u8 l[k].sb] x fun e w' => e = .returned (.tuple #[.agg (getV its2 l[k].ix l[k].sb).arr, .int .i64 0]) ∧ Below x.heap.size x w') := fun x hb => by
                have := Get_any (HSo.out.dct.below hb) l[k].ix l[k].sb l[k].hix l[k].hsb
                have e2 : getE its2 l[k].ix l[k].sb = 0 := by unfold getE; rw [hf]
                rw [e2] at this
                exact this
              have HSS : Hid (∀ x, Below wr.heap.size wr x → x.cell? ⟨X, 0, none⟩ = some (.pointer (some ⟨D, 0, none⟩)) ∧ x.cell? ⟨eb, eo + k * 14, none⟩ = some (.int .u16 l[k].ix) ∧ x.cell? ⟨eb, eo + k * 14 + 1, none⟩ = some (.int .u8 l[k].sb)) := fun x hb =>
                have hS := HSo.out.next hb
                ⟨hS.c.1, HCE.out x hS.below 0 _ rfl, HCE.out x hS.below 1 _ rfl⟩
              have HMK := hidOf2 (show ∀ h, (l.map (fun e : En => getV its e.ix e.sb))[k]'h = getV its l[k].ix l[k].sb from fun h => by simp)
              have HAK := hidOf2 (HAp.out l[k] (List.getElem_mem hkl))
              clear hie hf hi0 hR
              generalize l[k] = E8 at *
              have S0 := HSS.out wr.drew (bdr (Below.refl _ _) 1)
              go_upto_region 16 with fail
              refine wp_region_held (S := fun x => x.cell? ⟨X, 0, none⟩ = some (.pointer (some ⟨D, 0, none⟩)) ∧ x.cell? ⟨eb, eo + k * 14, none⟩ = some (.int .u16 E8.ix) ∧ x.cell? ⟨eb, eo + k * 14 + 1, none⟩ = some (.int .u8 E8.sb)) (by kernel_rfl) ?_
              change wpAnyH _ _ _ _ _ _ _ _ wr.drew
              refine wpAnyH_take (i := 0) (v := (.pointer (some ⟨X, 0, none⟩))) rfl (by kernel_rfl) (by kernel_rfl) (by kernel_rfl) (fun _ _ _ h => h) (.inl ⟨rfl, fun _ hS => rfl⟩) S0 ?_
              simp only [List.getElem_toArray, List.getElem_cons_succ, List.getElem_cons_zero, Act.put, List.setIfInBounds_toArray, List.set_cons_succ, List.set_cons_zero]
              refine wpAnyH_take (i := 1) (v := (.pointer (some ⟨X, 0, none⟩))) rfl (by kernel_rfl) (by kernel_rfl) (by kernel_rfl) (fun _ _ _ h => h) (.inl ⟨rfl, fun _ hS => by simp [execOp, go_sem, Act.eval]⟩) S0 ?_
              simp only [List.getElem_toArray, List.getElem_cons_succ, List.getElem_cons_zero, Act.put, List.setIfInBounds_toArray, List.set_cons_succ, List.set_cons_zero]
              refine wpAnyH_take (i := 2) (v := (.pointer (some ⟨X, 0, none⟩))) rfl (by kernel_rfl) (by kernel_rfl) (by kernel_rfl) (fun _ _ _ h => h) (.inl ⟨rfl, fun _ hS => by simp [execOp, go_sem, Act.eval]⟩) S0 ?_
              simp only [List.getElem_toArray, List.getElem_cons_succ, List.getElem_cons_zero, Act.put, List.setIfInBounds_toArray, List.set_cons_succ, List.set_cons_zero]
              refine wpAnyH_take (i := 3) (v := (.pointer (some ⟨D, 0, none⟩))) rfl (by kernel_rfl) (by kernel_rfl) (by kernel_rfl) (fun _ _ _ h => h) (.inl ⟨rfl, fun _ hS => exec_load rfl rfl (load_pd _ _ _ _ hS.1)⟩) S0 ?_
              simp only [List.getElem_toArray, List.getElem_cons_succ, List.getElem_cons_zero, Act.put, List.setIfInBounds_toArray, List.set_cons_succ, List.set_cons_zero]
              refine wpAnyH_take (i := 4) (v := (.slice (some ⟨eb, eo, none⟩) l.length cp0)) rfl (by kernel_rfl) (by kernel_rfl) (by kernel_rfl) (fun _ _ _ h => h) (.inl ⟨rfl, fun _ hS => rfl⟩) S0 ?_
              simp only [List.getElem_toArray, List.getElem_cons_succ, List.getElem_cons_zero, Act.put, List.setIfInBounds_toArray, List.set_cons_succ, List.set_cons_zero]
              refine wpAnyH_take (i := 5) (v := (.int .i64 (k : Int))) rfl (by kernel_rfl) (by kernel_rfl) (by kernel_rfl) (fun _ _ _ h => h) (.inl ⟨rfl, fun _ hS => rfl⟩) S0 ?_
              simp only [List.getElem_toArray, List.getElem_cons_succ, List.getElem_cons_zero, Act.put, List.setIfInBounds_toArray, List.set_cons_succ, List.set_cons_zero]
              refine wpAnyH_take (i := 6) (v := (.pointer (some ⟨eb, eo + k * 14, none⟩))) rfl (by kernel_rfl) (by kernel_rfl) (by kernel_rfl) (fun _ _ _ h => h) (.inl ⟨rfl, fun _ hS => exec_idxE rfl rfl rfl hkl _⟩) S0 ?_
              simp only [List.getElem_toArray, List.getElem_cons_succ, List.getElem_cons_zero, Act.put, List.setIfInBounds_toArray, List.set_cons_succ, List.set_cons_zero]
              refine wpAnyH_take (i := 7) (v := (.pointer (some ⟨eb, eo + k * 14, none⟩))) rfl (by kernel_rfl) (by kernel_rfl) (by kernel_rfl) (fun _ _ _ h => h) (.inl ⟨rfl, fun _ hS => by simp [execOp, go_sem, Act.eval]⟩) S0 ?_
              simp only [List.getElem_toArray, List.getElem_cons_succ, List.getElem_cons_zero, Act.put, List.setIfInBounds_toArray, List.set_cons_succ, List.set_cons_zero]
              refine wpAnyH_take (i := 8) (v := (.int .u16 E8.ix)) rfl (by kernel_rfl) (by kernel_rfl) (by kernel_rfl) (fun _ _ _ h => h) (.inl ⟨rfl, fun _ hS => exec_load rfl rfl (load_u16 _ _ _ _ hS.2.1)⟩) S0 ?_
              simp only [List.getElem_toArray, List.getElem_cons_succ, List.getElem_cons_zero, Act.put, List.setIfInBounds_toArray, List.set_cons_succ, List.set_cons_zero]
              refine wpAnyH_take (i := 9) (v := (.slice (some ⟨eb, eo, none⟩) l.length cp0)) rfl (by kernel_rfl) (by kernel_rfl) (by kernel_rfl) (fun _ _ _ h => h) (.inl ⟨rfl, fun _ hS => rfl⟩) S0 ?_
              simp only [List.getElem_toArray, List.getElem_cons_succ, List.getElem_cons_zero, Act.put, List.setIfInBounds_toArray, List.set_cons_succ, List.set_cons_zero]
              refine wpAnyH_take (i := 10) (v := (.int .i64 (k : Int))) rfl (by kernel_rfl) (by kernel_rfl) (by kernel_rfl) (fun _ _ _ h => h) (.inl ⟨rfl, fun _ hS => rfl⟩) S0 ?_
              simp only [List.getElem_toArray, List.getElem_cons_succ, List.getElem_cons_zero, Act.put, List.setIfInBounds_toArray, List.set_cons_succ, List.set_cons_zero]
              refine wpAnyH_take (i := 11) (v := (.pointer (some ⟨eb, eo + k * 14, none⟩))) rfl (by kernel_rfl) (by kernel_rfl) (by kernel_rfl) (fun _ _ _ h => h) (.inl ⟨rfl, fun _ hS => exec_idxE rfl rfl rfl hkl _⟩) S0 ?_
              simp only [List.getElem_toArray, List.getElem_cons_succ, List.getElem_cons_zero, Act.put, List.setIfInBounds_toArray, List.set_cons_succ, List.set_cons_zero]
              refine wpAnyH_take (i := 12) (v := (.pointer (some ⟨eb, eo + k * 14 + 1, none⟩))) rfl (by kernel_rfl) (by kernel_rfl) (by kernel_rfl) (fun _ _ _ h => h) (.inl ⟨rfl, fun _ hS => by simp [execOp, go_sem, Act.eval]⟩) S0 ?_
              simp only [List.getElem_toArray, List.getElem_cons_succ, List.getElem_cons_zero, Act.put, List.setIfInBounds_toArray, List.set_cons_succ, List.set_cons_zero]
              refine wpAnyH_take (i := 13) (v := (.int .u8 E8.sb)) rfl (by kernel_rfl) (by kernel_rfl) (by kernel_rfl) (fun _ _ _ h => h) (.inl ⟨rfl, fun _ hS => exec_load rfl rfl (load_u8 _ _ _ _ hS.2.2)⟩) S0 ?_
              simp only [List.getElem_toArray, List.getElem_cons_succ, List.getElem_cons_zero, Act.put, List.setIfInBounds_toArray, List.set_cons_succ, List.set_cons_zero]
              refine wpAnyH_all (rs := [14, 18]) (by kernel_rfl) (by simp) ?_
              intro k hk
              simp only [List.mem_cons, List.mem_nil_iff, or_false] at hk
              rcases hk with rfl | rfl
              · refine wpOp_run rfl rfl (wp_call_fn 15 #[.pointer (some ⟨D, 0, none⟩), .int .u16 E8.ix, .int .u8 E8.sb] (by simp [execOp, go_sem, Act.eval, resolve, invoke, enterG8]) ?_)
                refine (hGet.out wr.drew (bdr (Below.refl _ _) 1)).mono ?_
                rintro e w4 ⟨rfl, b4⟩
                have s4 := HSS.out _ (bdrw b4)
                refine ⟨s4, ?_⟩
                simp only [List.getElem_toArray, List.getElem_cons_succ, List.getElem_cons_zero, Act.put, List.setIfInBounds_toArray, List.set_cons_succ, List.set_cons_zero]
                refine wpAnyH_take (i := 15) (v := (.tuple #[.agg (getV its2 E8.ix E8.sb).arr, .int .i64 0])) rfl (by kernel_rfl) (by kernel_rfl) (by kernel_rfl) (fun _ _ _ h => h) (.inl ⟨rfl, fun _ hS => rfl⟩) s4 ?_
                simp only [List.getElem_toArray, List.getElem_cons_succ, List.getElem_cons_zero, Act.put, List.setIfInBounds_toArray, List.set_cons_succ, List.set_cons_zero]
                refine wpAnyH_take (i := 16) (v := (.agg (getV its2 E8.ix E8.sb).arr)) rfl (by kernel_rfl) (by kernel_rfl) (by kernel_rfl) (fun _ _ _ h => h) (.inl ⟨rfl, fun _ hS => by simp [execOp, go_sem, Act.eval]⟩) s4 ?_
                simp only [List.getElem_toArray, List.getElem_cons_succ, List.getElem_cons_zero, Act.put, List.setIfInBounds_toArray, List.set_cons_succ, List.set_cons_zero]
                refine wpAnyH_take (i := 17) (v := (.int .i64 0)) rfl (by kernel_rfl) (by kernel_rfl) (by kernel_rfl) (fun _ _ _ h => h) (.inl ⟨rfl, fun _ hS => by simp [execOp, go_sem, Act.eval]⟩) s4 ?_
                simp only [List.getElem_toArray, List.getElem_cons_succ, List.getElem_cons_zero, Act.put, List.setIfInBounds_toArray, List.set_cons_succ, List.set_cons_zero]
                refine wpAnyH_all (rs := [18]) (by kernel_rfl) (by simp) ?_
                intro k hk
                simp only [List.mem_cons, List.mem_nil_iff, or_false] at hk
                subst hk
                refine wpOp_run rfl rfl (wp_allocV rfl ?_)
                obtain ⟨q9, hq9⟩ : ∃ q, w4.heap.size = q := ⟨_, rfl⟩
                have g5 := Va.new w4 Vl.nul
                have c5 := (bdrw b4).alloc (bdrw b4).size (.cells Vl.nul.arr 33)
                have s5 := HSS.out _ c5
                have hqr : wr.heap.size ≤ q9 := by rw [← hq9]; exact (bdrw b4).size
                rw [hq9] at g5 ⊢
                generalize w4.alloc (.cells Vl.nul.arr 33) = w5 at *
                refine ⟨s5, ?_⟩
                simp only [List.getElem_toArray, List.getElem_cons_succ, List.getElem_cons_zero, Act.put, List.setIfInBounds_toArray, List.set_cons_succ, List.set_cons_zero]
                refine wpAnyH_all (rs := [19]) (by kernel_rfl) (by simp) ?_
                intro k hk
                simp only [List.mem_cons, List.mem_nil_iff, or_false] at hk
                subst hk
                refine wpOp_run rfl rfl (wp_store_row 33 _ _ rfl q9 (getV its2 E8.ix E8.sb).arr rfl rfl 33 Vl.nul.arr g5 (by rw [Vl.arr_size]; exact infoV) (by rw [Vl.arr_size, Vl.arr_size]) (getV its2 E8.ix E8.sb).one ?_)
                have g6 := g5.row (getV its2 E8.ix E8.sb)
                have c6 := below_row c5 hqr c5.size (q := q9) (getV its2 E8.ix E8.sb).arr
                have s6 := HSS.out _ c6
                refine ⟨s6, ?_⟩
                simp only [List.getElem_toArray, List.getElem_cons_succ, List.getElem_cons_zero, Act.put, List.setIfInBounds_toArray, List.set_cons_succ, List.set_cons_zero]
                refine wpAnyH_take (i := 20) (v := (.int .i64 0)) rfl (by kernel_rfl) (by kernel_rfl) (by kernel_rfl) (fun _ _ _ h => h) (.inl ⟨rfl, fun _ hS => rfl⟩) s6 ?_
                simp only [List.getElem_toArray, List.getElem_cons_succ, List.getElem_cons_zero, Act.put, List.setIfInBounds_toArray, List.set_cons_succ, List.set_cons_zero]
                refine wpAnyH_done (by kernel_rfl) ?_ _
                have G6 := hidOf2 g6
                have C6 := hidOf2 c6
                have O6 := hidOf2 (HSo.out.next c6)
                have P6 := hidOf2 (own_below5 HP.out c6)
                generalize w5.setRow q9 (getV its2 E8.ix E8.sb).arr = w6 at *
                clear s4 s5 s6 g6 g5 S0 HSS hGet c5 c6 hqr HSo HP
                obtain ⟨V2, hV2⟩ : ∃ V2, getV its2 E8.ix E8.sb = V2 := ⟨_, rfl⟩
                obtain ⟨V1, hV1⟩ : ∃ V1, getV its E8.ix E8.sb = V1 := ⟨_, rfl⟩
                rw [hV2] at G6 HAK ⊢
                rw [hV1] at HAK HMK
                have g6 := G6.out
                obtain ⟨wb, wo, wcp, hvw, hwb, hrW⟩ := (wide_of_own DV P6.out).at0 k (by simpa using hkl)
                rw [HMK.out] at hrW
                injection hvw with hvw1 _ hvw3
                subst hvw1
                subst hvw3
                have hrW : w6.rangeAt wb (wo + k * 3) (vlC V1) := hrW
                have hkw : k < nw := by rw [← hnw]; simpa using hkl
                have hLq := Later.some w6
                have kE0 : ∀ x : Later w6, x.now.cell? ⟨eb, eo + k * 14, none⟩ = some (.int .u16 E8.ix) := fun x => HCE.out x.now (O6.out.next x.below).below 0 _ rfl
                have kE1 : ∀ x : Later w6, x.now.cell? ⟨eb, eo + k * 14 + 1, none⟩ = some (.int .u8 E8.sb) := fun x => HCE.out x.now (O6.out.next x.below).below 1 _ rfl
                have kA1 : ∀ x : Later w6, x.now.cell? ⟨qa, 1, none⟩ = some (.int .u16 a.ix) := fun x => (O6.out.next x.below).c.2.2.1
                have kA2 : ∀ x : Later w6, x.now.cell? ⟨qa, 2, none⟩ = some (.int .u8 a.sb) := fun x => (O6.out.next x.below).c.2.2.2.1
                go_upto_region 17 with fail
                cases hB : vlB V2 V1
                · have hpl : E8.ix = a.ix ∧ E8.sb = a.sb := by
                    by_cases h1 : E8.ix = a.ix
                    · by_cases h2 : E8.sb = a.sb
                      · exact ⟨h1, h2⟩
                      · have := HAK.out (.inr h2)
                        rw [this, vlB_same] at hB; cases hB
                    · have := HAK.out (.inl h1)
                      rw [this, vlB_same] at hB; cases hB
                  rw [hpl.1] at kE0
                  rw [hpl.2] at kE1
                  refine wp_region_later (by kernel_rfl) (by kernel_rfl) ?_
                  repeat (go_big_quiet_step (fail))
                  refine quiet_ldv g6 rfl _ rfl rfl ?_
                  simp only [Act.put, List.setIfInBounds_toArray, List.set_cons_succ, List.set_cons_zero]
                  repeat (go_big_quiet_step (fail))
                  refine quiet_pure (.pointer (some ⟨wb, wo + k * 3, none⟩)) rfl (fun w => exec_idxV rfl rfl rfl hkw w) ?_
                  simp only [Act.put, List.setIfInBounds_toArray, List.set_cons_succ, List.set_cons_zero]
                  refine quiet_ldV hrW hwb rfl _ rfl rfl ?_
                  simp only [Act.put, List.setIfInBounds_toArray, List.set_cons_succ, List.set_cons_zero]
                  refine quiet_neqv V2 V1 rfl _ _ rfl rfl rfl ?_
                  rw [hB]
                  simp only [Bool.not_true, Bool.not_false, Act.put, List.setIfInBounds_toArray, List.set_cons_succ, List.set_cons_zero]
                  repeat (go_big_quiet_step (fail))
                  refine wpQuiet_nil ?_
                  rintro _ ⟨x1, rfl⟩
                  have P9 := hidOf2 (own_below5 P6.out x1.below)
                  have O9 := hidOf2 (O6.out.next x1.below)
                  clear hLq kE0 kE1 kA1 kA2 g6 hrW P6 O6
                  generalize x1.now = w9 at *
                  clear x1
                  go_wp2
                  go_roundw
                  case rel => exact ⟨k + 1, by omega, by go_num, P9, O9⟩
                  case measure => simp [intOf]; omega
                · skip
                  refine wp_region_later (by kernel_rfl) (by kernel_rfl) ?_
                  repeat (go_big_quiet_step (fail))
                  refine quiet_ldv g6 rfl _ rfl rfl ?_
                  simp only [Act.put, List.setIfInBounds_toArray, List.set_cons_succ, List.set_cons_zero]
                  repeat (go_big_quiet_step (fail))
                  refine quiet_pure (.pointer (some ⟨wb, wo + k * 3, none⟩)) rfl (fun w => exec_idxV rfl rfl rfl hkw w) ?_
                  simp only [Act.put, List.setIfInBounds_toArray, List.set_cons_succ, List.set_cons_zero]
                  refine quiet_ldV hrW hwb rfl _ rfl rfl ?_
                  simp only [Act.put, List.setIfInBounds_toArray, List.set_cons_succ, List.set_cons_zero]
                  refine quiet_neqv V2 V1 rfl _ _ rfl rfl rfl ?_
                  rw [hB]
                  simp only [Bool.not_true, Bool.not_false, Act.put, List.setIfInBounds_toArray, List.set_cons_succ, List.set_cons_zero]
                  repeat (go_big_quiet_step (fail))
                  refine wpQuiet_nil ?_
                  rintro _ ⟨x1, rfl⟩
                  have P9 := hidOf2 (own_below5 P6.out x1.below)
                  have O9 := hidOf2 (O6.out.next x1.below)
                  clear hLq kE0 kE1 kA1 kA2 g6 hrW P6 O6
                  generalize x1.now = w9 at *
                  clear x1
                  go_wp2
                  go_roundw
                  case rel => exact ⟨k + 1, by omega, by go_num, P9, O9⟩
                  case measure => simp [intOf]; omega
              · refine wpOp_run rfl rfl (wp_allocV rfl ?_)
                obtain ⟨q9, hq9⟩ : ∃ q, wr.drew.heap.size = q := ⟨_, rfl⟩
                have g4 := Va.new wr.drew Vl.nul
                have b4 : Below wr.heap.size wr (wr.drew.alloc (.cells Vl.nul.arr 33)) := (bdr (Below.refl _ _) 1).alloc (Nat.le_refl _) _
                have s4 := HSS.out _ b4
                have hqr : wr.heap.size ≤ q9 := by rw [← hq9]; exact Nat.le_refl _
                rw [hq9] at g4 ⊢
                generalize wr.drew.alloc (.cells Vl.nul.arr 33) = w4 at *
                refine ⟨s4, ?_⟩
                simp only [List.getElem_toArray, List.getElem_cons_succ, List.getElem_cons_zero, Act.put, List.setIfInBounds_toArray, List.set_cons_succ, List.set_cons_zero]
                refine wpAnyH_all (rs := [14]) (by kernel_rfl) (by simp) ?_
                intro k hk
                simp only [List.mem_cons, List.mem_nil_iff, or_false] at hk
                subst hk
                refine wpOp_run rfl rfl (wp_call_fn 15 #[.pointer (some ⟨D, 0, none⟩), .int .u16 E8.ix, .int .u8 E8.sb] (by simp [execOp, go_sem, Act.eval, resolve, invoke, enterG8]) ?_)
                refine (hGet.out w4 b4).mono ?_
                rintro e w5 ⟨rfl, b5⟩
                have g5 := g4.below b5
                have c5 := b4.trans (b5.mono b4.size)
                have s5 := HSS.out _ c5
                refine ⟨s5, ?_⟩
                simp only [List.getElem_toArray, List.getElem_cons_succ, List.getElem_cons_zero, Act.put, List.setIfInBounds_toArray, List.set_cons_succ, List.set_cons_zero]
                refine wpAnyH_take (i := 15) (v := (.tuple #[.agg (getV its2 E8.ix E8.sb).arr, .int .i64 0])) rfl (by kernel_rfl) (by kernel_rfl) (by kernel_rfl) (fun _ _ _ h => h) (.inl ⟨rfl, fun _ hS => rfl⟩) s5 ?_
                simp only [List.getElem_toArray, List.getElem_cons_succ, List.getElem_cons_zero, Act.put, List.setIfInBounds_toArray, List.set_cons_succ, List.set_cons_zero]
                refine wpAnyH_take (i := 16) (v := (.agg (getV its2 E8.ix E8.sb).arr)) rfl (by kernel_rfl) (by kernel_rfl) (by kernel_rfl) (fun _ _ _ h => h) (.inl ⟨rfl, fun _ hS => by simp [execOp, go_sem, Act.eval]⟩) s5 ?_
                simp only [List.getElem_toArray, List.getElem_cons_succ, List.getElem_cons_zero, Act.put, List.setIfInBounds_toArray, List.set_cons_succ, List.set_cons_zero]
                refine wpAnyH_take (i := 17) (v := (.int .i64 0)) rfl (by kernel_rfl) (by kernel_rfl) (by kernel_rfl) (fun _ _ _ h => h) (.inl ⟨rfl, fun _ hS => by simp [execOp, go_sem, Act.eval]⟩) s5 ?_
                simp only [List.getElem_toArray, List.getElem_cons_succ, List.getElem_cons_zero, Act.put, List.setIfInBounds_toArray, List.set_cons_succ, List.set_cons_zero]
                refine wpAnyH_all (rs := [19]) (by kernel_rfl) (by simp) ?_
                intro k hk
                simp only [List.mem_cons, List.mem_nil_iff, or_false] at hk
                subst hk
                refine wpOp_run rfl rfl (wp_store_row 33 _ _ rfl q9 (getV its2 E8.ix E8.sb).arr rfl rfl 33 Vl.nul.arr g5 (by rw [Vl.arr_size]; exact infoV) (by rw [Vl.arr_size, Vl.arr_size]) (getV its2 E8.ix E8.sb).one ?_)
                have g6 := g5.row (getV its2 E8.ix E8.sb)
                have c6 := below_row c5 hqr c5.size (q := q9) (getV its2 E8.ix E8.sb).arr
                have s6 := HSS.out _ c6
                refine ⟨s6, ?_⟩
                simp only [List.getElem_toArray, List.getElem_cons_succ, List.getElem_cons_zero, Act.put, List.setIfInBounds_toArray, List.set_cons_succ, List.set_cons_zero]
                refine wpAnyH_take (i := 20) (v := (.int .i64 0)) rfl (by kernel_rfl) (by kernel_rfl) (by kernel_rfl) (fun _ _ _ h => h) (.inl ⟨rfl, fun _ hS => rfl⟩) s6 ?_
                simp only [List.getElem_toArray, List.getElem_cons_succ, List.getElem_cons_zero, Act.put, List.setIfInBounds_toArray, List.set_cons_succ, List.set_cons_zero]
                refine wpAnyH_done (by kernel_rfl) ?_ _
                have G6 := hidOf2 g6
                have C6 := hidOf2 c6
                have O6 := hidOf2 (HSo.out.next c6)
                have P6 := hidOf2 (own_below5 HP.out c6)
                generalize w5.setRow q9 (getV its2 E8.ix E8.sb).arr = w6 at *
                clear s4 s5 s6 g6 g5 S0 HSS hGet c5 c6 hqr HSo HP
                obtain ⟨V2, hV2⟩ : ∃ V2, getV its2 E8.ix E8.sb = V2 := ⟨_, rfl⟩
                obtain ⟨V1, hV1⟩ : ∃ V1, getV its E8.ix E8.sb = V1 := ⟨_, rfl⟩
                rw [hV2] at G6 HAK ⊢
                rw [hV1] at HAK HMK
                have g6 := G6.out
                obtain ⟨wb, wo, wcp, hvw, hwb, hrW⟩ := (wide_of_own DV P6.out).at0 k (by simpa using hkl)
                rw [HMK.out] at hrW
                injection hvw with hvw1 _ hvw3
                subst hvw1
                subst hvw3
                have hrW : w6.rangeAt wb (wo + k * 3) (vlC V1) := hrW
                have hkw : k < nw := by rw [← hnw]; simpa using hkl
                have hLq := Later.some w6
                have kE0 : ∀ x : Later w6, x.now.cell? ⟨eb, eo + k * 14, none⟩ = some (.int .u16 E8.ix) := fun x => HCE.out x.now (O6.out.next x.below).below 0 _ rfl
                have kE1 : ∀ x : Later w6, x.now.cell? ⟨eb, eo + k * 14 + 1, none⟩ = some (.int .u8 E8.sb) := fun x => HCE.out x.now (O6.out.next x.below).below 1 _ rfl
                have kA1 : ∀ x : Later w6, x.now.cell? ⟨qa, 1, none⟩ = some (.int .u16 a.ix) := fun x => (O6.out.next x.below).c.2.2.1
                have kA2 : ∀ x : Later w6, x.now.cell? ⟨qa, 2, none⟩ = some (.int .u8 a.sb) := fun x => (O6.out.next x.below).c.2.2.2.1
                go_upto_region 17 with fail
                cases hB : vlB V2 V1
                · have hpl : E8.ix = a.ix ∧ E8.sb = a.sb := by
                    by_cases h1 : E8.ix = a.ix
                    · by_cases h2 : E8.sb = a.sb
                      · exact ⟨h1, h2⟩
                      · have := HAK.out (.inr h2)
                        rw [this, vlB_same] at hB; cases hB
                    · have := HAK.out (.inl h1)
                      rw [this, vlB_same] at hB; cases hB
                  rw [hpl.1] at kE0
                  rw [hpl.2] at kE1
                  refine wp_region_later (by kernel_rfl) (by kernel_rfl) ?_
                  repeat (go_big_quiet_step (fail))
                  refine quiet_ldv g6 rfl _ rfl rfl ?_
                  simp only [Act.put, List.setIfInBounds_toArray, List.set_cons_succ, List.set_cons_zero]
                  repeat (go_big_quiet_step (fail))
                  refine quiet_pure (.pointer (some ⟨wb, wo + k * 3, none⟩)) rfl (fun w => exec_idxV rfl rfl rfl hkw w) ?_
                  simp only [Act.put, List.setIfInBounds_toArray, List.set_cons_succ, List.set_cons_zero]
                  refine quiet_ldV hrW hwb rfl _ rfl rfl ?_
                  simp only [Act.put, List.setIfInBounds_toArray, List.set_cons_succ, List.set_cons_zero]
                  refine quiet_neqv V2 V1 rfl _ _ rfl rfl rfl ?_
                  rw [hB]
                  simp only [Bool.not_true, Bool.not_false, Act.put, List.setIfInBounds_toArray, List.set_cons_succ, List.set_cons_zero]
                  repeat (go_big_quiet_step (fail))
                  refine wpQuiet_nil ?_
                  rintro _ ⟨x1, rfl⟩
                  have P9 := hidOf2 (own_below5 P6.out x1.below)
                  have O9 := hidOf2 (O6.out.next x1.below)
                  clear hLq kE0 kE1 kA1 kA2 g6 hrW P6 O6
                  generalize x1.now = w9 at *
                  clear x1
                  go_wp2
                  go_roundw
                  case rel => exact ⟨k + 1, by omega, by go_num, P9, O9⟩
                  case measure => simp [intOf]; omega
                · skip
                  refine wp_region_later (by kernel_rfl) (by kernel_rfl) ?_
                  repeat (go_big_quiet_step (fail))
                  refine quiet_ldv g6 rfl _ rfl rfl ?_
                  simp only [Act.put, List.setIfInBounds_toArray, List.set_cons_succ, List.set_cons_zero]
                  repeat (go_big_quiet_step (fail))
                  refine quiet_pure (.pointer (some ⟨wb, wo + k * 3, none⟩)) rfl (fun w => exec_idxV rfl rfl rfl hkw w) ?_
                  simp only [Act.put, List.setIfInBounds_toArray, List.set_cons_succ, List.set_cons_zero]
                  refine quiet_ldV hrW hwb rfl _ rfl rfl ?_
                  simp only [Act.put, List.setIfInBounds_toArray, List.set_cons_succ, List.set_cons_zero]
                  refine quiet_neqv V2 V1 rfl _ _ rfl rfl rfl ?_
                  rw [hB]
                  simp only [Bool.not_true, Bool.not_false, Act.put, List.setIfInBounds_toArray, List.set_cons_succ, List.set_cons_zero]
                  repeat (go_big_quiet_step (fail))
                  refine wpQuiet_nil ?_
                  rintro _ ⟨x1, rfl⟩
                  have P9 := hidOf2 (own_below5 P6.out x1.below)
                  have O9 := hidOf2 (O6.out.next x1.below)
                  clear hLq kE0 kE1 kA1 kA2 g6 hrW P6 O6
                  generalize x1.now = w9 at *
                  clear x1
                  go_wp2
                  go_roundw
                  case rel => exact ⟨k + 1, by omega, by go_num, P9, O9⟩
                  case measure => simp [intOf]; omega
            · have hS := hL8 wr
              go_wp2_with fail
              refine hS.mono ?_
              rintro e w3 ⟨rfl, b3⟩
              have B3 := HSo.out.below.trans (b3.mono HSo.out.below.size)
              clear hS
              go_wp2
              go_ret
              exact ⟨rfl, B3⟩
  · obtain rfl := HB2.out hc
    have hS := hL8 w1
    clear HG HB2 b1
    go_wp2_with fail
    refine hS.mono ?_
    rintro e w3 ⟨rfl, b3⟩
    have B3 := B1.trans (b3.mono B1.size)
    clear hS
    go_wp2
    go_ret
    exact ⟨rfl, B3⟩
end Go.Proofs.Ytdcogpadioeclaa
namespace Go.Proofs.Ytdcogpadioeclaa
open Go.ChangeShapes Go.WideShapes Go.ChangeAt Go.RowKit Go.Proofs.Ty
open Go.ChangeMaps (open_string shut_string)
set_option linter.unusedVariables false
set_option maxRecDepth 1000000

set_option maxRecDepth 100000 in
theorem odApart_lifted (os : Os) (started : os.Started) (H : Type) (enc : TypeId × Value → H) :
    ReturnsInHanded {} Try.checked os 6 .any (Rows.odApartSpec.pre6 enc Try.prog Try.f6 Rows.odApartRow.domain false) (Rows.odApartSpec.post enc Try.prog Try.f6 false true false false) := by
  refine returnsInHanded_of_change_sized (C := Try.checked) own started (by kernel_rfl) Try.func6
    (ChangeSpec.witness6 (enc := enc) (C := Try.checked) false ⟨#[], #[.slice none 0 0, .agg #[.int .i64 0, .int .u16 0, .int .u8 0, .slice none 0 0, .int .i64 0, .int .u64 0, .string ByteArray.empty, .int .u16 0]], []⟩ 8 (by kernel_rfl) (by kernel_rfl) (by kernel_rfl) (by kernel_rfl)) ?_
  intro W base args ds gs before hval0 hW hcnd hsz _
  have hval : ∀ (j : Nat) t v, Try.f6.params[j]? = some t → args[j]? = some v → Value.okWide Try.prog W .any base t v := hval0
  have hW' := hW
  obtain ⟨p, q, hA0, hV, rfl, hfz, hnd⟩ := hW
  have hA : DataW.TrodAll enc Try.prog W 0 (fun _ => true) true Try.f6.params.toList args.toList ds p := hA0
  rw [Try.params6] at hA hval hsz
  obtain ⟨v0, vs0, d0, ds0, p0, q0, hargs, rfl, rfl, h0, r0⟩ := trodAll_cons hA
  obtain ⟨v1, vs1, d1, ds1, p1, q1, rfl, rfl, rfl, h1, r1⟩ := trodAll_cons r0
  obtain ⟨rfl, rfl, rfl⟩ := trodAll_nil r1
  obtain rfl : args = #[v0, v1] := by cases args; simp_all
  obtain ⟨rfl, rfl⟩ := trodVars_none hV
  have lt0 : ∀ x ∈ p0, x.block < W.heap.size := by obtain ⟨m, hm⟩ := h0; exact DataW.trod_lt m _ _ _ hm
  obtain ⟨l0, w0, e0⟩ := open_entries (hval 0 22 v0 rfl rfl) h0 lt0
  have z0 := size_entries (j := 0) hsz rfl rfl e0
  have lt1 : ∀ x ∈ p1, x.block < W.heap.size := by obtain ⟨m, hm⟩ := h1; exact DataW.trod_lt m _ _ _ hm
  obtain ⟨a1, rfl, e1⟩ := open_a8 (hval 1 35 v1 rfl rfl) h1 lt1
  have z1 := size_a8 (j := 1) hsz rfl rfl e1
  clear hA0 hval0
  refine (oap_walk _ l0 a1 W w0 z0 e1.1 z1).mono fun e W' ⟨he, bel⟩ => ?_
  subst he
  exact ⟨_, rfl, _, _, _, [], _, [], hW', trodAll_mk1 (shut_bool Try.underlying4 _), (trodAll_cons_mk (Below.trod laidOut (by kernel_rfl) (of_decide_eq_true (by kernel_rfl)) h0 bel lt0) (trodAll_cons_mk (Below.trod laidOut (by kernel_rfl) (of_decide_eq_true (by kernel_rfl)) h1 bel lt1) trodAll_mk0)), rfl, bel.frame _, fun h => by cases h⟩

theorem odApart_holds : Rows.OdApartSaid :=
  OpenClaim.holds_of_wide 6 Try.f6 rfl rfl rfl rfl rfl rfl rfl ⟨rfl, rfl, rfl, rfl, rfl⟩ rfl rfl rfl rfl rfl (by kernel_rfl) Try.func6 (by kernel_rfl)
    (of_decide_eq_true (by kernel_rfl)) (by unfold Func.isWrapper; first | (rw [if_pos (by decide +kernel)]; kernel_rfl) | (rw [if_neg (by decide +kernel)]; exact ⟨rfl, rfl⟩))
    (fun os started H enc _ => odApart_lifted os started H enc)
end Go.Proofs.Ytdcogpadioeclaa
