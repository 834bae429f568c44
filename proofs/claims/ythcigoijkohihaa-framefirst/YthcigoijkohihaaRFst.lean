/- The contract of the document's own First. -/
import Derived.Test.YthcigoijkohihaaLawFOrder
namespace Go.Proofs.Ythcigoijkohihaa
open Go.RowKit Go.Proofs.Bits
set_option linter.unusedVariables false
set_option maxRecDepth 1000000

theorem quiet_ldm {W : World} {ops : Array Oper} {rest : List Oper} {p : Oper} {a : Act} {Q : Act → Prop} {b o : Nat} {f : Fr} (h : W.rangeAt b o f.cells) (hb : b < W.heap.size) (hgd : p.guard = none) (x : Operand) (ho : p.op = .load 25 x) (hx : a.eval x = .pointer (some ⟨b, o, none⟩))
    (hh : wpQuiet Try.prog ops (fun w' => ∃ x : Later W, w' = x.now) Q rest (a.put p.dst (.agg f.arr))) : wpQuiet Try.prog ops (fun w' => ∃ x : Later W, w' = x.now) Q (p :: rest) a := by
  unfold wpQuiet
  rw [if_pos (by simp [Region.wanted, hgd])]
  refine ⟨.agg f.arr, ?_, hh⟩
  rintro w' ⟨y, rfl⟩
  have hr : y.now.rangeAt b o f.cells := fun j v hv => (y.below.cell (p := ⟨b, o + j, none⟩) hb).trans (h j v hv)
  have hl := run_loadVar_mid (P := Try.prog) y.now b o 25 f.cells _ hr Try.underlying25 rfl (by rw [infoF]; simp [Fr.cells, f.hdata])
  unfold Oper.quietAt execOp
  simp only [ho, hx, Instr.loadAt, Instr.sureAddr, Sem.run_bind, Sem.run_pure, Result.andThen_ok, hl]
  exact ⟨rfl, rfl⟩
theorem txB_at (fs : List Fr) (k : Nat) (hk : k < fs.length) : txB (flds fs) k = ⟨fs[k].field.toArray⟩ := by
  unfold txB
  rw [getD_at (by rw [flds_length]; exact hk)]
  simp [flds]
theorem txB_beq (T : List (List UInt8)) (i j : Nat) : ((txB T i).toList == (txB T j).toList) = decide (T.getD i [] = T.getD j []) := beq_list _ _
theorem txB_less (T : List (List UInt8)) (i j : Nat) : Op.bytesLess (txB T i).toList (txB T j).toList = decide (T.getD i [] < T.getD j []) := less_txt _ _
theorem nodup_next {T : List (List UInt8)} {k : Nat} (hk : k < T.length) (h : (T.take k).Nodup) (hn : ∀ j, j < k → T.getD k [] ≠ T.getD j []) : (T.take (k + 1)).Nodup := by
  rw [List.take_succ_eq_append_getElem hk, List.nodup_append]
  refine ⟨h, by simp, ?_⟩
  intro a ha b hb e
  simp at hb
  subst hb
  subst e
  obtain ⟨j, hj, he⟩ := List.getElem_of_mem ha
  rw [List.length_take] at hj
  have := hn j (by omega)
  rw [getD_at hk, getD_at (by omega)] at this
  apply this
  rw [← he, List.getElem_take]
theorem nodup_not {T : List (List UInt8)} {i j : Nat} (hi : i < T.length) (hj : j < i) (h : T.getD i [] = T.getD j []) : ¬ T.Nodup := fun hn => by
  have := nodup_at hn hi (by omega) h
  omega
set_option maxHeartbeats 4000000 in
theorem r2First_any (v : Value) (fs : List Fr) (w : World) (hn : fs.length * 16 ≤ 140737488355328) (hS : Frames w v fs) :
    Calls Try.prog 24 #[v] w fun e w' => e = .returned (.tuple #[.int .i64 (firstN fs), .int .i64 (firstE fs)]) ∧ Below w.heap.size w w' := by
  obtain ⟨ao, cap, rfl, _, hc⟩ := hS
  have HC : Hid (∀ (wr : World), Below w.heap.size w wr → ∀ k (hk : k < fs.length), ∃ b off, ao = some ⟨b, off, none⟩ ∧ b < w.heap.size ∧ wr.rangeAt b (off + k * 12) fs[k].cells) := fun wr hb k hk => Wide.at hc hb k hk
  clear hc
  by_cases h0 : fs.length = 0
  · have HE : Hid (firstE fs = 3) := by show _ = _; unfold firstE; rw [if_pos h0]
    have HN : Hid (firstN fs = 0) := by show _ = _; unfold firstN; rw [HE.out]; rfl
    have hd : ((fs.length : Int) == 0) = true := by rw [h0]; rfl
    generalize firstE fs = E at *
    generalize firstN fs = N at *
    go_enter Try.func24, Try.ntmps24
    go_wp2
    go_ret2
    exact ⟨by rw [HE.out, HN.out]; rfl, Below.refl _ _⟩
  · have hd : ((fs.length : Int) == 0) = false := by rw [beq_eq_false_iff_ne]; omega
    have hfl := flds_length fs
    go_enter Try.func24, Try.ntmps24
    go_wp2
    go_loopw [5] (fun i x => ∃ k : Nat, k ≤ fs.length ∧ i = .int .i64 k ∧ (∀ j (hj : j < fs.length), j < k → fs[j].chk = 0) ∧ Below w.heap.size w x) (fun i _ => fs.length - (intOf i).toNat)
    case atStart => exact ⟨0, Nat.zero_le _, rfl, fun j _ h => by omega, Below.refl _ _⟩
    case round =>
      obtain ⟨k, hk, rfl, H1, B1⟩ := hrel
      by_cases hkl : k < fs.length
      · obtain ⟨b, off, rfl, hb, hR⟩ := HC.out wr B1 k hkl
        have hF := r2Check_any fs[k] wr
        have hck := chk_cases fs[k]
        have HL : Hid (fs[k].chk ≠ 0 → firstE fs = 1 ∧ firstN fs = 0) := by
          intro h
          have e : firstE fs = 1 := by unfold firstE; rw [if_neg h0, allOk_at hkl h]; rfl
          exact ⟨e, by unfold firstN; rw [e]; rfl⟩
        have HJ : Hid (∀ j (hj : j < fs.length), j < k + 1 → fs[k].chk = 0 → fs[j].chk = 0) := by
          intro j hj h1 h2
          rcases Nat.lt_or_ge j k with h3 | h3
          · exact H1 j hj h3
          · have : j = k := by omega
            subst this; exact h2
        unfold Fr.val at hF
        generalize fs[k] = f at *
        go_wp2_with (first | refine fld_ld hR rfl _ rfl rfl ?_)
        refine hF.mono ?_
        rintro e w4 ⟨rfl, B4⟩
        have B5 := B1.trans (B4.mono B1.size)
        clear B1 B4 hF hR
        rcases hck with hck | hck
        · rw [hck]
          have HJ2 : Hid (∀ j (hj : j < fs.length), j < k + 1 → fs[j].chk = 0) := fun j hj h1 => HJ.out j hj h1 hck
          clear HJ HL H1
          go_wp2
          go_roundw
          case rel => exact ⟨k + 1, by omega, by go_num, HJ2.out, B5⟩
          case measure => simp [intOf]; omega
        · rw [hck]
          obtain ⟨e1, e2⟩ := HL.out (by rw [hck]; decide)
          have E1 : Hid (firstE fs = 1) := e1
          have E2 : Hid (firstN fs = 0) := e2
          clear HJ HL H1 e1 e2
          go_wp2
          go_ret2
          exact ⟨by rw [E1.out, E2.out]; rfl, B5⟩
      · have HA : Hid (allOk fs = true) := allOk_of (fun j hj => H1 j hj (by omega))
        have HK : Hid (∀ j (hj : j < fs.length), fs[j].chk = 0) := fun j hj => H1 j hj (by omega)
        have HE5 : Hid (¬ (flds fs).Nodup → firstE fs = 5 ∧ firstN fs = 0) := by
          intro h
          have e : firstE fs = 5 := by unfold firstE; rw [if_neg h0, HA.out, if_pos rfl, if_neg h]
          exact ⟨e, by unfold firstN; rw [e]; rfl⟩
        have HE0 : Hid ((flds fs).Nodup → firstE fs = 0 ∧ firstN fs = best (flds fs) fs.length) := by
          intro h
          have e : firstE fs = 0 := by unfold firstE; rw [if_neg h0, HA.out, if_pos rfl, if_pos h]
          exact ⟨e, by unfold firstN; rw [e, if_pos rfl]⟩
        have HF : Hid (∀ j (hj : j < fs.length) W, Calls Try.prog 39 #[.agg fs[j].arr] W fun e w' => e = .returned (.string (txB (flds fs) j)) ∧ Below W.heap.size W w') := by
          intro j hj W
          rw [txB_at fs j hj]
          exact r2field_any fs[j] W (HK.out j hj)
        clear H1 HK HA
        go_wp2
        go_loopw [4, 7] (fun bs i x => ∃ k : Nat, k ≤ fs.length ∧ i = .int .i64 k ∧ bs = .int .i64 (best (flds fs) k) ∧ ((flds fs).take k).Nodup ∧ Below w.heap.size w x) (fun _ i _ => fs.length - (intOf i).toNat)
        case atStart => exact ⟨0, Nat.zero_le _, rfl, rfl, by simp, B1⟩
        case round =>
          clear B1 hkl hk
          obtain ⟨k2, hk, rfl, rfl, hnd, B1⟩ := hrel
          by_cases hkl : k2 < fs.length
          · obtain ⟨W, hW⟩ : ∃ W, W = wr := ⟨wr, rfl⟩
            subst hW
            go_wp2
            go_loopw [8] (fun i x => ∃ m : Nat, m ≤ k2 ∧ i = .int .i64 m ∧ (∀ j, j < m → (flds fs).getD k2 [] ≠ (flds fs).getD j []) ∧ Below w.heap.size w x) (fun i _ => k2 - (intOf i).toNat)
            case atStart => exact ⟨0, Nat.zero_le _, rfl, fun j h => by omega, B1⟩
            case round =>
              clear B1
              obtain ⟨m, hm, rfl, H2, B1⟩ := hrel
              by_cases hmk : m < k2
              · obtain ⟨b, off, rfl, hb, hR⟩ := HC.out wr B1 k2 hkl
                obtain ⟨b', off', e', _, hR'⟩ := HC.out wr B1 m (by omega)
                simp only [Option.some.injEq, Addr.mk.injEq, and_true] at e'
                obtain ⟨rfl, rfl⟩ := e'
                have s1 := B1.size
                have hbq := txB_beq (flds fs) k2 m
                have hp1 := HF.out k2 hkl
                have hp2 := HF.out m (by omega)
                have hL := Later.some wr
                have hm0 : (m : Int) < (fs.length : Int) := by omega
                have hk0 : (k2 : Int) < (fs.length : Int) := by omega
                generalize fs[k2] = f2 at *
                generalize fs[m]'(by omega) = f1 at *
                generalize txB (flds fs) k2 = X2 at *
                generalize txB (flds fs) m = X1 at *
                by_cases heq : (flds fs).getD k2 [] = (flds fs).getD m []
                · rw [show decide ((flds fs).getD k2 [] = (flds fs).getD m []) = true by simpa using heq] at hbq
                  obtain ⟨e1, e2⟩ := HE5.out (nodup_not (by omega) hmk heq)
                  have E1 : Hid (firstE fs = 5) := e1
                  have E2 : Hid (firstN fs = 0) := e2
                  clear e1 e2 heq H2 hnd
                  go_wp2_with fail
                  refine wp_region_later (by kernel_rfl) (by kernel_rfl) ?_
                  go_big_quiet_step (fail)
                  go_big_quiet_step (fail)
                  go_big_quiet_step (fail)
                  refine quiet_ldm hR (by omega) rfl _ rfl rfl ?_
                  simp only [Act.put, List.setIfInBounds_toArray, List.set_cons_succ, List.set_cons_zero]
                  go_big_quiet_step (first | (go_at_call 39; with_reducible exact later (hp1 _)))
                  go_big_quiet_step (fail)
                  go_big_quiet_step (fail)
                  go_big_quiet_step (fail)
                  refine quiet_ldm hR' (by omega) rfl _ rfl rfl ?_
                  simp only [Act.put, List.setIfInBounds_toArray, List.set_cons_succ, List.set_cons_zero]
                  go_big_quiet_step (first | (go_at_call 39; with_reducible exact later (hp2 _)))
                  go_big_quiet_step (fail)
                  refine wpQuiet_nil ?_
                  rintro _ ⟨x1, rfl⟩
                  have B2 := B1.trans (x1.below.mono (by omega))
                  go_wp2
                  go_ret2
                  exact ⟨by rw [E1.out, E2.out]; rfl, B2⟩
                · rw [show decide ((flds fs).getD k2 [] = (flds fs).getD m []) = false by simpa using heq] at hbq
                  have H3 : Hid (∀ j, j < m + 1 → (flds fs).getD k2 [] ≠ (flds fs).getD j []) := by
                    intro j hj
                    rcases Nat.lt_or_ge j m with h | h
                    · exact H2 j h
                    · have : j = m := by omega
                      rw [this]; exact heq
                  clear heq H2
                  go_wp2_with fail
                  refine wp_region_later (by kernel_rfl) (by kernel_rfl) ?_
                  go_big_quiet_step (fail)
                  go_big_quiet_step (fail)
                  go_big_quiet_step (fail)
                  refine quiet_ldm hR (by omega) rfl _ rfl rfl ?_
                  simp only [Act.put, List.setIfInBounds_toArray, List.set_cons_succ, List.set_cons_zero]
                  go_big_quiet_step (first | (go_at_call 39; with_reducible exact later (hp1 _)))
                  go_big_quiet_step (fail)
                  go_big_quiet_step (fail)
                  go_big_quiet_step (fail)
                  refine quiet_ldm hR' (by omega) rfl _ rfl rfl ?_
                  simp only [Act.put, List.setIfInBounds_toArray, List.set_cons_succ, List.set_cons_zero]
                  go_big_quiet_step (first | (go_at_call 39; with_reducible exact later (hp2 _)))
                  go_big_quiet_step (fail)
                  refine wpQuiet_nil ?_
                  rintro _ ⟨x1, rfl⟩
                  have B2 := B1.trans (x1.below.mono (by omega))
                  go_wp2
                  go_roundw
                  case rel => exact ⟨m + 1, by omega, by go_num, H3.out, B2⟩
                  case measure => simp [intOf]; omega
              · obtain rfl : m = k2 := by omega
                have hbl := best_le (flds fs) m
                have hbn : best (flds fs) m < fs.length := by omega
                obtain ⟨b, off, rfl, hb, hR⟩ := HC.out wr B1 m hkl
                obtain ⟨b', off', e', _, hR'⟩ := HC.out wr B1 (best (flds fs) m) hbn
                simp only [Option.some.injEq, Addr.mk.injEq, and_true] at e'
                obtain ⟨rfl, rfl⟩ := e'
                have s1 := B1.size
                have hbq := txB_less (flds fs) m (best (flds fs) m)
                have hp1 := HF.out m hkl
                have hp2 := HF.out (best (flds fs) m) hbn
                have hL := Later.some wr
                have HN : Hid (((flds fs).take (m + 1)).Nodup) := nodup_next (by omega) hnd H2
                have HB : Hid (best (flds fs) (m + 1) = if (flds fs).getD m [] < (flds fs).getD (best (flds fs) m) [] then m else best (flds fs) m) := rfl
                have hk0 : (m : Int) < (fs.length : Int) := by omega
                have hb0 : (best (flds fs) m : Int) < (fs.length : Int) := by omega
                generalize fs[m] = f2 at *
                generalize fs[best (flds fs) m]'hbn = f1 at *
                generalize txB (flds fs) m = X2 at *
                generalize txB (flds fs) (best (flds fs) m) = X1 at *
                clear H2
                by_cases hlt : (flds fs).getD m [] < (flds fs).getD (best (flds fs) m) []
                · rw [show decide ((flds fs).getD m [] < (flds fs).getD (best (flds fs) m) []) = true by simpa using hlt] at hbq
                  have HB2 : Hid (best (flds fs) (m + 1) = m) := by show _ = _; rw [HB.out, if_pos hlt]
                  clear HB hlt
                  generalize hBM : best (flds fs) m = bm at *
                  clear hBM
                  go_wp2_with fail
                  refine wp_region_later (by kernel_rfl) (by kernel_rfl) ?_
                  go_big_quiet_step (fail)
                  go_big_quiet_step (fail)
                  go_big_quiet_step (fail)
                  refine quiet_ldm hR (by omega) rfl _ rfl rfl ?_
                  simp only [Act.put, List.setIfInBounds_toArray, List.set_cons_succ, List.set_cons_zero]
                  go_big_quiet_step (first | (go_at_call 39; with_reducible exact later (hp1 _)))
                  go_big_quiet_step (fail)
                  go_big_quiet_step (fail)
                  go_big_quiet_step (fail)
                  refine quiet_ldm hR' (by omega) rfl _ rfl rfl ?_
                  simp only [Act.put, List.setIfInBounds_toArray, List.set_cons_succ, List.set_cons_zero]
                  go_big_quiet_step (first | (go_at_call 39; with_reducible exact later (hp2 _)))
                  go_big_quiet_step (fail)
                  refine wpQuiet_nil ?_
                  rintro _ ⟨x1, rfl⟩
                  have B2 := B1.trans (x1.below.mono (by omega))
                  go_wp2
                  go_roundw
                  case rel => exact ⟨m + 1, by omega, by go_num, by rw [HB2.out], HN.out, B2⟩
                  case measure => simp [intOf]; omega
                · rw [show decide ((flds fs).getD m [] < (flds fs).getD (best (flds fs) m) []) = false by simpa using hlt] at hbq
                  have HB2 : Hid (best (flds fs) (m + 1) = best (flds fs) m) := by show _ = _; rw [HB.out, if_neg hlt]
                  clear HB hlt
                  generalize hBM : best (flds fs) m = bm at *
                  clear hBM
                  go_wp2_with fail
                  refine wp_region_later (by kernel_rfl) (by kernel_rfl) ?_
                  go_big_quiet_step (fail)
                  go_big_quiet_step (fail)
                  go_big_quiet_step (fail)
                  refine quiet_ldm hR (by omega) rfl _ rfl rfl ?_
                  simp only [Act.put, List.setIfInBounds_toArray, List.set_cons_succ, List.set_cons_zero]
                  go_big_quiet_step (first | (go_at_call 39; with_reducible exact later (hp1 _)))
                  go_big_quiet_step (fail)
                  go_big_quiet_step (fail)
                  go_big_quiet_step (fail)
                  refine quiet_ldm hR' (by omega) rfl _ rfl rfl ?_
                  simp only [Act.put, List.setIfInBounds_toArray, List.set_cons_succ, List.set_cons_zero]
                  go_big_quiet_step (first | (go_at_call 39; with_reducible exact later (hp2 _)))
                  go_big_quiet_step (fail)
                  refine wpQuiet_nil ?_
                  rintro _ ⟨x1, rfl⟩
                  have B2 := B1.trans (x1.below.mono (by omega))
                  go_wp2
                  go_roundw
                  case rel => exact ⟨m + 1, by omega, by go_num, by rw [HB2.out], HN.out, B2⟩
                  case measure => simp [intOf]; omega
          · obtain rfl : k2 = fs.length := by omega
            rw [List.take_of_length_le (by omega)] at hnd
            obtain ⟨e1, e2⟩ := HE0.out hnd
            have E1 : Hid (firstE fs = 0) := e1
            have E2 : Hid (firstN fs = best (flds fs) fs.length) := e2
            clear e1 e2
            go_wp2
            go_ret2
            exact ⟨by rw [E1.out, E2.out]; rfl, B1⟩
end Go.Proofs.Ythcigoijkohihaa
