/- The contract of the document's own First. Contracts: begin. Contracts: run, Round. -/
import Derived.Test.YtlghjfomliappaaTa6
import Derived.Deep.Cut
import Derived.Deep.CutRange
namespace Go.Proofs.Ytlghjfomliappaa
open Go.RowKit Go.Proofs.Bits
set_option linter.unusedVariables false
set_option maxRecDepth 1000000

theorem quiet_ldm {W : World} {ops : Array Oper} {rest : List Oper} {p : Oper} {a : Act} {Q : Act → Prop} {b o : Nat} {f : Fr} (h : W.rangeAt b o f.cells) (hb : b < W.heap.size) (hgd : p.guard = none) (x : Operand) (ho : p.op = .load 38 x) (hx : a.eval x = .pointer (some ⟨b, o, none⟩))
    (hh : wpQuiet Try.prog ops (fun w' => ∃ x : Later W, w' = x.now) Q rest (a.put p.dst (.agg f.arr))) : wpQuiet Try.prog ops (fun w' => ∃ x : Later W, w' = x.now) Q (p :: rest) a := by
  unfold wpQuiet
  rw [if_pos (by simp [Region.wanted, hgd])]
  refine ⟨.agg f.arr, ?_, hh⟩
  rintro w' ⟨y, rfl⟩
  have hr : y.now.rangeAt b o f.cells := fun j v hv => (y.below.cell (p := ⟨b, o + j, none⟩) hb).trans (h j v hv)
  have hl := run_loadVar_mid (P := Try.prog) y.now b o 38 f.cells _ hr Try.underlying38 rfl (by rw [infoF]; simp [Fr.cells, f.hdata])
  unfold Oper.quietAt execOp
  simp only [ho, hx, Instr.loadAt, Instr.sureAddr, Sem.run_bind, Sem.run_pure, Result.andThen_ok, hl]
  exact ⟨rfl, rfl⟩
theorem txB_at (fs : List Fr) (k : Nat) (hk : k < fs.length) : txB (flds fs) k = ⟨fs[k].field.toArray⟩ := by
  unfold txB
  rw [getD_at (by rw [flds_length]; exact hk)]
  simp [flds]
theorem txB_beq (T : List (List UInt8)) (i j : Nat) : ((txB T i).toList == (txB T j).toList) = decide (T.getD i [] = T.getD j []) := beq_list _ _
theorem txB_less (T : List (List UInt8)) (i j : Nat) : Op.bytesLess (txB T i).toList (txB T j).toList = decide (T.getD i [] < T.getD j []) := less_txt _ _
theorem nodup_next {T : List (List UInt8)} {k : Nat} (hk : k < T.length) (h : (T.take k).Nodup) (hn : ∀ j, j < k → T.getD k [] ≠ T.getD j []) : (T.take (k + 1)).Nodup := by
  rw [List.take_succ_eq_append_getElem hk, List.nodup_append]
  refine ⟨h, by simp, ?_⟩
  intro a ha b hb e
  simp at hb
  subst hb
  subst e
  obtain ⟨j, hj, he⟩ := List.getElem_of_mem ha
  rw [List.length_take] at hj
  have := hn j (by omega)
  rw [getD_at hk, getD_at (by omega)] at this
  apply this
  rw [← he, List.getElem_take]
theorem nodup_not {T : List (List UInt8)} {i j : Nat} (hi : i < T.length) (hj : j < i) (h : T.getD i [] = T.getD j []) : ¬ T.Nodup := fun hn => by
  have := nodup_at hn hi (by omega) h
  omega
set_option maxHeartbeats 4000000 in
theorem r2First_any (v : Value) (fs : List Fr) (w : World) (hn : fs.length * 16 ≤ 140737488355328) (hS : Frames w v fs) :
    Calls Try.prog 26 #[v] w fun e w' => e = .returned (.tuple #[.int .i64 (firstN fs), .int .i64 (firstE fs)]) ∧ Below w.heap.size w w' := by
  obtain ⟨ao, cap, rfl, _, hc⟩ := hS
  have HC : Hid (∀ (wr : World), Below w.heap.size w wr → ∀ k (hk : k < fs.length), ∃ b off, ao = some ⟨b, off, none⟩ ∧ b < w.heap.size ∧ wr.rangeAt b (off + k * 12) fs[k].cells) := fun wr hb k hk => Wide.at hc hb k hk
  clear hc
  by_cases h0 : fs.length = 0
  · have HE : Hid (firstE fs = 3) := by show _ = _; unfold firstE; rw [if_pos h0]
    have HN : Hid (firstN fs = 0) := by show _ = _; unfold firstN; rw [HE.out]; rfl
    have hd : ((fs.length : Int) == 0) = true := by rw [h0]; rfl
    generalize firstE fs = E at *
    generalize firstN fs = N at *
    go_enter Try.func26, Try.ntmps26
    go_wp2
    go_ret2
    exact ⟨by rw [HE.out, HN.out]; rfl, Below.refl _ _⟩
  · have hd : ((fs.length : Int) == 0) = false := by rw [beq_eq_false_iff_ne]; omega
    have hfl := flds_length fs
    go_enter Try.func26, Try.ntmps26
    go_wp2
    go_loopw [5] (fun i x => ∃ k : Nat, k ≤ fs.length ∧ i = .int .i64 k ∧ (∀ j (hj : j < fs.length), j < k → fs[j].chk = 0) ∧ Below w.heap.size w x) (fun i _ => fs.length - (intOf i).toNat)
    case atStart => exact ⟨0, Nat.zero_le _, rfl, fun j _ h => by omega, Below.refl _ _⟩
    case round =>
      obtain ⟨k, hk, rfl, H1, B1⟩ := hrel
      by_cases hkl : k < fs.length
      · obtain ⟨b, off, rfl, hb, hR⟩ := HC.out wr B1 k hkl
        have hF := r2Check_any fs[k] wr
        have hck := chk_cases fs[k]
        have HL : Hid (fs[k].chk ≠ 0 → firstE fs = 1 ∧ firstN fs = 0) := by
          intro h
          have e : firstE fs = 1 := by unfold firstE; rw [if_neg h0, allOk_at hkl h]; rfl
          exact ⟨e, by unfold firstN; rw [e]; rfl⟩
        have HJ : Hid (∀ j (hj : j < fs.length), j < k + 1 → fs[k].chk = 0 → fs[j].chk = 0) := by
          intro j hj h1 h2
          rcases Nat.lt_or_ge j k with h3 | h3
          · exact H1 j hj h3
          · have : j = k := by omega
            subst this; exact h2
        unfold Fr.val at hF
        generalize fs[k] = f at *
        go_wp2_with (first | refine fld_ld hR rfl _ rfl rfl ?_)
        refine hF.mono ?_
        rintro e w4 ⟨rfl, B4⟩
        have B5 := B1.trans (B4.mono B1.size)
        clear B1 B4 hF hR
        rcases hck with hck | hck
        · rw [hck]
          have HJ2 : Hid (∀ j (hj : j < fs.length), j < k + 1 → fs[j].chk = 0) := fun j hj h1 => HJ.out j hj h1 hck
          clear HJ HL H1
          go_wp2
          go_roundw
          case rel => exact ⟨k + 1, by omega, by go_num, HJ2.out, B5⟩
          case measure => simp [intOf]; omega
        · rw [hck]
          obtain ⟨e1, e2⟩ := HL.out (by rw [hck]; decide)
          have E1 : Hid (firstE fs = 1) := e1
          have E2 : Hid (firstN fs = 0) := e2
          clear HJ HL H1 e1 e2
          go_wp2
          go_ret2
          exact ⟨by rw [E1.out, E2.out]; rfl, B5⟩
      · have HA : Hid (allOk fs = true) := allOk_of (fun j hj => H1 j hj (by omega))
        have HK : Hid (∀ j (hj : j < fs.length), fs[j].chk = 0) := fun j hj => H1 j hj (by omega)
        have HE5 : Hid (¬ (flds fs).Nodup → firstE fs = 5 ∧ firstN fs = 0) := by
          intro h
          have e : firstE fs = 5 := by unfold firstE; rw [if_neg h0, HA.out, if_pos rfl, if_neg h]
          exact ⟨e, by unfold firstN; rw [e]; rfl⟩
        have HE0 : Hid ((flds fs).Nodup → firstE fs = 0 ∧ firstN fs = best (flds fs) fs.length) := by
          intro h
          have e : firstE fs = 0 := by unfold firstE; rw [if_neg h0, HA.out, if_pos rfl, if_pos h]
          exact ⟨e, by unfold firstN; rw [e, if_pos rfl]⟩
        have HF : Hid (∀ j (hj : j < fs.length) W, Calls Try.prog 48 #[.agg fs[j].arr] W fun e w' => e = .returned (.string (txB (flds fs) j)) ∧ Below W.heap.size W w') := by
          intro j hj W
          rw [txB_at fs j hj]
          exact r2field_any fs[j] W (HK.out j hj)
        clear H1 HK HA
        go_wp2
        go_loopw [4, 7] (fun bs i x => ∃ k : Nat, k ≤ fs.length ∧ i = .int .i64 k ∧ bs = .int .i64 (best (flds fs) k) ∧ ((flds fs).take k).Nodup ∧ Below w.heap.size w x) (fun _ i _ => fs.length - (intOf i).toNat)
        case atStart => exact ⟨0, Nat.zero_le _, rfl, rfl, by simp, B1⟩
        case round =>
          clear B1 hkl hk
          obtain ⟨k2, hk, rfl, rfl, hnd, B1⟩ := hrel
          by_cases hkl : k2 < fs.length
          · obtain ⟨W, hW⟩ : ∃ W, W = wr := ⟨wr, rfl⟩
            subst hW
            go_wp2
            go_loopw [8] (fun i x => ∃ m : Nat, m ≤ k2 ∧ i = .int .i64 m ∧ (∀ j, j < m → (flds fs).getD k2 [] ≠ (flds fs).getD j []) ∧ Below w.heap.size w x) (fun i _ => k2 - (intOf i).toNat)
            case atStart => exact ⟨0, Nat.zero_le _, rfl, fun j h => by omega, B1⟩
            case round =>
              clear B1
              obtain ⟨m, hm, rfl, H2, B1⟩ := hrel
              by_cases hmk : m < k2
              · obtain ⟨b, off, rfl, hb, hR⟩ := HC.out wr B1 k2 hkl
                obtain ⟨b', off', e', _, hR'⟩ := HC.out wr B1 m (by omega)
                simp only [Option.some.injEq, Addr.mk.injEq, and_true] at e'
                obtain ⟨rfl, rfl⟩ := e'
                have s1 := B1.size
                have hbq := txB_beq (flds fs) k2 m
                have hp1 := HF.out k2 hkl
                have hp2 := HF.out m (by omega)
                have hL := Later.some wr
                have hm0 : (m : Int) < (fs.length : Int) := by omega
                have hk0 : (k2 : Int) < (fs.length : Int) := by omega
                generalize fs[k2] = f2 at *
                generalize fs[m]'(by omega) = f1 at *
                generalize txB (flds fs) k2 = X2 at *
                generalize txB (flds fs) m = X1 at *
                by_cases heq : (flds fs).getD k2 [] = (flds fs).getD m []
                · rw [show decide ((flds fs).getD k2 [] = (flds fs).getD m []) = true by simpa using heq] at hbq
                  obtain ⟨e1, e2⟩ := HE5.out (nodup_not (by omega) hmk heq)
                  have E1 : Hid (firstE fs = 5) := e1
                  have E2 : Hid (firstN fs = 0) := e2
                  clear e1 e2 heq H2 hnd
                  go_wp2_with fail
                  refine wp_region_later (by kernel_rfl) (by kernel_rfl) ?_
                  go_big_quiet_step (fail)
                  go_big_quiet_step (fail)
                  go_big_quiet_step (fail)
                  refine quiet_ldm hR (by omega) rfl _ rfl rfl ?_
                  simp only [Act.put, List.setIfInBounds_toArray, List.set_cons_succ, List.set_cons_zero]
                  go_big_quiet_step (first | (go_at_call 48; with_reducible exact later (hp1 _)))
                  go_big_quiet_step (fail)
                  go_big_quiet_step (fail)
                  go_big_quiet_step (fail)
                  refine quiet_ldm hR' (by omega) rfl _ rfl rfl ?_
                  simp only [Act.put, List.setIfInBounds_toArray, List.set_cons_succ, List.set_cons_zero]
                  go_big_quiet_step (first | (go_at_call 48; with_reducible exact later (hp2 _)))
                  go_big_quiet_step (fail)
                  refine wpQuiet_nil ?_
                  rintro _ ⟨x1, rfl⟩
                  have B2 := B1.trans (x1.below.mono (by omega))
                  go_wp2
                  go_ret2
                  exact ⟨by rw [E1.out, E2.out]; rfl, B2⟩
                · rw [show decide ((flds fs).getD k2 [] = (flds fs).getD m []) = false by simpa using heq] at hbq
                  have H3 : Hid (∀ j, j < m + 1 → (flds fs).getD k2 [] ≠ (flds fs).getD j []) := by
                    intro j hj
                    rcases Nat.lt_or_ge j m with h | h
                    · exact H2 j h
                    · have : j = m := by omega
                      rw [this]; exact heq
                  clear heq H2
                  go_wp2_with fail
                  refine wp_region_later (by kernel_rfl) (by kernel_rfl) ?_
                  go_big_quiet_step (fail)
                  go_big_quiet_step (fail)
                  go_big_quiet_step (fail)
                  refine quiet_ldm hR (by omega) rfl _ rfl rfl ?_
                  simp only [Act.put, List.setIfInBounds_toArray, List.set_cons_succ, List.set_cons_zero]
                  go_big_quiet_step (first | (go_at_call 48; with_reducible exact later (hp1 _)))
                  go_big_quiet_step (fail)
                  go_big_quiet_step (fail)
                  go_big_quiet_step (fail)
                  refine quiet_ldm hR' (by omega) rfl _ rfl rfl ?_
                  simp only [Act.put, List.setIfInBounds_toArray, List.set_cons_succ, List.set_cons_zero]
                  go_big_quiet_step (first | (go_at_call 48; with_reducible exact later (hp2 _)))
                  go_big_quiet_step (fail)
                  refine wpQuiet_nil ?_
                  rintro _ ⟨x1, rfl⟩
                  have B2 := B1.trans (x1.below.mono (by omega))
                  go_wp2
                  go_roundw
                  case rel => exact ⟨m + 1, by omega, by go_num, H3.out, B2⟩
                  case measure => simp [intOf]; omega
              · obtain rfl : m = k2 := by omega
                have hbl := best_le (flds fs) m
                have hbn : best (flds fs) m < fs.length := by omega
                obtain ⟨b, off, rfl, hb, hR⟩ := HC.out wr B1 m hkl
                obtain ⟨b', off', e', _, hR'⟩ := HC.out wr B1 (best (flds fs) m) hbn
                simp only [Option.some.injEq, Addr.mk.injEq, and_true] at e'
                obtain ⟨rfl, rfl⟩ := e'
                have s1 := B1.size
                have hbq := txB_less (flds fs) m (best (flds fs) m)
                have hp1 := HF.out m hkl
                have hp2 := HF.out (best (flds fs) m) hbn
                have hL := Later.some wr
                have HN : Hid (((flds fs).take (m + 1)).Nodup) := nodup_next (by omega) hnd H2
                have HB : Hid (best (flds fs) (m + 1) = if (flds fs).getD m [] < (flds fs).getD (best (flds fs) m) [] then m else best (flds fs) m) := rfl
                have hk0 : (m : Int) < (fs.length : Int) := by omega
                have hb0 : (best (flds fs) m : Int) < (fs.length : Int) := by omega
                generalize fs[m] = f2 at *
                generalize fs[best (flds fs) m]'hbn = f1 at *
                generalize txB (flds fs) m = X2 at *
                generalize txB (flds fs) (best (flds fs) m) = X1 at *
                clear H2
                by_cases hlt : (flds fs).getD m [] < (flds fs).getD (best (flds fs) m) []
                · rw [show decide ((flds fs).getD m [] < (flds fs).getD (best (flds fs) m) []) = true by simpa using hlt] at hbq
                  have HB2 : Hid (best (flds fs) (m + 1) = m) := by show _ = _; rw [HB.out, if_pos hlt]
                  clear HB hlt
                  generalize hBM : best (flds fs) m = bm at *
                  clear hBM
                  go_wp2_with fail
                  refine wp_region_later (by kernel_rfl) (by kernel_rfl) ?_
                  go_big_quiet_step (fail)
                  go_big_quiet_step (fail)
                  go_big_quiet_step (fail)
                  refine quiet_ldm hR (by omega) rfl _ rfl rfl ?_
                  simp only [Act.put, List.setIfInBounds_toArray, List.set_cons_succ, List.set_cons_zero]
                  go_big_quiet_step (first | (go_at_call 48; with_reducible exact later (hp1 _)))
                  go_big_quiet_step (fail)
                  go_big_quiet_step (fail)
                  go_big_quiet_step (fail)
                  refine quiet_ldm hR' (by omega) rfl _ rfl rfl ?_
                  simp only [Act.put, List.setIfInBounds_toArray, List.set_cons_succ, List.set_cons_zero]
                  go_big_quiet_step (first | (go_at_call 48; with_reducible exact later (hp2 _)))
                  go_big_quiet_step (fail)
                  refine wpQuiet_nil ?_
                  rintro _ ⟨x1, rfl⟩
                  have B2 := B1.trans (x1.below.mono (by omega))
                  go_wp2
                  go_roundw
                  case rel => exact ⟨m + 1, by omega, by go_num, by rw [HB2.out], HN.out, B2⟩
                  case measure => simp [intOf]; omega
                · rw [show decide ((flds fs).getD m [] < (flds fs).getD (best (flds fs) m) []) = false by simpa using hlt] at hbq
                  have HB2 : Hid (best (flds fs) (m + 1) = best (flds fs) m) := by show _ = _; rw [HB.out, if_neg hlt]
                  clear HB hlt
                  generalize hBM : best (flds fs) m = bm at *
                  clear hBM
                  go_wp2_with fail
                  refine wp_region_later (by kernel_rfl) (by kernel_rfl) ?_
                  go_big_quiet_step (fail)
                  go_big_quiet_step (fail)
                  go_big_quiet_step (fail)
                  refine quiet_ldm hR (by omega) rfl _ rfl rfl ?_
                  simp only [Act.put, List.setIfInBounds_toArray, List.set_cons_succ, List.set_cons_zero]
                  go_big_quiet_step (first | (go_at_call 48; with_reducible exact later (hp1 _)))
                  go_big_quiet_step (fail)
                  go_big_quiet_step (fail)
                  go_big_quiet_step (fail)
                  refine quiet_ldm hR' (by omega) rfl _ rfl rfl ?_
                  simp only [Act.put, List.setIfInBounds_toArray, List.set_cons_succ, List.set_cons_zero]
                  go_big_quiet_step (first | (go_at_call 48; with_reducible exact later (hp2 _)))
                  go_big_quiet_step (fail)
                  refine wpQuiet_nil ?_
                  rintro _ ⟨x1, rfl⟩
                  have B2 := B1.trans (x1.below.mono (by omega))
                  go_wp2
                  go_roundw
                  case rel => exact ⟨m + 1, by omega, by go_num, by rw [HB2.out], HN.out, B2⟩
                  case measure => simp [intOf]; omega
          · obtain rfl : k2 = fs.length := by omega
            rw [List.take_of_length_le (by omega)] at hnd
            obtain ⟨e1, e2⟩ := HE0.out hnd
            have E1 : Hid (firstE fs = 0) := e1
            have E2 : Hid (firstN fs = best (flds fs) fs.length) := e2
            clear e1 e2
            go_wp2
            go_ret2
            exact ⟨by rw [E1.out, E2.out]; rfl, B1⟩
end Go.Proofs.Ytlghjfomliappaa
namespace Go.Proofs.Ytlghjfomliappaa
open Go.RowKit Go.Proofs.Bits
set_option linter.unusedVariables false
set_option maxRecDepth 1000000

theorem own_at {w w' : World} {B : Nat} {e : TypeId} {c : Nat} {v : Value} {n : Nat} {xs : List Value} (h : w.ownsRow B e c v n xs) (hk : ∀ g, v.ownBlock = some g → w'.heap[g]? = w.heap[g]?) : w'.ownsRow B e c v n xs := by
  obtain ⟨hl, h⟩ := h
  refine ⟨hl, ?_⟩
  rcases h with h | ⟨g, cap, cur, rfl, hg, hcur, rest⟩
  · exact .inl h
  · exact .inr ⟨g, cap, cur, rfl, hg, (hk g rfl).trans hcur, rest⟩
theorem own_block_lt {w : World} {B : Nat} {e : TypeId} {c : Nat} {v : Value} {n : Nat} {xs : List Value} (h : w.ownsRow B e c v n xs) {g : Nat} (hg : v.ownBlock = some g) : B ≤ g ∧ g < w.heap.size ∧ ∃ cur, w.heap[g]? = some (.cells cur e (0, 0)) := by
  rcases h.2 with ⟨rfl, _⟩ | ⟨g', cap, cur, rfl, hB, hcur, _⟩
  · cases hg
  · cases hg; exact ⟨hB, (Array.getElem?_eq_some_iff.1 hcur).1, cur, hcur⟩
theorem own_below {w w' : World} {B : Nat} {e : TypeId} {c : Nat} {v : Value} {n : Nat} {xs : List Value} (h : w.ownsRow B e c v n xs) (hb : Below w.heap.size w w') : w'.ownsRow B e c v n xs :=
  own_at h fun g hg => hb.block g (own_block_lt h hg).2.1
/-- A row of another kind of elements stands while this one grows. -/
theorem own_grown {w w' : World} {B B' : Nat} {e e' : TypeId} {c c' : Nat} {v v' : Value} {n n' : Nat} {xs xs' : List Value} (h : w.ownsRow B e c v n xs) (h' : w.ownsRow B' e' c' v' n' xs') (hne : e ≠ e') (hg : w.grownBy w' v'.ownBlock) : w'.ownsRow B e c v n xs :=
  own_at h fun g hgv => hg.block g (own_block_lt h hgv).2.1 (fun hx => by
    obtain ⟨_, _, cur, h1⟩ := own_block_lt h hgv
    obtain ⟨_, _, cur', h2⟩ := own_block_lt h' hx.symm
    rw [h1] at h2
    simp at h2
    exact hne h2.2)
theorem block_grown {w w' : World} {B' : Nat} {e e' : TypeId} {c' : Nat} {v' : Value} {n' : Nat} {xs' : List Value} {g : Nat} {A : Array Value} {fr : Nat × Nat} (h : w.heap[g]? = some (.cells A e fr)) (h' : w.ownsRow B' e' c' v' n' xs') (hne : e ≠ e') (hg : w.grownBy w' v'.ownBlock) : w'.heap[g]? = some (.cells A e fr) :=
  (hg.block g (Array.getElem?_eq_some_iff.1 h).1 (fun hx => by
    obtain ⟨_, _, cur', h2⟩ := own_block_lt h' hx.symm
    rw [h] at h2
    simp at h2
    exact hne h2.2.1)).trans h
theorem own_shape {w : World} {B : Nat} {e : TypeId} {c : Nat} {v : Value} {n : Nat} {xs : List Value} (h : w.ownsRow B e c v n xs) : ∃ ao cap, v = .slice ao n cap := by
  rcases h.2 with ⟨rfl, rfl⟩ | ⟨g', cap, cur, rfl, hB, hcur, _⟩
  · exact ⟨_, _, rfl⟩
  · exact ⟨_, _, rfl⟩
theorem below_grown {w0 w w' : World} {B : Nat} {e : TypeId} {c : Nat} {v : Value} {n : Nat} {xs : List Value} (hb : Below B w0 w) (h : w.ownsRow B e c v n xs) (hB : B ≤ w.heap.size) (hg : w.grownBy w' v.ownBlock) : Below B w0 w' :=
  hb.grown hg hB (fun k hk => (own_block_lt h hk).1)
theorem Sa.range {w : World} {q : Nat} {s : Se} (h : Sa q s w) : w.rangeAt q 2 s.f.cells := by
  intro j v hj
  rw [Lib.cell_of_heap h]
  have : s.arr[2 + j]? = s.f.cells[j]? := by
    unfold Se.arr Se.cells
    rw [List.getElem?_toArray, List.getElem?_append_right (by simp)]
    simp
  rw [this]; exact hj
def beE (l : List Se) : Int := if who l = [] then 0 else firstE (frs l)
def rnB (l : List Se) (r : Rn) : Rn := if who l = [] then { r with win := -1 } else if firstE (frs l) = 0 then { r with win := winN l, len := winL l } else r
theorem firstE_neg (fs : List Fr) : firstE fs = 0 ∨ firstE fs = 1 ∨ firstE fs = 3 ∨ firstE fs = 5 := by
  unfold firstE; split
  · simp
  · split
    · split <;> simp
    · simp
theorem first_small {fs : List Fr} (h : firstE fs = 0) : firstN fs < fs.length := by
  have h0 : ¬ fs.length = 0 := by intro h0; unfold firstE at h; rw [if_pos h0] at h; simp at h
  unfold firstN
  rw [if_pos h]
  have := best_lt (flds fs) fs.length (by omega)
  simpa [flds_length] using this
theorem winF_eq {l : List Se} (h : firstE (frs l) = 0) (hk : firstN (frs l) < (frs l).length) : (frs l)[firstN (frs l)] = winF l := by
  unfold winF winN
  have e : (frs l)[firstN (frs l)]? = some ((fun i => (seAt l i).f) ((who l).getD (firstN (frs l)) 0)) := by
    have hk2 : firstN (frs l) < (who l).length := (frsK_length l l.length) ▸ hk
    show ((who l).map _)[_]? = _
    rw [List.getElem?_map, List.getElem?_eq_getElem hk2]
    simp [List.getD_eq_getElem?_getD, List.getElem?_eq_getElem hk2]
  rw [List.getElem?_eq_getElem hk] at e
  simpa using e
set_option maxHeartbeats 4000000 in
theorem begin_any {w0 : World} {q ge gg : Nat} {v : Value} {l : List Se} {r : Rn} {w : World} (hl : l.length ≤ 127) (hS : Senders w0 v l) (h : RunAt w0 q ge gg v l.length r w) :
    Calls Try.prog 46 #[.pointer (some ⟨q, 0, none⟩)] w fun e w' => e = .returned (.int .i64 (beE l)) ∧ RunAt w0 q ge gg v l.length (rnB l r) w' := by
  have hS1 := hS
  obtain ⟨ao, cap, rfl, _, hc⟩ := hS
  have HC : Hid (∀ (wr : World), Below w.heap.size w wr → ∀ k (hk : k < l.length), ∃ b off, ao = some ⟨b, off, none⟩ ∧ b < w0.heap.size ∧ wr.rangeAt b (off + k * 14) l[k].cells) := fun wr hb k hk => Wide.at hc (h.bel.trans (hb.mono h.bel.size)) k hk
  have HE : Hid (beE l = if (whoK l l.length).length = 0 then 0 else firstE (frsK l l.length)) := by
    show _ = _; unfold beE; simp only [List.length_eq_zero_iff]; rfl
  have HB : Hid (rnB l r = if (whoK l l.length).length = 0 then { r with win := -1 } else if firstE (frsK l l.length) = 0 then { r with win := winN l, len := winL l } else r) := by
    show _ = _; unfold rnB; simp only [List.length_eq_zero_iff]; rfl
  generalize beE l = E at *
  generalize rnB l r = RB at *
  obtain ⟨c0, c1, c2, c3, c4, c5, c6, c7, hf⟩ := h.ru.cells
  have qs := h.bel.size
  clear hc
  go_enter Try.func46, Try.ntmps46
  go_wp2
  go_loopw [3, 4, 16] (fun pv fv i x => ∃ k : Nat, k ≤ l.length ∧ i = .int .i64 k ∧ Below w.heap.size w x ∧ x.ownsRow w.heap.size 3 1 pv ((whoK l k).map natV).length ((whoK l k).map natV) ∧ x.ownsRow w.heap.size 38 12 fv (frsK l k).length (flatW DF (frsK l k))) (fun _ _ i _ => l.length - (intOf i).toNat)
  case atStart => exact ⟨0, Nat.zero_le _, rfl, Below.refl _ _, World.ownsRow_nil _ _ _ _, World.ownsRow_nil _ _ _ _⟩
  case round =>
    clear c0 c1 c2 c3 c4 c5 c6 c7 hf
    obtain ⟨k, hk, rfl, B1, P1, F1⟩ := hrel
    have s1 := B1.size
    have hwk := whoK_le l k
    have hlk := frsK_length l k
    by_cases hkl : k < l.length
    · obtain ⟨b, off, rfl, hb, hR⟩ := HC.out wr B1 k hkl
      have gn := Sa.new wr Se.nul
      have g3 := gn.row l[k]
      have e0 := g3.c0
      have e1 := g3.c1
      have bb : Below wr.heap.size wr ((wr.alloc (.cells Se.nul.arr 40)).setRow wr.heap.size l[k].arr) := below_row ((Below.refl _ wr).alloc (Nat.le_refl _) _) (Nat.le_refl _) (by rw [size_alloc]; omega) _
      have B3 := B1.trans (bb.mono s1)
      have P3 := own_below P1 bb
      have F3 := own_below F1 bb
      have HW : Hid (whoK l (k + 1) = whoK l k ++ if l[k].up && l[k].sends then [k] else []) := by
        have := whoK_succ l k; unfold sndAt at this; rw [seAt_eq hkl] at this; exact this
      have HFr : Hid (frsK l (k + 1) = frsK l k ++ if l[k].up && l[k].sends then [l[k].f] else []) := by
        have := frsK_succ l k; unfold sndAt at this; rw [seAt_eq hkl] at this; exact this
      have g3r := g3.range
      clear HC bb P1 F1 B1
      generalize l[k] = s at *
      have hm : ((whoK l k).map natV).length = (whoK l k).length := by simp
      generalize hup : s.up = up at *
      generalize hse : s.sends = se at *
      cases up
      · have H1 : Hid (whoK l (k + 1) = whoK l k) := by show _ = _; rw [HW.out]; simp
        have H2 : Hid (frsK l (k + 1) = frsK l k) := by show _ = _; rw [HFr.out]; simp
        clear HW HFr
        go_wp2_with (first | refine se_ld hR rfl _ rfl rfl ?_ | refine gn.sd s rfl _ _ rfl rfl rfl ?_)
        go_roundw
        case rel => exact ⟨k + 1, by omega, by go_num, B3, by rw [H1.out]; exact P3, by rw [H2.out]; exact F3⟩
        case measure => simp [intOf]; omega
      · cases se
        · have H1 : Hid (whoK l (k + 1) = whoK l k) := by show _ = _; rw [HW.out]; simp
          have H2 : Hid (frsK l (k + 1) = frsK l k) := by show _ = _; rw [HFr.out]; simp
          clear HW HFr
          go_wp2_with (first | refine se_ld hR rfl _ rfl rfl ?_ | refine gn.sd s rfl _ _ rfl rfl rfl ?_)
          go_roundw
          case rel => exact ⟨k + 1, by omega, by go_num, B3, by rw [H1.out]; exact P3, by rw [H2.out]; exact F3⟩
          case measure => simp [intOf]; omega
        · have H1 : Hid ((whoK l (k + 1)).map natV = (whoK l k).map natV ++ [natV k]) := by show _ = _; rw [HW.out]; simp
          have H2 : Hid (frsK l (k + 1) = frsK l k ++ [s.f]) := by show _ = _; rw [HFr.out]; simp
          clear HW HFr
          generalize (whoK l k).map natV = xs at *
          generalize frsK l k = fs at *
          generalize hW3 : (wr.alloc (.cells Se.nul.arr 40)).setRow wr.heap.size s.arr = W3 at *
          have s3 := B3.size
          go_wp2_with (first | refine se_ld hR rfl _ rfl rfl ?_ | (refine gn.sd s rfl _ _ rfl rfl rfl ?_; rw [hW3]) | (at_builtin; refine append_slots rfl _ _ 71 3 (.int .i64 0) 8 Try.underlying71 infoI rfl rfl w.heap.size _ xs rfl (by exact ownsRow_alloc P3 _) _ [natV k] rfl (by exact slots_new W3 _ _) (by intro u hu; simp at hu; subst hu; rfl) (by unfold maxLen; simp; omega) (by simp; omega) (by rw [size_alloc]; omega) ?_))
          intro v4 w4 P4 G4 _
          have F4 := own_grown (ownsRow_alloc F3 _) (ownsRow_alloc P3 _) (by decide) G4
          have B4 := below_grown (B3.alloc s3 _) (ownsRow_alloc P3 _) (by rw [size_alloc]; omega) G4
          have g4 : Sa wr.heap.size s w4 := block_grown ((Below.heap_alloc W3 _ _ (by rw [← hW3]; simp [World.setRow])).trans g3) (ownsRow_alloc P3 _) (by decide) G4
          have r4 := g4.range
          have s4 := B4.size
          clear F3 B3 G4 g3 g3r P3 hR gn g4 e0 e1 hW3
          have HP4 : Hid (w4.ownsRow w.heap.size 3 1 v4 ((whoK l (k + 1)).map natV).length ((whoK l (k + 1)).map natV)) := by
            show World.ownsRow _ _ _ _ _ _ _
            rw [H1.out]; simpa [hm] using P4
          clear P4
          go_wp2_with (first | refine fld_ld r4 rfl _ rfl rfl ?_ | refine one_bs DF s.f 42 38 _ _ rfl _ rfl rfl Try.underlying42 infoFZ (by decide) ?_ | (at_builtin; refine append_wide DF rfl _ _ 42 38 _ _ Try.underlying42 infoFZ rfl rfl w.heap.size _ fs rfl (by exact ownsRow_alloc F4 _) _ [s.f] rfl (by exact wide_new DF w4 s.f 38) (by unfold maxLen; simp; omega) (by simp; omega) (by rw [size_alloc]; omega) ?_))
          intro v5 w5 F5 G5
          have P5 : Hid (w5.ownsRow w.heap.size 3 1 v4 ((whoK l (k + 1)).map natV).length ((whoK l (k + 1)).map natV)) := own_grown (ownsRow_alloc HP4.out _) (ownsRow_alloc F4 _) (by decide) G5
          have F6 : Hid (w5.ownsRow w.heap.size 38 12 v5 (frsK l (k + 1)).length (flatW DF (frsK l (k + 1)))) := by
            show World.ownsRow _ _ _ _ _ _ _
            have e : (fs ++ [s.f]).length = (whoK l k).length + 1 := by simp [hlk]
            rw [H2.out, e]; exact F5
          have B5 := below_grown (B4.alloc s4 _) (ownsRow_alloc F4 _) (by rw [size_alloc]; omega) G5
          clear F4 B4 G5 HP4 r4 F5
          go_wp2
          go_roundw
          case rel => exact ⟨k + 1, by omega, by go_num, B5, P5.out, F6.out⟩
          case measure => simp [intOf]; omega
    · obtain rfl : k = l.length := by omega
      clear HC
      have h1 := h.below B1
      obtain ⟨ao1, cap1, hv1⟩ := own_shape F1
      rw [hlk] at hv1
      by_cases hw0 : (whoK l l.length).length = 0
      · have HE2 : Hid (E = 0) := by show _ = _; rw [HE.out, if_pos hw0]
        have HB2 : Hid (RB = { r with win := -1 }) := by show _ = _; rw [HB.out, if_pos hw0]
        have h2 : Hid _ := h1.set0 (-1)
        obtain ⟨c0, c1, c2, c3, c4, c5, c6, c7, hf⟩ := h1.ru.cells
        rw [hw0] at hv1
        subst hv1
        clear F1 P1 HE HB h1
        go_wp2
        go_ret
        exact ⟨ret_int HE2.out.symm, by rw [HB2.out]; exact h2.out⟩
      · have Fr1 : Frames wr _ (frsK l l.length) := wide_of_own DF F1
        have hFi := First_any _ _ wr (by omega) Fr1
        have hd : ((((whoK l l.length).length : Nat) : Int) == 0) = false := by rw [beq_eq_false_iff_ne]; omega
        subst hv1
        rw [if_neg hw0] at HE HB
        rcases (by rcases firstE_neg (frsK l l.length) with h | h | h | h <;> simp [h] : firstE (frsK l l.length) = 0 ∨ firstE (frsK l l.length) ≠ 0) with hz | hz
        · have hsm : firstN (frsK l l.length) < (frsK l l.length).length := first_small hz
          have HE2 : Hid (E = 0) := by show _ = _; rw [HE.out, hz]
          have HB2 : Hid (RB = { r with win := winN l, len := winL l }) := by show _ = _; rw [HB.out, if_pos hz]
          have hfe : (frsK l l.length)[firstN (frsK l l.length)] = winF l := winF_eq (l := l) hz hsm
          have hA := alone_any (q := q) (r := r) (ve := natV 0) (vg := natV 0) hl (hS1.below h1.bel) h1.ru.cells.2.2.2.2.2.1
          have hEn := fEncode_any (winF l) (!alone l)
          have hlen := stuffed_bound (winF l) (!alone l)
          have HL : Hid (winL l = (encV (winF l) (!alone l)).length) := rfl
          have HWn : Hid (∀ j (hj : j < ((whoK l l.length).map natV).length), j = firstN (frsK l l.length) → ((whoK l l.length).map natV)[j] = natV (winN l)) := by
            rintro j hj rfl
            have hj2 : firstN (frsK l l.length) < (whoK l l.length).length := by simpa using hj
            rw [List.getElem_map]
            unfold winN who frs
            simp [List.getD_eq_getElem?_getD, List.getElem?_eq_getElem hj2]
          obtain ⟨ao2, cap2, hv2, _, hc2⟩ := Fr1
          obtain ⟨b2, off2, hao2, hb2, hR2⟩ := hc2 _ hsm
          have S3 := slots_of_own P1
          obtain ⟨ao3, cap3, hv3, _, hc3⟩ := S3
          have hj3 : firstN (frsK l l.length) < ((whoK l l.length).map natV).length := by simpa [← hlk] using hsm
          obtain ⟨b3, off3, hao3, hb3, hC3⟩ := hc3 _ hj3
          rw [HWn.out _ hj3 rfl] at hC3
          rw [hfe] at hR2
          have hl3 : ((whoK l l.length).map natV).length = (whoK l l.length).length := by simp
          rw [hlk] at hv2
          rw [hl3] at hv3
          subst hv3 hao2 hao3
          rw [hv2] at hFi
          rw [hv2]
          rw [hz] at hFi
          have hfs : firstN (frsK l l.length) < (whoK l l.length).length := by omega
          generalize firstN (frsK l l.length) = fi at *
          clear F1 P1 HE HB HWn hc2 hc3 hfe hz hv2
          go_wp2_with fail
          refine hFi.mono ?_
          rintro e w2 ⟨rfl, B2⟩
          have h2 := h1.below B2
          have hR3 : w2.rangeAt b2 (off2 + fi * 12) (winF l).cells := fun j v hv => (B2.cell (p := ⟨b2, off2 + fi * 12 + j, none⟩) hb2).trans (hR2 j v hv)
          have hC4 := (B2.cell (p := ⟨b3, off3 + fi, none⟩) hb3).trans hC3
          have hb2' : b2 < w2.heap.size := Nat.lt_of_lt_of_le hb2 B2.size
          have hb3' : b3 < w2.heap.size := Nat.lt_of_lt_of_le hb3 B2.size
          have hA : ∀ x : Later w2, Calls Try.prog 73 #[.pointer (some ⟨q, 0, none⟩)] x.now fun e w' => e = .returned (.bool (alone l)) ∧ Below x.now.heap.size x.now w' := fun x => alone_any (q := q) (r := r) (ve := natV 0) (vg := natV 0) hl (hS1.below (h2.below x.below).bel) (h2.below x.below).ru.cells.2.2.2.2.2.1
          have HX : Hid (∀ x : Later w2, RunAt w0 q ge gg _ l.length r x.now ∧ x.now.cell? ⟨b3, off3 + fi, none⟩ = some (natV (winN l))) := fun x => ⟨h2.below x.below, (x.below.cell (p := ⟨b3, off3 + fi, none⟩) hb3').trans hC4⟩
          have hL := Later.some w2
          clear hFi B2 h1 h2 hR2 hC3 hC4 B1 hS1
          unfold natV at HX
          unfold Fr.val at hEn
          generalize hal : alone l = al at *
          go_wp2_with fail
          refine wp_region_later (by kernel_rfl) (by kernel_rfl) ?_
          go_big_quiet_step (fail)
          go_big_quiet_step (fail)
          go_big_quiet_step (fail)
          refine quiet_ldm hR3 hb2' rfl _ rfl rfl ?_
          simp only [Act.put, List.setIfInBounds_toArray, List.set_cons_succ, List.set_cons_zero]
          go_big_quiet_step (fail)
          go_big_quiet_step (first | (go_at_call 73; with_reducible exact later (hA _)))
          go_big_quiet_step (fail)
          go_big_quiet_step (first | (go_at_call 22; with_reducible exact later (hEn _)))
          repeat (go_big_quiet_step (fail))
          refine wpQuiet_nil ?_
          rintro _ ⟨x1, rfl⟩
          obtain ⟨h3, hC5⟩ := HX.out x1
          obtain ⟨c0, c1, c2, c3, c4, c5, c6, c7, hf⟩ := h3.ru.cells
          have HZ : Hid _ := (h3.set0 (winN l)).set6 (winL l)
          rw [HL.out] at HZ
          generalize encV (winF l) (!al) = T at *
          clear hA hEn HX h3 hL hR3
          go_wp2
          go_ret
          exact ⟨ret_int HE2.out.symm, by rw [HB2.out, HL.out]; exact HZ.out⟩
        · have HE2 : Hid (E = firstE (frsK l l.length)) := HE.out
          have HB2 : Hid (RB = r) := by show _ = _; rw [HB.out, if_neg hz]
          have hd2 : (firstE (frsK l l.length) != 0) = true := by simpa using hz
          generalize firstE (frsK l l.length) = fe at *
          clear F1 P1 HE HB
          go_wp2_with fail
          refine hFi.mono ?_
          rintro e w2 ⟨rfl, B2⟩
          have h2 := h1.below B2
          go_wp2
          go_ret
          exact ⟨ret_int HE2.out.symm, by rw [HB2.out]; exact h2⟩
end Go.Proofs.Ytlghjfomliappaa
namespace Go.Proofs.Ytlghjfomliappaa
open Go.RowKit Go.Proofs.Bits
set_option linter.unusedVariables false
set_option maxRecDepth 1000000

theorem infoEr : (Try.prog.info? 28).map (fun i => (i.zero, i.size, i.bytes)) = some (some (.int .i64 0), 1, 8) := by kernel_rfl
theorem infoBo : (Try.prog.info? 4).map (fun i => (i.zero, i.size, i.bytes)) = some (some (.bool false), 1, 1) := by kernel_rfl
theorem infoRu : (Try.prog.info? 67).map (·.size) = some 8 := by kernel_rfl
def nilV : Value := .slice none 0 0
def rnZ : Rn := ⟨0, 0, false, [], [], 0, 0⟩
def zArr : Array Value := rnZ.arr nilV nilV nilV
theorem Ru.range {q : Nat} {r : Rn} {ve vg v : Value} {w : World} (h : Ru q r ve vg v w) : w.rangeAt q 0 (r.arr ve vg v).toList := by
  intro j u hj
  rw [Lib.cell_of_heap h, Nat.zero_add]
  simpa using hj
theorem Ru.ld {q : Nat} {r : Rn} {ve vg v : Value} {w : World} {ops : Array Oper} {rest : List Oper} {p : Oper} {a : Act} {Q : Exit → Act → World → Prop} (h : Ru q r ve vg v w) (hgd : p.guard = none) (x : Operand) (ho : p.op = .load 67 x) (hx : a.eval x = .pointer (some ⟨q, 0, none⟩))
    (hh : wpList Try.prog ops Q rest (a.put p.dst (.agg (r.arr ve vg v))) w) : wpList Try.prog ops Q (p :: rest) a w :=
  wpList_load_mid hgd 67 x ho q 0 hx (r.arr ve vg v).toList _ h.range Try.underlying67 rfl (by rw [infoRu]; rfl) hh
theorem Ru.row {q : Nat} {r : Rn} {ve vg v : Value} {w : World} (h : Ru q r ve vg v w) (r' : Rn) (ve' vg' v' : Value) : Ru q r' ve' vg' v' (w.setRow q (r'.arr ve' vg' v')) := setRow_heap w q _ _ 67 _ h
def okV (v : Value) : Prop := v.oneCell' = true
theorem Ru.sd {q : Nat} {r : Rn} {ve vg v : Value} {w : World} {ops : Array Oper} {rest : List Oper} {o : Oper} {a : Act} {Q : Exit → Act → World → Prop} (h : Ru q r ve vg v w) (r' : Rn) (ve' vg' v' : Value) (h1 : okV ve') (h2 : okV vg') (h3 : okV v') (hgd : o.guard = none) (x y : Operand) (ho : o.op = .store 67 x y) (hx : a.eval x = .pointer (some ⟨q, 0, none⟩)) (hy : a.eval y = .agg (r'.arr ve' vg' v'))
    (hh : wpList Try.prog ops Q rest (a.put o.dst undef) (w.setRow q (r'.arr ve' vg' v'))) : wpList Try.prog ops Q (o :: rest) a w :=
  wpList_store_row hgd 67 x y ho q _ hx hy 67 _ h infoRu rfl (by unfold okV at *; simp [Rn.arr, Value.oneCell'] at *; exact ⟨h1, h2, h3⟩) hh
theorem Ru.new (w : World) (r : Rn) (ve vg v : Value) : Ru w.heap.size r ve vg v (w.alloc (.cells (r.arr ve vg v) 67)) := heap_alloc_new w _
theorem below_beg {l : List Se} (h : beE l = 0) (hw : ¬ who l = []) : rnB l (rn0 l) = rnW l ∧ winN l < l.length := by
  unfold beE at h
  rw [if_neg hw] at h
  refine ⟨by unfold rnB; rw [if_neg hw, if_pos h]; rfl, ?_⟩
  have hs := first_small h
  have hk2 : firstN (frs l) < (who l).length := (frsK_length l l.length) ▸ hs
  unfold winN
  rw [List.getD_eq_getElem?_getD, List.getElem?_eq_getElem hk2]
  have : (who l)[firstN (frs l)] ∈ who l := List.getElem_mem hk2
  unfold who whoK at this
  have := (List.mem_filter.1 this).1
  exact List.mem_range.1 this
theorem look_ok {n : Nat} {fl : List Fl} (h : lookV n fl = 0) : n ≤ 127 ∧ fl.length ≤ 65536 ∧ ∀ f ∈ fl, 0 ≤ f.nd ∧ f.nd < n ∧ 0 ≤ f.bit := by
  unfold lookV at h
  by_cases h1 : 127 < n
  · rw [if_pos h1] at h; simp at h
  · rw [if_neg h1] at h
    by_cases h2 : 65536 < fl.length
    · rw [if_pos h2] at h; simp at h
    · rw [if_neg h2] at h
      cases ha : fl.any (wrongB n)
      · rw [List.any_eq_false] at ha
        refine ⟨by omega, by omega, fun f hf => ?_⟩
        have := ha f hf
        unfold wrongB at this
        simp at this
        omega
      · rw [ha] at h; simp at h
abbrev rn1 : Rn := ⟨0, 0, false, [], [], 0, -1⟩
theorem rn0_arr (l : List Se) (a b c : Value) : (rn0 l).arr a b c = rn1.arr a b c := rfl
abbrev errsO (n : Nat) : Obj := .cells (madeCells #[.int .i64 0] n) 28
abbrev gotO (n : Nat) : Obj := .cells (madeCells #[.bool false] n) 4
theorem Ru.set34 {q : Nat} {r : Rn} {ve vg v : Value} {w : World} (h : Ru q r ve vg v w) (ve' vg' : Value) : Ru q r ve' vg' v ((w.setCell ⟨q, 3, none⟩ ve').setCell ⟨q, 4, none⟩ vg') := by
  unfold Ru Rn.arr at *; simp [World.setCell, Array.getElem?_modify, h]
theorem row_errs (W : World) (n : Nat) : Row (W.alloc (errsO n)) W.heap.size ((List.replicate n (0 : Int)).map errV) := by
  have := Row.made W (.int .i64 0) n 28
  simpa [errV] using this
theorem row_got (W : World) (n : Nat) : Row (W.alloc (gotO n)) W.heap.size ((List.replicate n false).map Value.bool) := by
  have := Row.made W (.bool false) n 4
  simpa using this
theorem run_start1 (w2 : World) (v : Value) (l : List Se) : RunAt w2 w2.heap.size (w2.heap.size + 1) (w2.heap.size + 1 + 1) v l.length (rn0 l) (((((((w2.alloc (.cells (rnZ.arr nilV nilV nilV) 67)).setRow w2.heap.size (rn1.arr nilV nilV v)).setCell ⟨w2.heap.size, 3, none⟩ (.slice (some ⟨w2.heap.size + 1, 0, none⟩) l.length l.length)).setCell ⟨w2.heap.size, 4, none⟩ (.slice (some ⟨w2.heap.size + 1 + 1, 0, none⟩) l.length l.length)).alloc (errsO l.length)).alloc (gotO l.length)).drew) := by
  have gn := Ru.new w2 rnZ nilV nilV nilV
  have g3 : Ru _ (rn0 l) nilV nilV v _ := gn.row rn1 nilV nilV v
  have g4 := g3.set34 (sl (w2.heap.size + 1) l.length) (sl (w2.heap.size + 1 + 1) l.length)
  have B4 : Below w2.heap.size w2 ((((w2.alloc (.cells (rnZ.arr nilV nilV nilV) 67)).setRow w2.heap.size (rn1.arr nilV nilV v)).setCell ⟨w2.heap.size, 3, none⟩ (sl (w2.heap.size + 1) l.length)).setCell ⟨w2.heap.size, 4, none⟩ (sl (w2.heap.size + 1 + 1) l.length)) :=
    ((below_row ((Below.refl _ w2).alloc (Nat.le_refl _) _) (Nat.le_refl _) (by rw [size_alloc]; omega) _).setCell (p := ⟨w2.heap.size, 3, none⟩) (Nat.le_refl _) _).setCell (p := ⟨w2.heap.size, 4, none⟩) (Nat.le_refl _) _
  have hs : ((((w2.alloc (.cells (rnZ.arr nilV nilV nilV) 67)).setRow w2.heap.size (rn1.arr nilV nilV v)).setCell ⟨w2.heap.size, 3, none⟩ (sl (w2.heap.size + 1) l.length)).setCell ⟨w2.heap.size, 4, none⟩ (sl (w2.heap.size + 1 + 1) l.length)).heap.size = w2.heap.size + 1 := by simp [World.setCell, World.setRow]
  unfold sl at hs B4 g4
  generalize (((w2.alloc (.cells (rnZ.arr nilV nilV nilV) 67)).setRow w2.heap.size (rn1.arr nilV nilV v)).setCell ⟨w2.heap.size, 3, none⟩ (.slice (some ⟨w2.heap.size + 1, 0, none⟩) l.length l.length)).setCell ⟨w2.heap.size, 4, none⟩ (.slice (some ⟨w2.heap.size + 1 + 1, 0, none⟩) l.length l.length) = W4 at *
  have e1 := row_errs W4 l.length
  have e2 := row_got (W4.alloc (errsO l.length)) l.length
  rw [size_alloc, hs] at e2
  rw [hs] at e1
  have b1 : Below W4.heap.size W4 ((W4.alloc (errsO l.length)).alloc (gotO l.length)).drew := below_drawn (((Below.refl _ W4).alloc (Nat.le_refl _) _).alloc (by rw [size_alloc]; omega) _) 1
  exact ⟨B4.trans (b1.mono B4.size), g4.below b1, (e1.kept (Below.heap_alloc _ _ _ (by rw [size_alloc]; omega))).below (below_drawn (Below.refl _ _) 1), e2.below (below_drawn (Below.refl _ _) 1), Nat.le_refl _, by omega, by omega, by omega, by omega, by omega, by simp [rn0], by simp [rn0]⟩
theorem run_start2 (w2 : World) (v : Value) (l : List Se) : RunAt w2 w2.heap.size (w2.heap.size + 1 + 1) (w2.heap.size + 1) v l.length (rn0 l) (((((((w2.alloc (.cells (rnZ.arr nilV nilV nilV) 67)).setRow w2.heap.size (rn1.arr nilV nilV v)).setCell ⟨w2.heap.size, 3, none⟩ (.slice (some ⟨w2.heap.size + 1 + 1, 0, none⟩) l.length l.length)).setCell ⟨w2.heap.size, 4, none⟩ (.slice (some ⟨w2.heap.size + 1, 0, none⟩) l.length l.length)).alloc (gotO l.length)).alloc (errsO l.length)).drew) := by
  have gn := Ru.new w2 rnZ nilV nilV nilV
  have g3 : Ru _ (rn0 l) nilV nilV v _ := gn.row rn1 nilV nilV v
  have g4 := g3.set34 (sl (w2.heap.size + 1 + 1) l.length) (sl (w2.heap.size + 1) l.length)
  have B4 : Below w2.heap.size w2 ((((w2.alloc (.cells (rnZ.arr nilV nilV nilV) 67)).setRow w2.heap.size (rn1.arr nilV nilV v)).setCell ⟨w2.heap.size, 3, none⟩ (sl (w2.heap.size + 1 + 1) l.length)).setCell ⟨w2.heap.size, 4, none⟩ (sl (w2.heap.size + 1) l.length)) :=
    ((below_row ((Below.refl _ w2).alloc (Nat.le_refl _) _) (Nat.le_refl _) (by rw [size_alloc]; omega) _).setCell (p := ⟨w2.heap.size, 3, none⟩) (Nat.le_refl _) _).setCell (p := ⟨w2.heap.size, 4, none⟩) (Nat.le_refl _) _
  have hs : ((((w2.alloc (.cells (rnZ.arr nilV nilV nilV) 67)).setRow w2.heap.size (rn1.arr nilV nilV v)).setCell ⟨w2.heap.size, 3, none⟩ (sl (w2.heap.size + 1 + 1) l.length)).setCell ⟨w2.heap.size, 4, none⟩ (sl (w2.heap.size + 1) l.length)).heap.size = w2.heap.size + 1 := by simp [World.setCell, World.setRow]
  unfold sl at hs B4 g4
  generalize (((w2.alloc (.cells (rnZ.arr nilV nilV nilV) 67)).setRow w2.heap.size (rn1.arr nilV nilV v)).setCell ⟨w2.heap.size, 3, none⟩ (.slice (some ⟨w2.heap.size + 1 + 1, 0, none⟩) l.length l.length)).setCell ⟨w2.heap.size, 4, none⟩ (.slice (some ⟨w2.heap.size + 1, 0, none⟩) l.length l.length) = W4 at *
  have e1 := row_got W4 l.length
  have e2 := row_errs (W4.alloc (gotO l.length)) l.length
  rw [size_alloc, hs] at e2
  rw [hs] at e1
  have b1 : Below W4.heap.size W4 ((W4.alloc (gotO l.length)).alloc (errsO l.length)).drew := below_drawn (((Below.refl _ W4).alloc (Nat.le_refl _) _).alloc (by rw [size_alloc]; omega) _) 1
  exact ⟨B4.trans (b1.mono B4.size), g4.below b1, e2.below (below_drawn (Below.refl _ _) 1), (e1.kept (Below.heap_alloc _ _ _ (by rw [size_alloc]; omega))).below (below_drawn (Below.refl _ _) 1), Nat.le_refl _, by omega, by omega, by omega, by omega, by omega, by simp [rn0], by simp [rn0]⟩
/-- What run answers. -/
def RunRes (l : List Se) (fl : List Fl) (v : Value) (w : World) (e : Ending) (w' : World) : Prop :=
  (rndE l fl ≠ 0 → e = .returned (.tuple #[.agg zArr, .int .i64 (rndE l fl)])) ∧
  (rndE l fl = 0 → ∃ ge gg, e = .returned (.tuple #[.agg ((rnd l fl).arr (sl ge l.length) (sl gg l.length) v), .int .i64 0]) ∧ Row w' ge ((rnd l fl).errs.map errV) ∧ Row w' gg ((rnd l fl).got.map Value.bool) ∧ w.heap.size ≤ ge ∧ w.heap.size ≤ gg ∧ ge ≠ gg ∧ (rnd l fl).errs.length = l.length ∧ (rnd l fl).got.length = l.length) ∧ Below w.heap.size w w'
set_option maxHeartbeats 4000000 in
theorem run_any (v vf : Value) (l : List Se) (fl : List Fl) (w : World) (hl : l.length ≤ maxLen) (hfl : fl.length ≤ maxLen) (hS : Senders w v l) (hF : Flips w vf fl) :
    Calls Try.prog 24 #[v, vf] w fun e w' => RunRes l fl v w e w' := by
  unfold maxLen at hl
  have B1 : Below w.heap.size w (w.alloc (.cells zArr 67)) := (Below.refl _ _).alloc (Nat.le_refl _) _
  have hLk := blook_any l.length vf fl _ hfl (hF.below B1)
  have R1 := Ru.new w rnZ nilV nilV nilV
  have hS1 := hS.below B1
  have hF1 := hF.below B1
  have hv : okV v := by obtain ⟨ao, cap, rfl, _⟩ := hS; rfl
  by_cases h0 : lookV l.length fl = 0
  · obtain ⟨h127, h65, hok⟩ := look_ok h0
    have hm1 := run_make_row' (P := Try.prog) 24 28 (.int .i64 0) 8 Try.underlying24 infoEr rfl .i64 .i64 l.length (by omega) (by omega)
    have hm2 := run_make_row' (P := Try.prog) 25 4 (.bool false) 1 Try.underlying25 infoBo rfl .i64 .i64 l.length (by omega) (by omega)
    have hd : (lookV l.length fl != 0) = false := by simpa using h0
    have HS1 : Hid _ := hS1
    have HF1 : Hid _ := hF1
    have HOK : Hid _ := hok
    have HE : Hid (rndE l fl = beE l) := by show _ = _; unfold rndE beE; rw [if_neg (by simpa using h0)]
    obtain ⟨ao, cap, rfl, _⟩ := hS
    generalize lookV l.length fl = lv at *
    subst h0
    clear hS1 hF1 hF hok
    go_enter Try.func24, Try.ntmps24
    go_wp2_with fail
    refine hLk.mono ?_
    rintro e w2 ⟨rfl, B2⟩
    have R2 := R1.below B2
    have B3 := B1.trans (B2.mono B1.size)
    have gn := Ru.new w2 rnZ nilV nilV nilV
    have g3 := gn.row ⟨0, 0, false, [], [], 0, -1⟩ nilV nilV (.slice ao l.length cap)
    obtain ⟨c0, c1, c2, c3, c4, c5, c6, c7, hf⟩ := g3.cells
    clear hLk R1
    have HS2 : Hid (Senders w2 (.slice ao l.length cap) l) := Senders.below HS1.out B2
    have HF2 : Hid (Flips w2 vf fl) := Flips.below HF1.out B2
    have HG1 : Hid _ := run_start1 w2 (.slice ao l.length cap) l
    have HG2 : Hid _ := run_start2 w2 (.slice ao l.length cap) l
    clear HS1 HF1 B2
    go_wp2_with (refine gn.sd rn1 nilV nilV (.slice ao l.length cap) rfl rfl rfl rfl _ _ rfl rfl rfl ?_)
    simp only [Act.put]
    go_cut [] from 19 to 28 (fun wx => ∃ ge gg, RunAt w2 w2.heap.size ge gg (.slice ao l.length cap) l.length (rn0 l) wx)
    case first =>
      go_region
      all_goals
        go_wp2_with fail
        go_meet
        case rel => first | exact ⟨_, _, HG1.out⟩ | exact ⟨_, _, HG2.out⟩
    case rest =>
    obtain ⟨ge, gg, h1⟩ := hcut
    have s2 : w.heap.size < w2.heap.size := by have := B3.size; have := R2.lt; omega
    have hBe := begin_any h127 HS2.out h1
    have HRes : Hid (∀ e x, (rndE l fl ≠ 0 → e = .returned (.tuple #[.agg zArr, .int .i64 (rndE l fl)])) → (rndE l fl = 0 → ∃ ge gg, e = .returned (.tuple #[.agg ((rnd l fl).arr (sl ge l.length) (sl gg l.length) (.slice ao l.length cap)), .int .i64 0]) ∧ Row x ge ((rnd l fl).errs.map errV) ∧ Row x gg ((rnd l fl).got.map Value.bool) ∧ w.heap.size ≤ ge ∧ w.heap.size ≤ gg ∧ ge ≠ gg ∧ (rnd l fl).errs.length = l.length ∧ (rnd l fl).got.length = l.length) → Below w.heap.size w x → RunRes l fl (.slice ao l.length cap) w e x) := fun e x h1 h2 h3 => ⟨h1, h2, h3⟩
    clear HG1 HG2 h1 gn g3 c0 c1 c2 c3 c4 c5 c6 c7 hf hm1 hm2
    rcases (by unfold beE; split; exact .inl rfl; rcases firstE_neg (frs l) with h | h | h | h <;> simp [h] : beE l = 0 ∨ beE l ≠ 0) with hb | hb
    · by_cases hwo : who l = []
      · have HR : Hid (rnd l fl = rnN l) := by show _ = _; unfold rnd; rw [if_pos hwo]
        have HB : Hid (rnB l (rn0 l) = { rn0 l with win := -1 }) := by show _ = _; unfold rnB; rw [if_pos hwo]
        rw [HB.out, hb] at hBe
        rw [HR.out] at HRes
        rw [hb] at HE
        rw [HE.out] at HRes
        go_wp2_with fail
        refine hBe.mono ?_
        rintro e w4 ⟨rfl, h4⟩
        obtain ⟨c0, c1, c2, c3, c4, c5, c6, c7, hf⟩ := h4.ru.cells
        have h5 := h4.set1 11
        have R5 := h5.ru
        have Z5 : Ru w.heap.size rnZ nilV nilV nilV (w4.setCell ⟨w2.heap.size, 1, none⟩ (.int .i64 11)) := R2.kept (h5.bel.block _ s2)
        have Z6 := Z5.row (rnN l) (sl ge l.length) (sl gg l.length) (.slice ao l.length cap)
        obtain ⟨d0, d1, d2, d3, d4, d5, d6, d7, df⟩ := Z6.cells
        have B5 := below_row (B3.trans (h5.bel.mono (by omega))) (q := w.heap.size) (Nat.le_refl _) (by have := Z5.lt; omega) ((rnN l).arr (sl ge l.length) (sl gg l.length) (.slice ao l.length cap))
        have E5 := h5.er.kept (setRow_other _ w.heap.size ge ((rnN l).arr (sl ge l.length) (sl gg l.length) (.slice ao l.length cap)) (by have := h5.b2; omega))
        have G5 := h5.go.kept (setRow_other _ w.heap.size gg ((rnN l).arr (sl ge l.length) (sl gg l.length) (.slice ao l.length cap)) (by have := h5.b3; omega))
        go_wp2_with (first | refine R5.ld rfl _ rfl rfl ?_ | refine Z5.sd (rnN l) (sl ge l.length) (sl gg l.length) (.slice ao l.length cap) rfl rfl rfl rfl _ _ rfl rfl rfl ?_)
        exact bodyPost_ret (v := .tuple #[.agg ((rnN l).arr (sl ge l.length) (sl gg l.length) (.slice ao l.length cap)), .int .i64 0]) (by simp [results, Try.results24, go_sem, d0, d1, d2, d3, d4, d5, d6, d7]; rfl) rfl (HRes.out _ _ (fun h => absurd rfl h) (fun _ => ⟨ge, gg, rfl, E5, G5, by have := h5.b2; omega, by have := h5.b3; omega, h5.d3, h5.le, h5.lg⟩) B5)
      · obtain ⟨hbeg, hwl⟩ := below_beg hb hwo
        have HR : Hid (rnd l fl = rnEnd l fl (rnW l) (winN l)) := by show _ = _; unfold rnd; rw [if_neg hwo]
        rw [hbeg, hb] at hBe
        rw [HR.out] at HRes
        rw [hb] at HE
        rw [HE.out] at HRes
        clear hbeg HR
        go_wp2_with fail
        refine hBe.mono ?_
        rintro e w4 ⟨rfl, h4⟩
        have hEnd := end_any4 h127 hwl (stuffed_bound _ _) h65 HOK.out HS2.out HF2.out h4 rfl rfl rfl
        have c0 := ruWin h4 rfl
        have hne : (((winN l : Nat) : Int) == -1) = false := by rw [beq_eq_false_iff_ne]; omega
        generalize rnEnd l fl (rnW l) (winN l) = r9 at *
        clear h4 hBe
        go_wp2_with fail
        refine hEnd.mono ?_
        rintro e w5 ⟨rfl, h5⟩
        have R5 := h5.ru
        have Z5 : Ru w.heap.size rnZ nilV nilV nilV w5 := R2.kept (h5.bel.block _ s2)
        have Z6 := Z5.row r9 (sl ge l.length) (sl gg l.length) (.slice ao l.length cap)
        obtain ⟨d0, d1, d2, d3, d4, d5, d6, d7, df⟩ := Z6.cells
        have B5 := below_row (B3.trans (h5.bel.mono (by omega))) (q := w.heap.size) (Nat.le_refl _) (by have := Z5.lt; omega) (r9.arr (sl ge l.length) (sl gg l.length) (.slice ao l.length cap))
        have E5 := h5.er.kept (setRow_other _ w.heap.size ge (r9.arr (sl ge l.length) (sl gg l.length) (.slice ao l.length cap)) (by have := h5.b2; omega))
        have G5 := h5.go.kept (setRow_other _ w.heap.size gg (r9.arr (sl ge l.length) (sl gg l.length) (.slice ao l.length cap)) (by have := h5.b3; omega))
        clear hEnd c0
        go_wp2_with (first | refine R5.ld rfl _ rfl rfl ?_ | refine Z5.sd r9 (sl ge l.length) (sl gg l.length) (.slice ao l.length cap) rfl rfl rfl rfl _ _ rfl rfl rfl ?_)
        exact bodyPost_ret (v := .tuple #[.agg (r9.arr (sl ge l.length) (sl gg l.length) (.slice ao l.length cap)), .int .i64 0]) (by simp [results, Try.results24, go_sem, d0, d1, d2, d3, d4, d5, d6, d7]; rfl) rfl (HRes.out _ _ (fun h => absurd rfl h) (fun _ => ⟨ge, gg, rfl, E5, G5, by have := h5.b2; omega, by have := h5.b3; omega, h5.d3, h5.le, h5.lg⟩) B5)
    · rw [HE.out] at HRes
      have hd2 : (beE l != 0) = true := by simpa using hb
      have HB : Hid (beE l ≠ 0) := hb
      generalize beE l = be at *
      clear HE hb
      go_wp2_with fail
      refine hBe.mono ?_
      rintro e w4 ⟨rfl, h4⟩
      have Z5 : Ru w.heap.size rnZ nilV nilV nilV w4 := R2.kept (h4.bel.block _ s2)
      have Z6 := Z5.row rnZ nilV nilV nilV
      obtain ⟨d0, d1, d2, d3, d4, d5, d6, d7, df⟩ := Z6.cells
      have B5 := below_row (B3.trans (h4.bel.mono (by omega))) (q := w.heap.size) (Nat.le_refl _) (by have := Z5.lt; omega) zArr
      clear hBe
      go_wp2_with (refine Z5.sd rnZ nilV nilV nilV rfl rfl rfl rfl _ _ rfl rfl rfl ?_)
      exact bodyPost_ret (v := .tuple #[.agg zArr, .int .i64 be]) (by simp [results, Try.results24, go_sem, d0, d1, d2, d3, d4, d5, d6, d7]; rfl) rfl (HRes.out _ _ (fun _ => rfl) (fun h => absurd h HB.out) B5)
  · have HE : Hid (rndE l fl = lookV l.length fl) := by show _ = _; unfold rndE; rw [if_pos h0]
    have hd : (lookV l.length fl != 0) = true := by simpa using h0
    obtain ⟨ao, cap, rfl, _⟩ := hS
    generalize lookV l.length fl = lv at *
    clear hS1 hF1 hF
    go_enter Try.func24, Try.ntmps24
    go_wp2_with fail
    refine hLk.mono ?_
    rintro e w2 ⟨rfl, B2⟩
    have R2 := R1.below B2
    have B3 := B1.trans (B2.mono B1.size)
    have R3 := R2.row rnZ nilV nilV nilV
    have B4 := below_row B3 (q := w.heap.size) (Nat.le_refl _) (by have := B3.size; omega) zArr
    obtain ⟨c0, c1, c2, c3, c4, c5, c6, c7, hf⟩ := R3.cells
    clear hLk B2 R1
    go_wp2_with (refine R2.sd rnZ nilV nilV nilV rfl rfl rfl rfl _ _ rfl rfl rfl ?_)
    exact bodyPost_ret (v := .tuple #[.agg zArr, .int .i64 lv]) (by simp [results, Try.results24, go_sem, c0, c1, c2, c3, c4, c5, c6, c7]; rfl) rfl ⟨fun _ => by rw [HE.out], fun h => absurd (HE.out.symm.trans h) h0, B4⟩
/-- An outcome as a value. -/
def Rn.out (r : Rn) (ve vg : Value) : Array Value := #[.int .i64 r.win, .int .i64 r.bits, .bool r.sent, ve, vg]
def OutRes (l : List Se) (fl : List Fl) (w : World) (e : Ending) (w' : World) : Prop :=
  (rndE l fl ≠ 0 → e = .returned (.tuple #[.agg (rnZ.out nilV nilV), .int .i64 (rndE l fl)])) ∧
  (rndE l fl = 0 → ∃ ge gg, e = .returned (.tuple #[.agg ((rnd l fl).out (sl ge l.length) (sl gg l.length)), .int .i64 0]) ∧ Row w' ge ((rnd l fl).errs.map errV) ∧ Row w' gg ((rnd l fl).got.map Value.bool) ∧ w.heap.size ≤ ge ∧ w.heap.size ≤ gg ∧ ge ≠ gg ∧ (rnd l fl).errs.length = l.length ∧ (rnd l fl).got.length = l.length) ∧ Below w.heap.size w w'
end Go.Proofs.Ytlghjfomliappaa
