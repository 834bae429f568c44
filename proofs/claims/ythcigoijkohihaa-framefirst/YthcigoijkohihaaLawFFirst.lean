/- The law FrameFirst returns true whatever comes in. -/
import Derived.Test.YthcigoijkohihaaLvs2
namespace Go.Proofs.Ythcigoijkohihaa
open Go.RowKit Go.Proofs.Bits
set_option linter.unusedVariables false
set_option maxRecDepth 1000000

def flat (fs : List Fr) : List Value := fs.flatMap Fr.cells
theorem cells_len (f : Fr) : f.cells.length = 12 := by simp [Fr.cells, f.hdata]
theorem flat_len (fs : List Fr) : (flat fs).length = fs.length * 12 := by
  induction fs with
  | nil => rfl
  | cons f r ih => rw [flat, List.flatMap_cons, List.length_append, cells_len, ← flat, ih, List.length_cons]; omega
theorem flat_get (fs : List Fr) (k j : Nat) (hk : k < fs.length) (hj : j < 12) : (flat fs)[k * 12 + j]? = fs[k].cells[j]? := by
  induction fs generalizing k with
  | nil => simp at hk
  | cons f r ih =>
    rw [flat, List.flatMap_cons, ← flat]
    match k, hk with
    | 0, _ => rw [List.getElem?_append_left (by rw [cells_len]; omega)]; simp
    | k + 1, hk =>
      rw [List.getElem?_append_right (by rw [cells_len]; omega), cells_len, show (k + 1) * 12 + j - 12 = k * 12 + j by omega, ih k (by simpa using hk)]
      simp
theorem flat_one (fs : List Fr) : ∀ u ∈ flat fs, u.oneCell' = true := by
  intro u hu
  obtain ⟨f, _, hf⟩ := List.mem_flatMap.1 hu
  have := f.one
  rw [Array.all_eq_true_iff_forall_mem] at this
  exact this u (by simpa [Fr.arr] using hf)
theorem frames_of_own {w : World} {B : Nat} {v : Value} {fs : List Fr} (h : w.ownsRow B 25 12 v fs.length (flat fs)) : Frames w v fs := by
  rcases h.2 with ⟨rfl, h0⟩ | ⟨g, cap, cur, rfl, hg, hcur, h1, h2, h3, h4⟩
  · obtain rfl := List.length_eq_zero_iff.1 h0
    exact ⟨none, 0, rfl, fun _ => ⟨rfl, rfl⟩, fun k hk => by simp at hk⟩
  · refine ⟨some ⟨g, 0, none⟩, cap, rfl, (fun h => by cases h), fun k hk => ⟨g, 0, rfl, (Array.getElem?_eq_some_iff.1 hcur).1, ?_⟩⟩
    intro j u hj
    have hjl : j < 12 := by have := (List.getElem?_eq_some_iff.1 hj).1; rw [cells_len] at this; exact this
    rw [Lib.cell_of_heap hcur, Nat.zero_add, ← hj, ← flat_get fs k j hk hjl, ← h4, List.getElem?_take, if_pos (by omega)]
    simp
theorem own_empty_wide (w : World) : (w.alloc (.cells #[] 25)).ownsRow w.heap.size 25 12 (.slice (some ⟨w.heap.size, 0, none⟩) 0 0) 0 [] := by
  refine ⟨rfl, .inr ⟨w.heap.size, 0, #[], rfl, Nat.le_refl _, ?_, Nat.le_refl _, by decide, rfl, rfl⟩⟩
  exact heap_alloc_new w _
/-- append of a slice of frames that came in to an empty one of the call's own. -/
theorem append_frames {w : World} {ops : Array Oper} {rest : List Oper} {o : Oper} {a : Act} {Q : Exit → Act → World → Prop} (hgd : o.guard = none) (s x : Operand)
    (ho : o.op = .call { callee := .builtin .append, args := #[s, x], argTypes := #[41, 41] })
    (base : Nat) (v : Value) (hs : a.eval s = v) (hown : w.ownsRow base 25 12 v 0 [])
    (vx : Value) (fs : List Fr) (hx : a.eval x = vx) (hB : Frames w vx fs) (hl : fs.length * 24 ≤ 140737488355328) (hbase : base ≤ w.heap.size)
    (h : ∀ v' w', w'.ownsRow base 25 12 v' fs.length (flat fs) → w.grownBy w' v.ownBlock → wpList Try.prog ops Q rest (a.put o.dst v') w') : wpList Try.prog ops Q (o :: rest) a w := by
  obtain ⟨i0, hi, hz0, hz1, hz2⟩ := info_parts infoFZ
  obtain ⟨ao, cap, rfl, h0, hc⟩ := hB
  cases ao with
  | none =>
    obtain ⟨rfl, rfl⟩ := h0 rfl
    refine wpList_plain hgd fun K hK => ?_
    have hrun := run_append_owned_none (P := Try.prog) (w := w) base 41 o.type 25 i0 12 Try.underlying41 hi v 0 [] hown
    unfold Oper.wp
    simp only [List.length_nil] at hx
    simp [execOp, ho, resolve, invoke, builtin, hs, hx, hrun, Result.andThen]
    exact hK _ _ (h _ _ hown (grown_refl _ _))
  | some ad =>
    refine wpList_plain hgd fun _ hK => wp_append_own w s x 41 ho base 25 i0 (.agg Fr.nul.arr) 12 24 Try.underlying41 hi hz0 hz1 hz2 rfl (by decide) v 0 [] hs hown ad fs.length cap (flat fs) hx (flat_len fs) ?_ (flat_one fs) (by unfold maxLen; omega) (by omega) hbase ?_
    · intro j u hj
      have hlt : j < fs.length * 12 := by have := (List.getElem?_eq_some_iff.1 hj).1; rw [flat_len] at this; exact this
      obtain ⟨b, off, ha, _, hR⟩ := hc (j / 12) (by omega)
      simp only [Option.some.injEq] at ha
      subst ha
      have e := flat_get fs (j / 12) (j % 12) (by omega) (by omega)
      rw [show j / 12 * 12 + j % 12 = j by omega, hj] at e
      have := hR (j % 12) u e.symm
      rw [Addr.add_mid]
      rw [show off + j / 12 * 12 + j % 12 = off + j by omega] at this
      exact this
    · intro v' w' h1 h2 h3
      refine hK _ _ (h v' w' ?_ h2)
      simpa using h1
theorem Frames.below {w w' : World} {v : Value} {fs : List Fr} (h : Frames w v fs) (hb : Below w.heap.size w w') : Frames w' v fs := by
  obtain ⟨ao, cap, hv, h0, hc⟩ := h
  refine ⟨ao, cap, hv, h0, fun k hk => ?_⟩
  obtain ⟨b, off, ha, hlt, hR⟩ := Wide.at hc hb k hk
  exact ⟨b, off, ha, Nat.lt_of_lt_of_le hlt hb.size, hR⟩
theorem first_ok {fs : List Fr} (h : firstE fs = 0) : 0 < fs.length ∧ (∀ j (hj : j < fs.length), fs[j].chk = 0) ∧ (flds fs).Nodup ∧ firstN fs = best (flds fs) fs.length := by
  have hN : firstN fs = best (flds fs) fs.length := by unfold firstN; rw [if_pos h]
  unfold firstE at h
  by_cases h0 : fs.length = 0
  · rw [if_pos h0] at h; simp at h
  · rw [if_neg h0] at h
    cases ha : allOk fs
    · rw [ha] at h; simp at h
    · rw [ha, if_pos rfl] at h
      by_cases hn : (flds fs).Nodup
      · refine ⟨by omega, fun j hj => ?_, hn, hN⟩
        unfold allOk at ha
        rw [List.all_eq_true] at ha
        simpa using ha fs[j] (List.getElem_mem hj)
      · rw [if_neg hn] at h; simp at h
theorem range_next (k : Nat) : (List.range (k + 1)).map natV = (List.range k).map natV ++ [natV k] := by
  rw [List.range_succ]; simp
theorem own_some {w : World} {B : Nat} {v : Value} {n : Nat} {xs : List Value} (h : w.ownsRow B 3 1 v n xs) (hn : 0 < n) : ∃ g cap, v = .slice (some ⟨g, 0, none⟩) n cap ∧ ∀ k (hk : k < xs.length), w.cell? ⟨g, k, none⟩ = some xs[k] := by
  have hl := h.1
  rcases h.2 with ⟨rfl, h0⟩ | ⟨g, cap, cur, rfl, hg, hcur, h1, h2, h3, h4⟩
  · omega
  · refine ⟨g, cap, rfl, fun k hk => ?_⟩
    rw [Lib.cell_of_heap hcur]
    have e : xs[k]? = cur.toList[k]? := by rw [← h4, List.getElem?_take, if_pos (by omega)]
    rw [List.getElem?_eq_getElem hk] at e
    rw [e]; simp
set_option maxHeartbeats 4000000 in
theorem ffirst_walk (v : Value) (fs : List Fr) (n : Int) (ext : Bool) (w : World) (hl : fs.length * 24 ≤ 140737488351232) (hn : -9223372036854775808 ≤ n ∧ n < 9223372036854775808) (hS : Frames w v fs) :
    Calls Try.prog 5 #[v, .int .i64 n, .bool ext] w fun e w' => e = .returned (.bool true) ∧ Below w.heap.size w w' := by
  have hown := own_empty_wide w
  have hS0 := hS.below ((Below.refl _ w).alloc (Nat.le_refl _) (.cells #[] 25))
  go_enter Try.func5, Try.ntmps5
  go_wp2_with (at_builtin; refine append_frames rfl _ _ rfl w.heap.size _ rfl hown v fs rfl hS0 (by omega) (by rw [size_alloc]; omega) ?_)
  intro v1 w1 hown1 hg1
  have B1 : Below w.heap.size w w1 := ((Below.refl _ w).alloc (Nat.le_refl _) (.cells #[] 25)).grown hg1 (by simp) (by simp [Value.ownBlock])
  have F1 := frames_of_own hown1
  clear hown1 hg1 hown hS0
  go_wp2_with fail
  refine (First_any v1 fs w1 (by omega) F1).mono ?_
  rintro e w2 ⟨rfl, b2⟩
  have B2 := B1.trans (b2.mono B1.size)
  go_wp2_with fail
  refine (r2First_any v fs w2 (by omega) (hS.below B2)).mono ?_
  rintro e w3 ⟨rfl, b3⟩
  have B3 := B2.trans (b3.mono B2.size)
  go_wp2_with fail
  refine (fLongest_any n ext w3 hn).mono ?_
  rintro e w4 ⟨rfl, b4⟩
  have B4 := B3.trans (b4.mono B3.size)
  go_wp2_with fail
  refine (r2Longest_any n ext w4).mono ?_
  rintro e w5 ⟨rfl, b5⟩
  have B5 := B4.trans (b5.mono B4.size)
  have hL := lives2_any w5
  have s5 := B5.size
  clear B1 B2 B3 B4 b2 b3 b4 b5 F1
  generalize longV n ext = V at *
  generalize longE n = LE at *
  by_cases h0 : firstE fs = 0
  · obtain ⟨hpos, hok, hnd, hN⟩ := first_ok h0
    have hLe := flds_least fs hpos
    have hEnd := left_end fs hpos hnd
    have hbl := best_lt (flds fs) fs.length hpos
    rw [h0, hN]
    have hfl := flds_length fs
    have HST : Hid (∀ p, stay (flds fs) (leftK (flds fs) ((flds fs).getD (best (flds fs) fs.length) []) p) p = leftK (flds fs) ((flds fs).getD (best (flds fs) fs.length) []) (p + 1)) := fun p => hLe.step p
    have HM : Hid (∀ p, best (flds fs) fs.length ∈ leftK (flds fs) ((flds fs).getD (best (flds fs) fs.length) []) p) := fun p => hLe.mem p
    have HZ : Hid (leftK (flds fs) ((flds fs).getD (best (flds fs) fs.length) []) 0 = List.range fs.length) := by show _ = _; rw [leftK_zero, hfl]
    have HE : Hid (leftK (flds fs) ((flds fs).getD (best (flds fs) fs.length) []) 32 = [best (flds fs) fs.length]) := hEnd
    have HLT : Hid (∀ p, ∀ j ∈ leftK (flds fs) ((flds fs).getD (best (flds fs) fs.length) []) p, j < fs.length) := fun p j hj => by have := leftK_lt hj; rw [hfl] at this; exact this
    have HLE : Hid (∀ p, (leftK (flds fs) ((flds fs).getD (best (flds fs) fs.length) []) p).length ≤ fs.length) := fun p => by have := leftK_le (flds fs) ((flds fs).getD (best (flds fs) fs.length) []) p; rw [hfl] at this; exact this
    have HOK : Hid (∀ j (hj : j < fs.length), fs[j].chk = 0) := hok
    generalize leftK (flds fs) ((flds fs).getD (best (flds fs) fs.length) []) = LK at *
    generalize best (flds fs) fs.length = bb at *
    clear h0 hN hnd hok hLe hEnd hL
    have hown := own_empty_at w5 3
    have B6 : Below w5.heap.size w5 (w5.alloc (.cells #[] 3)) := (Below.refl _ w5).alloc (Nat.le_refl _) (.cells #[] 3)
    have HS : Hid (∀ x, Below w5.heap.size w5 x → Frames x v fs ∧ Below w.heap.size w x) := fun x hx => ⟨hS.below (B5.trans (hx.mono s5)), B5.trans (hx.mono s5)⟩
    obtain ⟨ao, cap, hv, _⟩ := hS
    subst hv
    go_wp2
    go_loopw [15, 16] (fun l i x => ∃ k : Nat, k ≤ fs.length ∧ i = .int .i64 k ∧ x.ownsRow w5.heap.size 3 1 l ((List.range k).map natV).length ((List.range k).map natV) ∧ Below w5.heap.size w5 x) (fun _ i _ => fs.length - (intOf i).toNat)
    case atStart => exact ⟨0, Nat.zero_le _, rfl, hown, B6⟩
    case round =>
      clear hown B6
      obtain ⟨k, hk, rfl, hown, B6⟩ := hrel
      have hlk : ((List.range k).map natV).length = k := by simp
      by_cases hkl : k < fs.length
      · have HN : Hid ((List.range (k + 1)).map natV = (List.range k).map natV ++ [natV k]) := range_next k
        generalize (List.range k).map natV = xs at *
        go_wp2_with (at_builtin; refine append_slots rfl _ _ 43 3 (.int .i64 0) 8 Try.underlying43 infoI rfl rfl w5.heap.size _ xs rfl (by exact ownsRow_alloc hown _) _ [natV k] rfl (by exact slots_new wr _ _) (by intro u hu; simp at hu; subst hu; rfl) (by unfold maxLen; simp; omega) (by simp; omega) (by have := B6.size; rw [size_alloc]; omega) ?_)
        intro v3 w6 hown3 hg3 _
        have B7 : Below w5.heap.size w5 w6 := (B6.alloc B6.size _).grown hg3 (by have := B6.size; rw [size_alloc]; omega) (fun k hk => own_lt hown k hk)
        clear hg3 hown B6
        go_wp2
        go_roundw
        case rel => exact ⟨k + 1, by omega, by go_num, by rw [HN.out]; simpa [hlk] using hown3, B7⟩
        case measure => simp [intOf]; omega
      · obtain rfl : k = fs.length := by omega
        rw [← HZ.out] at hown
        go_wp2
        go_loopw [15, 17] (fun l i x => ∃ p : Nat, p ≤ 32 ∧ i = .int .i64 p ∧ x.ownsRow w5.heap.size 3 1 l ((LK p).map natV).length ((LK p).map natV) ∧ Below w5.heap.size w5 x) (fun _ i _ => 32 - (intOf i).toNat)
        case atStart => exact ⟨0, Nat.zero_le _, rfl, hown, B6⟩
        case round =>
          clear hown B6 hlk hkl hk
          obtain ⟨p, hp, rfl, hown, B6⟩ := hrel
          have hmem := HM.out p
          have hlp : 0 < (LK p).length := List.length_pos_of_mem hmem
          have hlm : ((LK p).map natV).length = (LK p).length := by simp
          rw [hlm] at hown
          have hle := HLE.out p
          by_cases hA : p < 32 ∧ 1 < (LK p).length
          · obtain ⟨hp32, hl1⟩ := hA
            have hsl : Slots wr u15 ((LK p).map natV) := slots_of_own (by rw [hlm]; exact hown)
            obtain ⟨hFr, hBw⟩ := HS.out wr B6
            have hlv := leaves_any _ u15 fs (LK p) p wr (by omega) hFr hsl (HLT.out p) hlp hle HOK.out hp32
            rw [HST.out p] at hlv
            obtain ⟨g, cap1, rfl, hcells⟩ := own_some hown hlp
            have hd1 : decide ((p : Int) < 32) = true := by simp; omega
            have hd2 : decide ((1 : Int) < ((LK p).length : Int)) = true := by simp; omega
            clear hsl hFr hBw hcells
            go_wp2_with fail
            refine hlv.mono ?_
            rintro e w7 ⟨v7, rfl, hown7, b7⟩
            have B7 := B6.trans (b7.mono B6.size)
            have hown8 := own_low hown7 B6.size
            clear hlv hown hown7 b7
            go_wp2
            go_roundw
            case rel => exact ⟨p + 1, by omega, by go_num, by rw [List.length_map]; exact hown8, B7⟩
            case measure => simp [intOf]; omega
          · have hone : LK p = [bb] := by
              by_cases hp32 : p = 32
              · rw [hp32]; exact HE.out
              · exact single hmem (by omega)
            rw [hone] at hown
            obtain ⟨g, cap1, rfl, hcells⟩ := own_some hown (by simp)
            have c0 := hcells 0 (by simp)
            simp only [List.map_cons, List.map_nil, List.getElem_cons_zero, natV] at c0
            have hLv := lives2_any wr
            have hBw := (HS.out wr B6).2
            have hsw := hBw.size
            clear hown hcells hmem hlp hlm hle hA hone
            by_cases hp32 : p < 32
            · have hd1 : decide ((p : Int) < 32) = true := by simp; omega
              go_wp2_with (go_at_call 18; refine hLv.mono ?_; rintro e w9 ⟨rfl, b9⟩)
              go_ret
              exact ⟨rfl, hBw.trans (b9.mono hsw)⟩
            · have hd1 : decide ((p : Int) < 32) = false := by simp; omega
              go_wp2_with (go_at_call 18; refine hLv.mono ?_; rintro e w9 ⟨rfl, b9⟩)
              go_ret
              exact ⟨rfl, hBw.trans (b9.mono hsw)⟩
  · have hne : (firstE fs != 0) = true := by rw [bne_iff_ne]; exact h0
    have hne2 : (firstE fs == 0) = false := by rw [beq_eq_false_iff_ne]; exact h0
    generalize firstE fs = E at *
    generalize firstN fs = N at *
    go_wp2_with (go_at_call 18; refine hL.mono ?_; rintro e w6 ⟨rfl, b6⟩)
    go_ret
    exact ⟨rfl, B5.trans (b6.mono s5)⟩
end Go.Proofs.Ythcigoijkohihaa
