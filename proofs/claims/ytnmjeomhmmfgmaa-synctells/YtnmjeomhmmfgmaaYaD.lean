/- Tick of the document's producer. -/
import Derived.Test.YtnmjeomhmmfgmaaYaC
namespace Go.Proofs.Ytnmjeomhmmfgmaa
open Go.RowKit
set_option linter.unusedVariables false
set_option maxRecDepth 1000000
set_option linter.unusedSimpArgs false
theorem Pd.grown {g B : Nat} {s : Ps} {w w' : World} {v : Value} {zs : List Int} (x : Pd g s w) (h : RowI B v zs w) (hB : g < B) (hg : w.grownBy w' v.ownBlock) : Pd g s w' :=
  (hg.block g x.lt (fun e => by have := own_lt h g e.symm; omega)).trans x
theorem row_none (w : World) : RowI w.heap.size (.slice (some ⟨w.heap.size, 0, none⟩) 0 0) [] (w.alloc (.cells #[] 3)) :=
  ⟨rfl, .inr ⟨w.heap.size, 0, _, rfl, Nat.le_refl _, heap_alloc_new w _, Nat.le_refl _, by unfold maxLen; omega, rfl, rfl⟩⟩
section
variable {g : Nat} {s : Ps} {w : World}
set_option maxHeartbeats 4000000 in
theorem dtick_any (hk : s.ok) (h : Pd g s w) (n : Nat) (htl : s.told < 4611686018427387904) : Calls Try.prog 13 #[.pointer (some ⟨g, 0, none⟩), .int .u64 n] w fun e w' => ∃ v, e = .returned v ∧ RowI w.heap.size v (s.em (min n 65536)) w' ∧ Pd g (s.tk (min n 65536)) w' ∧ Two g g w w' := by
  have hgw := h.lt
  obtain ⟨N, hN⟩ : ∃ N, min n 65536 = N := ⟨_, rfl⟩
  rw [hN]
  have hNb : N ≤ 65536 := by omega
  have H0 : Hid (RowI w.heap.size (.slice (some ⟨w.heap.size, 0, none⟩) 0 0) [] (w.alloc (.cells #[] 3)) ∧ Pd g s (w.alloc (.cells #[] 3)) ∧ Two g g w (w.alloc (.cells #[] 3)) ∧ s.ok ∧ g < w.heap.size ∧ s.told < 4611686018427387904) := ⟨row_none w, h.alloc _, (Two.refl _ _ _).alloc _, hk, hgw, htl⟩
  obtain ⟨i0, hi0, hz0, hz1, hz2⟩ := info_parts infoI
  clear h hgw hk htl
  have hcase : (n ≤ 65536 ∧ N = n) ∨ (65536 < n ∧ N = 65536) := by omega
  clear hN
  obtain ⟨w1, hw1⟩ : ∃ w1, w.alloc (.cells #[] 3) = w1 := ⟨_, rfl⟩
  obtain ⟨B, hB⟩ : ∃ B, w.heap.size = B := ⟨_, rfl⟩
  rw [hw1, hB] at H0
  rw [hB]
  go_enter Try.func13, Try.ntmps13
  rcases hcase with ⟨hn, hN⟩ | ⟨hn, hN⟩
  case' inl => have dn : decide ((65536 : Int) < (n : Int)) = false := by simp; omega
  case' inl => have HN : Hid ((n : Int) = (N : Int)) := by show _ = _; omega
  case' inr => have dn : decide ((65536 : Int) < (n : Int)) = true := by simp; omega
  case' inr => have HN : Hid ((65536 : Int) = (N : Int)) := by show _ = _; omega
  all_goals
    clear hN
    go_wp2_with fail
  all_goals
    go_loopw [1, 5] (fun nv tv wr => ∃ (m : Nat) (t : Ps) (acc : List Int), nv = .int .u64 m ∧ m ≤ N ∧ t.ok ∧ t.tk m = s.tk N ∧ s.em N = acc ++ t.em m ∧ acc.length + m ≤ 65536 ∧ t.told + m ≤ s.told + N ∧ RowI B tv acc wr ∧ Pd g t wr ∧ Two g g w wr) (fun nv _ _ => (intOf nv).toNat)
    case atStart =>
      obtain ⟨h1, h2, h3, h4, h5, h6⟩ := H0.out
      exact ⟨N, s, [], congrArg (Value.int .u64) HN.out, Nat.le_refl _, h4, rfl, rfl, by simpa using hNb, Nat.le_refl _, h1, h2, h3⟩
    case round =>
      obtain ⟨m, t, acc, rfl, hmN, hto, htk, hem, hac, htd, hrow, hPa, hTw⟩ := hrel
      obtain ⟨k1, k2, k3, k4⟩ := hto
      obtain ⟨c0, c1, c2, c3, c4, hf⟩ := hPa.cells
      obtain ⟨_, _, _, _, hgw, hsb⟩ := H0.out
      have hsz := hTw.size
      have f3 := hf 3
      have f4 := hf 4
      by_cases hm : 0 < m
      · have hd : decide ((0 : Int) < (m : Int)) = true := by simp; omega
        cases hon : t.on
        · rw [hon] at c2
          obtain ⟨e1, e2⟩ := Ps.tk_off m hon
          rw [e2, List.append_nil] at hem
          have HH : Hid (RowI B u5 (s.em N) wr ∧ Pd g (s.tk N) wr ∧ Two g g w wr) := ⟨by rw [hem]; exact hrow, by rw [← htk, e1]; exact hPa, hTw⟩
          clear hPa hTw hrow htk hem e1 e2 H0
          go_wp2
          go_ret
          exact ⟨_, rfl, HH.out⟩
        · rw [hon] at c2
          obtain ⟨m', rfl⟩ : ∃ m', m = m' + 1 := ⟨m - 1, by omega⟩
          have hms : ((m' + 1 : Nat) : Int) - 1 = (m' : Int) := by omega
          have hPs := hPa.set3 (t.went + 1)
          have hwn : (((t.went + 1 : Nat)) : Int) = (t.went : Int) + 1 := by omega
          rw [hwn] at hPs
          have hTs := hTw.at0 3 (.int .u64 ((t.went : Int) + 1))
          have hRs := hrow.two ((Two.refl g g wr).at0 3 (.int .u64 ((t.went : Int) + 1))) hgw
          obtain ⟨W1, hW1⟩ : ∃ W1, wr.setCell ⟨g, 3, none⟩ (.int .u64 ((t.went : Int) + 1)) = W1 := ⟨_, rfl⟩
          rw [hW1] at hPs hTs hRs
          obtain ⟨b0, b1, b2, b3, b4, bf⟩ := hPs.cells
          have bf3 := bf 3
          have bf4 := bf 4
          simp only at b0 b1 b3 b4
          rw [hwn] at b3
          by_cases hp : t.went + 1 = t.per
          · have hq : ((t.went : Int) + 1 == (t.per : Int)) = true := by simp; omega
            obtain ⟨e1, e2⟩ := Ps.tk_one (m := m') hon k4 hp
            have hcl := cnt_le t.ov (t.told + 1)
            have HAP : Hid (∀ (cv : Int), cv = (cnt t.ov (t.told + 1) : Int) → ∀ v' w5, w5.ownsRow B 3 1 v' (acc.length + 1) (acc.map (Value.int .i64) ++ [.int .i64 cv]) → (W1.alloc (.cells #[.int .i64 cv] 3)).grownBy w5 u5.ownBlock → Hid (Pd g ⟨t.per, t.ov, t.on, t.went + 1, t.told⟩ w5 ∧ RowI B v' (acc ++ [(cnt t.ov (t.told + 1) : Int)]) w5 ∧ Two g g w w5)) := by
              intro cv hcv v' w5 ho5 hg5
              subst hcv
              have R5 : RowI B u5 acc (W1.alloc (.cells #[.int .i64 (cnt t.ov (t.told + 1) : Int)] 3)) := World.ownsRow.alloc hRs _
              refine ⟨(hPs.alloc _).grown R5 hgw hg5, by unfold RowI; simpa using ho5, ?_⟩
              rw [← hB] at R5
              exact (hTs.alloc _).grown (B := 0) R5 hg5
            have HT : Hid (Ps.ok ⟨t.per, t.ov, true, 0, t.told + 1⟩ ∧ Ps.tk m' ⟨t.per, t.ov, true, 0, t.told + 1⟩ = s.tk N ∧ s.em N = (acc ++ [(cnt t.ov (t.told + 1) : Int)]) ++ Ps.em m' ⟨t.per, t.ov, true, 0, t.told + 1⟩) := ⟨⟨k1, k2, k3, by simp only; omega⟩, by rw [← e1, htk], by rw [hem, e2]; simp⟩
            have HP9 : Hid (∀ x, Pd g ⟨t.per, t.ov, t.on, t.went + 1, t.told⟩ x → Pd g ⟨t.per, t.ov, true, 0, t.told + 1⟩ ((x.setCell ⟨g, 3, none⟩ (.int .u64 0)).setCell ⟨g, 4, none⟩ (.int .i64 ((t.told : Int) + 1)))) := fun x hx => by
              have := (hx.set3 0).set4 (t.told + 1)
              simp only [hon] at this
              exact this
            have R4 : W1.ownsRow B 3 1 u5 acc.length (acc.map (Value.int .i64)) := hRs
            have hsz1 := hTs.size
            clear e1 e2 hem htk hPa hTw hrow hPs hTs hRs bf hf H0
            simp only at b2
            rw [hon] at b2
            by_cases ho : t.ov = 0
            · have hv : cnt t.ov (t.told + 1) = 0 := by simp [cnt, ho]
              have hoz : decide ((0 : Int) < (t.ov : Int)) = false := by simp; omega
              have HCV : Hid ((0 : Int) = (cnt t.ov (t.told + 1) : Int)) := by show _ = _; rw [hv]; rfl
              clear hv
              go_upto_region 7 with fail
              go_quiet (fail)
              go_wp2_with (at_builtin; refine wpList_plain rfl fun _ hK => wp_append_own _ _ _ 36 rfl B 3 i0 (.int .i64 0) 1 8 Try.underlying36 hi0 hz0 hz1 hz2 rfl (by decide) _ _ _ rfl (by exact R4.alloc _) ⟨W1.heap.size, 0, none⟩ 1 1 [.int .i64 (0)] rfl rfl (by exact cell_one_new _ _ _) (by simp [Value.oneCell']) (by unfold maxLen at *; omega) (by omega) (by simp; omega) ?_; intro v' w5 hown' hg5 _; have HQ := HAP.out (0) HCV.out v' w5 (by simpa using hown') ⟨hg5.os, hg5.tape, hg5.output, hg5.size, hg5.block⟩; have g4 := HQ.out.1; obtain ⟨d0, d1, d2, d3, d4, df⟩ := g4.cells; have df3 := df 3; have df4 := df 4; clear g4 df hown' hg5; refine hK _ _ ?_; go_frame)
              have HZ : Hid (Pd g ⟨t.per, t.ov, true, 0, t.told + 1⟩ ((w5.setCell ⟨g, 3, none⟩ (.int .u64 0)).setCell ⟨g, 4, none⟩ (.int .i64 ((t.told : Int) + 1))) ∧ RowI B v' (acc ++ [(cnt t.ov (t.told + 1) : Int)]) ((w5.setCell ⟨g, 3, none⟩ (.int .u64 0)).setCell ⟨g, 4, none⟩ (.int .i64 ((t.told : Int) + 1))) ∧ Two g g w ((w5.setCell ⟨g, 3, none⟩ (.int .u64 0)).setCell ⟨g, 4, none⟩ (.int .i64 ((t.told : Int) + 1)))) := by
                obtain ⟨q1, q2, q3⟩ := HQ.out
                exact ⟨HP9.out _ q1, q2.two (((Two.refl g g w5).at0 3 (.int .u64 0)).at0 4 (.int .i64 ((t.told : Int) + 1))) hgw, (q3.at0 _ _).at0 _ _⟩
              clear HQ HAP HP9 R4
              go_wp2
              go_roundw
              case rel =>
                obtain ⟨q1, q2, q3⟩ := HZ.out
                obtain ⟨r1, r2, r3⟩ := HT.out
                exact ⟨m', ⟨t.per, t.ov, true, 0, t.told + 1⟩, acc ++ [(cnt t.ov (t.told + 1) : Int)], rfl, by omega, r1, r2, r3, by simp; omega, by simp only; omega, q2, q1, q3⟩
              case measure =>
                simp [intOf]
            · have hv : cnt t.ov (t.told + 1) = t.told % t.ov + 1 := by simp [cnt, ho]
              have hoz : decide ((0 : Int) < (t.ov : Int)) = true := by simp; omega
              have hrm : (t.told : Int).tmod (t.ov : Int) = ((t.told % t.ov : Nat) : Int) := rfl
              have hrl : t.told % t.ov < t.ov := Nat.mod_lt _ (by omega)
              have HCV : Hid (((t.told % t.ov : Nat) : Int) + 1 = (cnt t.ov (t.told + 1) : Int)) := by show _ = _; rw [hv]; rfl
              clear hv
              generalize t.told % t.ov = r at *
              go_upto_region 7 with fail
              go_quiet (fail)
              go_upto_region 10 with fail
              go_quiet (fail)
              go_wp2_with (at_builtin; refine wpList_plain rfl fun _ hK => wp_append_own _ _ _ 36 rfl B 3 i0 (.int .i64 0) 1 8 Try.underlying36 hi0 hz0 hz1 hz2 rfl (by decide) _ _ _ rfl (by exact R4.alloc _) ⟨W1.heap.size, 0, none⟩ 1 1 [.int .i64 ((r : Int) + 1)] rfl rfl (by exact cell_one_new _ _ _) (by simp [Value.oneCell']) (by unfold maxLen at *; omega) (by omega) (by simp; omega) ?_; intro v' w5 hown' hg5 _; have HQ := HAP.out ((r : Int) + 1) HCV.out v' w5 (by simpa using hown') ⟨hg5.os, hg5.tape, hg5.output, hg5.size, hg5.block⟩; have g4 := HQ.out.1; obtain ⟨d0, d1, d2, d3, d4, df⟩ := g4.cells; have df3 := df 3; have df4 := df 4; clear g4 df hown' hg5; refine hK _ _ ?_; go_frame)
              have HZ : Hid (Pd g ⟨t.per, t.ov, true, 0, t.told + 1⟩ ((w5.setCell ⟨g, 3, none⟩ (.int .u64 0)).setCell ⟨g, 4, none⟩ (.int .i64 ((t.told : Int) + 1))) ∧ RowI B v' (acc ++ [(cnt t.ov (t.told + 1) : Int)]) ((w5.setCell ⟨g, 3, none⟩ (.int .u64 0)).setCell ⟨g, 4, none⟩ (.int .i64 ((t.told : Int) + 1))) ∧ Two g g w ((w5.setCell ⟨g, 3, none⟩ (.int .u64 0)).setCell ⟨g, 4, none⟩ (.int .i64 ((t.told : Int) + 1)))) := by
                obtain ⟨q1, q2, q3⟩ := HQ.out
                exact ⟨HP9.out _ q1, q2.two (((Two.refl g g w5).at0 3 (.int .u64 0)).at0 4 (.int .i64 ((t.told : Int) + 1))) hgw, (q3.at0 _ _).at0 _ _⟩
              clear HQ HAP HP9 R4
              go_wp2
              go_roundw
              case rel =>
                obtain ⟨q1, q2, q3⟩ := HZ.out
                obtain ⟨r1, r2, r3⟩ := HT.out
                exact ⟨m', ⟨t.per, t.ov, true, 0, t.told + 1⟩, acc ++ [(cnt t.ov (t.told + 1) : Int)], rfl, by omega, r1, r2, r3, by simp; omega, by simp only; omega, q2, q1, q3⟩
              case measure =>
                simp [intOf]
          · have hq : ((t.went : Int) + 1 == (t.per : Int)) = false := by simp; omega
            obtain ⟨e1, e2⟩ := Ps.tk_pass (m := m') hon
            have HT : Hid (Ps.ok ⟨t.per, t.ov, true, t.went + 1, t.told⟩ ∧ Ps.tk m' ⟨t.per, t.ov, true, t.went + 1, t.told⟩ = s.tk N ∧ s.em N = acc ++ Ps.em m' ⟨t.per, t.ov, true, t.went + 1, t.told⟩ ∧ Pd g ⟨t.per, t.ov, true, t.went + 1, t.told⟩ W1 ∧ RowI B u5 acc W1 ∧ Two g g w W1) := ⟨⟨k1, k2, k3, by simp only; omega⟩, by rw [← e1, htk], by rw [hem, e2], by rw [← hon]; exact hPs, hRs, hTs⟩
            simp only at b2
            rw [hon] at b2
            clear e1 e2 hem htk hPa hTw hrow hPs hTs hRs bf hf H0
            go_upto_region 7 with fail
            go_quiet (fail)
            go_wp2
            go_roundw
            case rel =>
              obtain ⟨r1, r2, r3, r4, r5, r6⟩ := HT.out
              exact ⟨m', ⟨t.per, t.ov, true, t.went + 1, t.told⟩, acc, rfl, by omega, r1, r2, r3, by omega, by simp only; omega, r5.two ((Two.refl g g W1).drawn _) hgw, r4, r6.drawn _⟩
            case measure =>
              simp [intOf]
      · have hd : decide ((0 : Int) < (m : Int)) = false := by simp; omega
        obtain rfl : m = 0 := by omega
        obtain ⟨e1, e2⟩ := Ps.tk_zero k4
        rw [e2, List.append_nil] at hem
        have HH : Hid (RowI B u5 (s.em N) wr ∧ Pd g (s.tk N) wr ∧ Two g g w wr) := ⟨by rw [hem]; exact hrow, by rw [← htk, e1]; exact hPa, hTw⟩
        clear hPa hTw hrow htk hem e1 e2 H0
        go_wp2
        go_ret
        exact ⟨_, rfl, HH.out⟩
end
end Go.Proofs.Ytnmjeomhmmfgmaa
