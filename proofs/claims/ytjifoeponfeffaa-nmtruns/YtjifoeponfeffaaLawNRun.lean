/- The law NmtRuns returns true whatever calls come. -/
import Derived.Test.YtjifoeponfeffaaNnG
import Derived.Deep.DeepCutAuto
namespace Go.Proofs.Ytjifoeponfeffaa
open Go.RowKit
set_option linter.unusedVariables false
set_option maxRecDepth 1000000
set_option linter.unusedSimpArgs false
/-- The state goes with the last command that was taken. -/
def Nd.goesWith (s : Nd) (last : Int) : Prop := (s.st = 5 ↔ last = 1) ∧ (s.st = 4 → last = 2)
theorem Nd.goesWith.take {s : Nd} {last : Int} (h : s.goesWith last) (l : List UInt8) : (s.take l).goesWith (if s.told l = 0 then last else s.told l) := by
  unfold Nd.take Nd.told
  split
  · rename_i c y
    cases ht : s.two c.toNat y.toNat
    · exact h
    · have hc : isC c.toNat = true := by simp [Nd.two] at ht; exact ht.2
      simp only [if_true]
      rcases isC_cases hc with e | e | e | e | e
      all_goals
        rw [e]
        simp [Nd.does, Nd.goesWith]
  · exact h
theorem Nd.goesWith.step {s : Nd} {last : Int} (h : s.goesWith last) : s.step.goesWith last := by
  unfold Nd.step
  cases hg : s.goes
  · exact h
  · have h0 : s.st = 0 := by simp [Nd.goes] at hg; exact hg.1
    obtain ⟨a, b⟩ := h
    rw [h0] at a b
    refine ⟨?_, ?_⟩
    · simp only [if_true]; omega
    · simp only [if_true]; omega
/-- What stands ahead of each call. -/
def RI (p k : Nat) (w x : World) (s : Nd) (last : Int) : Prop := Na p s x ∧ Below p w x ∧ s.few k ∧ s.goesWith last
set_option maxHeartbeats 4000000 in
theorem nrun_walk (v : Value) (l : List A17) (hl : l.length ≤ 140737488351232) (w : World) (hok : ∀ a ∈ l, a.ok w) (hB : Wide 3 A17.c w v l) :
    Calls Try.prog 5 #[v] w fun r w' => r = .returned (.bool true) ∧ Below w.heap.size w w' := by
  obtain ⟨ao, cap, rfl, _, hc⟩ := hB
  have HC : Hid (∀ (wr : World), Below w.heap.size w wr → ∀ k (hk : k < l.length), ∃ b off, ao = some ⟨b, off, none⟩ ∧ b < w.heap.size ∧ wr.rangeAt b (off + k * 3) (A17.c l[k])) := fun wr hb k hk => Wide.at hc hb k hk
  have HOK : Hid (∀ k (hk : k < l.length), l[k].ok w) := fun k hk => hok _ (List.getElem_mem hk)
  clear hc hok
  have hN := new_ok w 7 rfl
  generalize hp : w.heap.size = p at *
  go_enter Try.func5, Try.ntmps5
  go_wp2_with (go_at_call 8; refine hN.mono ?_; rintro r w1 ⟨rfl, N1, B1⟩)
  have HI : Hid (RI p 0 w w1 ⟨7, 7, 0, 0, 0⟩ 0) := ⟨N1, B1, ⟨by decide, by decide, by decide, by decide⟩, ⟨by decide, by decide⟩⟩
  clear N1 B1 hN
  go_loopw [5, 6] (fun s5 s6 x => ∃ k s last, k ≤ l.length ∧ s5 = .int .i64 last ∧ s6 = .int .i64 (k : Nat) ∧ RI p k w x s last) (fun _ s6 _ => l.length - (intOf s6).toNat)
  case atStart => exact ⟨0, _, 0, by omega, rfl, rfl, HI.out⟩
  case round =>
    clear HI
    obtain ⟨k, s, last, hk, rfl, rfl, hR⟩ := hrel
    obtain ⟨N5, B5, hf5, hg5⟩ := hR
    have hszp : p ≤ wr.heap.size := by have := B5.size; omega
    by_cases hkl : k < l.length
    · have hd : decide ((k : Int) < (l.length : Int)) = true := by simp; omega
      obtain ⟨b, off, rfl, hb, hR⟩ := HC.out wr B5 k hkl
      have ha := HOK.out k hkl
      have hRn := hidOf2 (fun (y : World) (hy : Below p w y) => show y.rangeAt b (off + k * 3) l[k].c from by
        obtain ⟨b', off', e, _, h9⟩ := HC.out y hy k hkl
        injection e with e; injection e with e1 e2; subst e1; subst e2; exact h9)
      generalize l[k] = a at *
      obtain ⟨kd, n, bv, bl⟩ := a
      obtain ⟨hkd, hnb, hbv, hbl⟩ := ha
      simp only at hkd hnb hbv hbl
      have HBy : Hid (∀ x, Below p w x → Bytes x bv bl) := fun x hx => hbv.below (by rw [hp]; exact hx)
      obtain ⟨ab, cb, hbv2, _⟩ := hbv
      subst hbv2
      obtain ⟨c0, c1, c2⟩ := A17.cells hR
      simp only at c0 c1 c2
      have lgp := Bc.lt N5
      by_cases h1 : kd = 1
      · subst h1
        have hS := step_any N5
        go_upto_region 9 with fail
        go_upto_region 10 with (go_at_call 12; refine hS.mono ?_; rintro r w2 ⟨r, rfl, _, N2, T2⟩)
        have B2 : Below p w w2 := B5.trans (T2.below hszp (by omega) (by omega))
        obtain ⟨e0, e1, e2⟩ := A17.cells (hRn.out w2 B2)
        have HJ : Hid (RI p (k + 1) w w2 s.step last) := ⟨N2, B2, hf5.step, hg5.step⟩
        clear hS N2 T2 N5 hf5 hg5 c0 c1 c2 hRn HBy hR
        simp only at e0 e1 e2
        go_upto_region 14 with fail
        obtain ⟨N6, B6, f6, g6⟩ := HJ.out
        have HJ2 := HJ
        have hS6 := state_any N6
        obtain ⟨g1, g2⟩ := g6
        by_cases hL1 : last = 1
        · rw [g1.2 hL1] at hS6
          subst hL1
          clear N6 B6 f6 g1 g2 HJ
          go_wp2_with (go_at_call 17; refine hS6.mono ?_; rintro r w7 ⟨rfl, hw7⟩; rw [hw7])
          go_roundw
          case rel => exact ⟨k + 1, _, _, by omega, rfl, rfl, HJ2.out⟩
          case measure => simp [intOf]; omega
        · have dL1 : (last == 1) = false := by simp [hL1]
          by_cases h4 : s.step.st = 4
          · have hL2 := g2 h4
            rw [h4] at hS6
            subst hL2
            clear N6 B6 f6 g1 g2 HJ hL1 h4
            go_wp2_with (go_at_call 17; refine hS6.mono ?_; rintro r w7 ⟨rfl, hw7⟩; rw [hw7])
            go_roundw
            case rel => exact ⟨k + 1, _, _, by omega, rfl, rfl, HJ2.out⟩
            case measure => simp [intOf]; omega
          · have d4 : (s.step.st == 4) = false := by simp [h4]
            have d5 : (s.step.st == 5) = false := by
              rw [beq_eq_false_iff_ne]
              exact fun h => hL1 (g1.1 h)
            clear N6 B6 f6 g1 g2 HJ hL1 h4
            go_wp2_with (go_at_call 17; refine hS6.mono ?_; rintro r w7 ⟨rfl, hw7⟩; rw [hw7])
            go_roundw
            case rel => exact ⟨k + 1, _, _, by omega, rfl, rfl, HJ2.out⟩
            case measure => simp [intOf]; omega
      · have d1 : (kd == 1) = false := by simp [h1]
        by_cases h0 : kd = 0
        · subst h0
          obtain ⟨e0, he0⟩ : ∃ x, wr.heap.size = x := ⟨_, rfl⟩
          obtain ⟨X1, hX1⟩ : ∃ x, wr.alloc (.cells #[] 5) = x := ⟨_, rfl⟩
          have HT := hidOf2 (took_any hX1 he0 N5 bl (by obtain ⟨a1, a2, a3, a4⟩ := hf5; omega) (by obtain ⟨a1, a2, a3, a4⟩ := hf5; omega))
          have HO : Hid (X1.ownsRow e0 5 1 (.slice (some ⟨e0, 0, none⟩) 0 0) 0 []) := by
            show World.ownsRow _ _ _ _ _ _ _
            rw [← hX1, ← he0]
            exact own_empty wr
          have BX1 : Below wr.heap.size wr X1 := by rw [← hX1]; exact (Below.refl _ _).alloc (Nat.le_refl _) _
          have hs1 : X1.heap.size = e0 + 1 := by rw [← hX1, ← he0]; simp
          have BXp : Below p w X1 := B5.trans (BX1.mono hszp)
          have HB2 : Hid (Bytes X1 (.slice ab bl.length cb) bl) := HBy.out X1 BXp
          obtain ⟨x0, x1, x2⟩ := A17.cells (hRn.out X1 BXp)
          simp only at x0 x1 x2
          have HJ0 : Hid (∀ y, Na p (s.take bl) y → Two p p wr y → RI p (k + 1) w y (s.take bl) (if s.told bl = 0 then last else s.told bl)) := fun y hy ht => ⟨hy, B5.trans (ht.below hszp (Nat.le_refl _) (Nat.le_refl _)), hf5.take bl, hg5.take bl⟩
          obtain ⟨tv, htv⟩ : ∃ t, s.told bl = t := ⟨_, rfl⟩
          obtain ⟨S9, hS9⟩ : ∃ t, s.take bl = t := ⟨_, rfl⟩
          rw [htv, hS9] at HT HJ0
          clear BX1 BXp N5 hf5 hg5 HBy h1 hRn hR htv hS9
          go_upto_region 11 with fail
          go_upto_region 12 with (first | (at_builtin; go_loud (refine append_bytes rfl _ _ rfl e0 _ [] rfl (by exact HO.out) _ bl rfl (by exact HB2.out) (by simp; omega) (by omega) ?_; intro v1 w2 ho hgr; have hT2 := HT.out v1 w2 ho hgr; clear ho hgr)) | (go_at_call 10; refine hT2.mono ?_; rintro r w3 ⟨rfl, N3, T3⟩))
          have HJ := hidOf2 (HJ0.out w3 N3 T3)
          clear N3 T3 HT HO HB2 HJ0 hX1 hT2 x0 x1 x2 c0 c1 c2
          by_cases ht : tv = 0
          · rw [if_pos ht] at HJ
            subst ht
            go_upto_region 14 with fail
            obtain ⟨N6, B6, f6, g6⟩ := HJ.out
            have HJ2 := HJ
            have hS6 := state_any N6
            obtain ⟨g1, g2⟩ := g6
            by_cases hL1 : last = 1
            · rw [g1.2 hL1] at hS6
              subst hL1
              clear N6 B6 f6 g1 g2 HJ
              go_wp2_with (go_at_call 17; refine hS6.mono ?_; rintro r w7 ⟨rfl, hw7⟩; rw [hw7])
              go_roundw
              case rel => exact ⟨k + 1, _, _, by omega, rfl, rfl, HJ2.out⟩
              case measure => simp [intOf]; omega
            · have dL1 : (last == 1) = false := by simp [hL1]
              by_cases h4 : S9.st = 4
              · have hL2 := g2 h4
                rw [h4] at hS6
                subst hL2
                clear N6 B6 f6 g1 g2 HJ hL1 h4
                go_wp2_with (go_at_call 17; refine hS6.mono ?_; rintro r w7 ⟨rfl, hw7⟩; rw [hw7])
                go_roundw
                case rel => exact ⟨k + 1, _, _, by omega, rfl, rfl, HJ2.out⟩
                case measure => simp [intOf]; omega
              · have d4 : (S9.st == 4) = false := by simp [h4]
                have d5 : (S9.st == 5) = false := by
                  rw [beq_eq_false_iff_ne]
                  exact fun h => hL1 (g1.1 h)
                clear N6 B6 f6 g1 g2 HJ hL1 h4
                go_wp2_with (go_at_call 17; refine hS6.mono ?_; rintro r w7 ⟨rfl, hw7⟩; rw [hw7])
                go_roundw
                case rel => exact ⟨k + 1, _, _, by omega, rfl, rfl, HJ2.out⟩
                case measure => simp [intOf]; omega
          · rw [if_neg ht] at HJ
            have d2 : (tv == 0) = false := by simp [ht]
            clear ht
            go_upto_region 14 with fail
            obtain ⟨N6, B6, f6, g6⟩ := HJ.out
            have HJ2 := HJ
            have hS6 := state_any N6
            obtain ⟨g1, g2⟩ := g6
            by_cases hL1 : tv = 1
            · rw [g1.2 hL1] at hS6
              subst hL1
              clear N6 B6 f6 g1 g2 HJ
              go_wp2_with (go_at_call 17; refine hS6.mono ?_; rintro r w7 ⟨rfl, hw7⟩; rw [hw7])
              go_roundw
              case rel => exact ⟨k + 1, _, _, by omega, rfl, rfl, HJ2.out⟩
              case measure => simp [intOf]; omega
            · have dL1 : (tv == 1) = false := by simp [hL1]
              by_cases h4 : S9.st = 4
              · have hL2 := g2 h4
                rw [h4] at hS6
                subst hL2
                clear N6 B6 f6 g1 g2 HJ hL1 h4
                go_wp2_with (go_at_call 17; refine hS6.mono ?_; rintro r w7 ⟨rfl, hw7⟩; rw [hw7])
                go_roundw
                case rel => exact ⟨k + 1, _, _, by omega, rfl, rfl, HJ2.out⟩
                case measure => simp [intOf]; omega
              · have d4 : (S9.st == 4) = false := by simp [h4]
                have d5 : (S9.st == 5) = false := by
                  rw [beq_eq_false_iff_ne]
                  exact fun h => hL1 (g1.1 h)
                clear N6 B6 f6 g1 g2 HJ hL1 h4
                go_wp2_with (go_at_call 17; refine hS6.mono ?_; rintro r w7 ⟨rfl, hw7⟩; rw [hw7])
                go_roundw
                case rel => exact ⟨k + 1, _, _, by omega, rfl, rfl, HJ2.out⟩
                case measure => simp [intOf]; omega
        · have d0 : (kd == 0) = false := by simp [h0]
          have HJ : Hid (RI p (k + 1) w wr s last) := ⟨N5, B5, hf5.more, hg5⟩
          clear h0 h1 N5 hf5 hg5 hRn HBy hR
          go_upto_region 14 with fail
          obtain ⟨N6, B6, f6, g6⟩ := HJ.out
          have HJ2 := HJ
          have hS6 := state_any N6
          obtain ⟨g1, g2⟩ := g6
          by_cases hL1 : last = 1
          · rw [g1.2 hL1] at hS6
            subst hL1
            clear N6 B6 f6 g1 g2 HJ
            go_wp2_with (go_at_call 17; refine hS6.mono ?_; rintro r w7 ⟨rfl, hw7⟩; rw [hw7])
            go_roundw
            case rel => exact ⟨k + 1, _, _, by omega, rfl, rfl, HJ2.out⟩
            case measure => simp [intOf]; omega
          · have dL1 : (last == 1) = false := by simp [hL1]
            by_cases h4 : s.st = 4
            · have hL2 := g2 h4
              rw [h4] at hS6
              subst hL2
              clear N6 B6 f6 g1 g2 HJ hL1 h4
              go_wp2_with (go_at_call 17; refine hS6.mono ?_; rintro r w7 ⟨rfl, hw7⟩; rw [hw7])
              go_roundw
              case rel => exact ⟨k + 1, _, _, by omega, rfl, rfl, HJ2.out⟩
              case measure => simp [intOf]; omega
            · have d4 : (s.st == 4) = false := by simp [h4]
              have d5 : (s.st == 5) = false := by
                rw [beq_eq_false_iff_ne]
                exact fun h => hL1 (g1.1 h)
              clear N6 B6 f6 g1 g2 HJ hL1 h4
              go_wp2_with (go_at_call 17; refine hS6.mono ?_; rintro r w7 ⟨rfl, hw7⟩; rw [hw7])
              go_roundw
              case rel => exact ⟨k + 1, _, _, by omega, rfl, rfl, HJ2.out⟩
              case measure => simp [intOf]; omega
    · have hd : decide ((k : Int) < (l.length : Int)) = false := by simp; omega
      have hL := lives17_any wr
      clear N5
      go_wp2_with (go_at_call 9; refine hL.mono ?_; rintro r w7 ⟨rfl, B7⟩)
      go_ret
      exact ⟨rfl, B5.trans (B7.mono hszp)⟩
end Go.Proofs.Ytjifoeponfeffaa
