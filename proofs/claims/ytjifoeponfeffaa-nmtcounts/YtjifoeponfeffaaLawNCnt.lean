/- The law NmtCounts returns true whatever calls come. -/
import Derived.Test.YtjifoeponfeffaaNnG
import Derived.Deep.DeepCutAuto
namespace Go.Proofs.Ytjifoeponfeffaa
open Go.RowKit
set_option linter.unusedVariables false
set_option maxRecDepth 1000000
set_option linter.unusedSimpArgs false
theorem Nd.count_boot {s : Nd} {l : List UInt8} (h : s.told l = 129) : (s.take l).boots = s.boots + 1 ∧ (s.take l).talks = s.talks := by
  unfold Nd.told at h
  unfold Nd.take
  split at h
  · cases ht : s.two _ _
    · rw [ht] at h; simp at h
    · rw [ht] at h
      simp only [if_true] at h ⊢
      rw [h]
      simp [Nd.does]
  · simp at h
theorem Nd.count_talk {s : Nd} {l : List UInt8} (h : s.told l = 130) : (s.take l).boots = s.boots ∧ (s.take l).talks = s.talks + 1 := by
  unfold Nd.told at h
  unfold Nd.take
  split at h
  · cases ht : s.two _ _
    · rw [ht] at h; simp at h
    · rw [ht] at h
      simp only [if_true] at h ⊢
      rw [h]
      simp [Nd.does]
  · simp at h
theorem Nd.count_none {s : Nd} {l : List UInt8} (h : s.told l ≠ 129) (h2 : s.told l ≠ 130) : (s.take l).boots = s.boots ∧ (s.take l).talks = s.talks := by
  unfold Nd.take
  split
  · rename_i c y
    simp only [Nd.told] at h h2
    cases ht : s.two c.toNat y.toNat
    · exact ⟨rfl, rfl⟩
    · rw [ht] at h h2
      have hc : isC c.toNat = true := by simp [Nd.two] at ht; exact ht.2
      simp only [if_true] at h h2 ⊢
      rcases isC_cases hc with e | e | e | e | e
      all_goals first | exact absurd e h | exact absurd e h2 | (rw [e]; exact ⟨rfl, rfl⟩)
  · exact ⟨rfl, rfl⟩
theorem Nd.count_step (s : Nd) : s.step.boots = s.boots ∧ s.step.talks = s.talks := by
  unfold Nd.step
  split
  all_goals exact ⟨rfl, rfl⟩
/-- What stands ahead of each call. -/
def RC (p k : Nat) (w x : World) (s : Nd) (B T : Int) : Prop := Na p s x ∧ Below p w x ∧ s.few k ∧ s.boots = B ∧ s.talks = T
set_option maxHeartbeats 4000000 in
theorem ncnt_walk (v : Value) (l : List A17) (hl : l.length ≤ 140737488351232) (w : World) (hok : ∀ a ∈ l, a.ok w) (hB : Wide 3 A17.c w v l) :
    Calls Try.prog 7 #[v] w fun r w' => r = .returned (.bool true) ∧ Below w.heap.size w w' := by
  obtain ⟨ao, cap, rfl, _, hc⟩ := hB
  have HC : Hid (∀ (wr : World), Below w.heap.size w wr → ∀ k (hk : k < l.length), ∃ b off, ao = some ⟨b, off, none⟩ ∧ b < w.heap.size ∧ wr.rangeAt b (off + k * 3) (A17.c l[k])) := fun wr hb k hk => Wide.at hc hb k hk
  have HOK : Hid (∀ k (hk : k < l.length), l[k].ok w) := fun k hk => hok _ (List.getElem_mem hk)
  clear hc hok
  have hN := new_ok w 7 rfl
  generalize hp : w.heap.size = p at *
  go_enter Try.func7, Try.ntmps7
  go_wp2_with (go_at_call 8; refine hN.mono ?_; rintro r w1 ⟨rfl, N1, B1⟩)
  have HI : Hid (RC p 0 w w1 ⟨7, 7, 0, 0, 0⟩ 0 0) := ⟨N1, B1, ⟨by decide, by decide, by decide, by decide⟩, rfl, rfl⟩
  clear N1 B1 hN
  go_loopw [5, 6, 7] (fun s5 s6 s7 x => ∃ k s B T, k ≤ l.length ∧ s5 = .int .i64 B ∧ s6 = .int .i64 T ∧ s7 = .int .i64 (k : Nat) ∧ RC p k w x s B T) (fun _ _ s7 _ => l.length - (intOf s7).toNat)
  case atStart => exact ⟨0, _, 0, 0, by omega, rfl, rfl, rfl, HI.out⟩
  case round =>
    clear HI
    obtain ⟨k, s, B, T, hk, rfl, rfl, rfl, hR⟩ := hrel
    obtain ⟨N5, B5, hf5, hgb, hgt⟩ := hR
    have hbB : 0 ≤ B ∧ B ≤ k ∧ 0 ≤ T ∧ T ≤ k := by obtain ⟨a1, a2, a3, a4⟩ := hf5; omega
    have hszp : p ≤ wr.heap.size := by have := B5.size; omega
    by_cases hkl : k < l.length
    · have hd : decide ((k : Int) < (l.length : Int)) = true := by simp; omega
      obtain ⟨b, off, rfl, hb, hR⟩ := HC.out wr B5 k hkl
      have ha := HOK.out k hkl
      have hRn := hidOf2 (fun (y : World) (hy : Below p w y) => show y.rangeAt b (off + k * 3) l[k].c from by
        obtain ⟨b', off', e, _, h9⟩ := HC.out y hy k hkl
        injection e with e; injection e with e1 e2; subst e1; subst e2; exact h9)
      generalize l[k] = a at *
      obtain ⟨kd, n, bv, bl⟩ := a
      obtain ⟨hkd, hnb, hbv, hbl⟩ := ha
      simp only at hkd hnb hbv hbl
      have HBy : Hid (∀ x, Below p w x → Bytes x bv bl) := fun x hx => hbv.below (by rw [hp]; exact hx)
      obtain ⟨ab, cb, hbv2, _⟩ := hbv
      subst hbv2
      obtain ⟨c0, c1, c2⟩ := A17.cells hR
      simp only at c0 c1 c2
      have lgp := Bc.lt N5
      by_cases h1 : kd = 1
      · subst h1
        have hS := step_any N5
        go_upto_region 9 with fail
        go_upto_region 10 with (go_at_call 12; refine hS.mono ?_; rintro r w2 ⟨r, rfl, _, N2, T2⟩)
        have B2 : Below p w w2 := B5.trans (T2.below hszp (by omega) (by omega))
        obtain ⟨e0, e1, e2⟩ := A17.cells (hRn.out w2 B2)
        have HJ : Hid (RC p (k + 1) w w2 s.step B T) := ⟨N2, B2, hf5.step, s.count_step.1.trans hgb, s.count_step.2.trans hgt⟩
        clear hS N2 T2 N5 hf5 hgb hgt c0 c1 c2 hRn HBy hR
        simp only at e0 e1 e2
        go_wp2_with fail
        go_roundw
        case rel => exact ⟨k + 1, _, _, _, by omega, rfl, rfl, rfl, HJ.out⟩
        case measure => simp [intOf]; omega
      · have d1 : (kd == 1) = false := by simp [h1]
        by_cases h0 : kd = 0
        · subst h0
          obtain ⟨e0, he0⟩ : ∃ x, wr.heap.size = x := ⟨_, rfl⟩
          obtain ⟨X1, hX1⟩ : ∃ x, wr.alloc (.cells #[] 5) = x := ⟨_, rfl⟩
          have HT := hidOf2 (took_any hX1 he0 N5 bl (by obtain ⟨a1, a2, a3, a4⟩ := hf5; omega) (by obtain ⟨a1, a2, a3, a4⟩ := hf5; omega))
          have HO : Hid (X1.ownsRow e0 5 1 (.slice (some ⟨e0, 0, none⟩) 0 0) 0 []) := by
            show World.ownsRow _ _ _ _ _ _ _
            rw [← hX1, ← he0]
            exact own_empty wr
          have BX1 : Below wr.heap.size wr X1 := by rw [← hX1]; exact (Below.refl _ _).alloc (Nat.le_refl _) _
          have hs1 : X1.heap.size = e0 + 1 := by rw [← hX1, ← he0]; simp
          have BXp : Below p w X1 := B5.trans (BX1.mono hszp)
          have HB2 : Hid (Bytes X1 (.slice ab bl.length cb) bl) := HBy.out X1 BXp
          obtain ⟨x0, x1, x2⟩ := A17.cells (hRn.out X1 BXp)
          simp only at x0 x1 x2
          have HJ0 : Hid (∀ y, Na p (s.take bl) y → Two p p wr y → ∀ B T, (s.take bl).boots = B → (s.take bl).talks = T → RC p (k + 1) w y (s.take bl) B T) := fun y hy ht B T hb ht2 => ⟨hy, B5.trans (ht.below hszp (Nat.le_refl _) (Nat.le_refl _)), hf5.take bl, hb, ht2⟩
          have hc1 := hidOf2 (@Nd.count_boot s bl)
          have hc2 := hidOf2 (@Nd.count_talk s bl)
          have hc3 := hidOf2 (@Nd.count_none s bl)
          rw [hgb, hgt] at hc1 hc2 hc3
          obtain ⟨tv, htv⟩ : ∃ t, s.told bl = t := ⟨_, rfl⟩
          obtain ⟨S9, hS9⟩ : ∃ t, s.take bl = t := ⟨_, rfl⟩
          rw [htv, hS9] at HT
          rw [hS9] at HJ0 hc1 hc2 hc3
          rw [htv] at hc1 hc2 hc3
          clear BX1 BXp N5 hf5 hgb hgt HBy h1 hRn hR htv hS9
          go_upto_region 11 with fail
          go_upto_region 12 with (first | (at_builtin; refine append_bytes rfl _ _ rfl e0 _ [] rfl (by exact HO.out) _ bl rfl (by exact HB2.out) (by simp; omega) (by omega) ?_; intro v1 w2 ho hgr; have hT2 := HT.out v1 w2 ho hgr; clear ho hgr) | (go_at_call 10; refine hT2.mono ?_; rintro r w3 ⟨rfl, N3, T3⟩))
          have HJ3 := hidOf2 (HJ0.out w3 N3 T3)
          clear N3 T3 HT HO HB2 HJ0 hX1 hT2 x0 x1 x2 c0 c1 c2
          by_cases ht : tv = 129
          · have HJ := hidOf2 (HJ3.out _ _ (hc1.out ht).1 (hc1.out ht).2)
            clear HJ3 hc1 hc2 hc3
            subst ht
            go_wp2_with fail
            go_roundw
            case rel => exact ⟨k + 1, _, _, _, by omega, rfl, rfl, rfl, HJ.out⟩
            case measure => simp [intOf]; omega
          · have d2 : (tv == 129) = false := by simp [ht]
            by_cases ht2 : tv = 130
            · have HJ := hidOf2 (HJ3.out _ _ (hc2.out ht2).1 (hc2.out ht2).2)
              clear HJ3 hc1 hc2 hc3 ht d2
              subst ht2
              go_wp2_with fail
              go_roundw
              case rel => exact ⟨k + 1, _, _, _, by omega, rfl, rfl, rfl, HJ.out⟩
              case measure => simp [intOf]; omega
            · have d3 : (tv == 130) = false := by simp [ht2]
              have HJ := hidOf2 (HJ3.out _ _ (hc3.out ht ht2).1 (hc3.out ht ht2).2)
              clear HJ3 hc1 hc2 hc3 ht ht2
              go_wp2_with fail
              go_roundw
              case rel => exact ⟨k + 1, _, _, _, by omega, rfl, rfl, rfl, HJ.out⟩
              case measure => simp [intOf]; omega
        · have d0 : (kd == 0) = false := by simp [h0]
          have HJ : Hid (RC p (k + 1) w wr s B T) := ⟨N5, B5, hf5.more, hgb, hgt⟩
          clear h0 h1 N5 hf5 hgb hgt hRn HBy hR
          go_wp2_with fail
          go_roundw
          case rel => exact ⟨k + 1, _, _, _, by omega, rfl, rfl, rfl, HJ.out⟩
          case measure => simp [intOf]; omega
    · have hd : decide ((k : Int) < (l.length : Int)) = false := by simp; omega
      have hL := fun x => lives17_any x
      have hBo := boots_any N5
      rw [hgb, hgt] at hBo
      clear N5 hf5
      go_wp2_with (first | (go_at_call 16; refine hBo.mono ?_; rintro r w6 ⟨rfl, n6, hw6⟩; rw [hw6]) | (go_at_call 9; refine (hL _).mono ?_; rintro r w7 ⟨rfl, B7⟩))
      go_ret
      exact ⟨rfl, (below_drawn B5 n6).trans (B7.mono hszp)⟩
end Go.Proofs.Ytjifoeponfeffaa
