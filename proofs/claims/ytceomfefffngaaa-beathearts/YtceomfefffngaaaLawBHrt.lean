/- The law BeatHearts returns true whatever comes in. -/
import Derived.Test.YtceomfefffngaaaBwH
import Derived.Test.YtceomfefffngaaaBwOp
namespace Go.Proofs.Ytceomfefffngaaa
open Go.RowKit
set_option linter.unusedVariables false
set_option maxRecDepth 1000000
set_option linter.unusedSimpArgs false
theorem enter_lives : ∀ args x, (callFunc 10 args).run Try.prog x = .ok (.enter 10 args) x := fun _ _ => by rfl
set_option maxHeartbeats 2000000 in
theorem bhrt_walk (tk : Nat) (v : Value) (l : List T18) (hl : l.length ≤ 140737488351232) (w : World) (htk : tk < 18446744073709551616) (hB : Wide 3 T18.c w v l) :
    Calls Try.prog 3 #[.int .u64 tk, v] w fun e w' => e = .returned (.bool true) ∧ Below w.heap.size w w' := by
  obtain ⟨ao, cap, rfl, _, hc⟩ := hB
  have HL := fun x => lives18_any x
  obtain ⟨p, hp⟩ : ∃ p, w.heap.size = p := ⟨_, rfl⟩
  by_cases hb : 4294967296 < tk
  · have hN := hnew_bad (w := w) tk hb
    have d1 : decide ((4294967296 : Int) < (tk : Int)) = true := by simp; omega
    have d2 : decide (4294967296 < tk) = true := by simp; omega
    clear hc
    go_enter Try.func3, Try.ntmps3
    go_wp2_with (first | (go_at_call 9; refine hN.mono ?_; rintro e w1 ⟨rfl, b1⟩) | (go_at_call 10; refine (HL _).mono ?_; rintro e w2 ⟨rfl, b2⟩))
    go_ret
    exact ⟨rfl, below_low b1 b2 b1.size⟩
  · have hN := hnew_ok (w := w) tk (by omega)
    have d1 : decide ((4294967296 : Int) < (tk : Int)) = false := by simp; omega
    have d2 : decide (4294967296 < tk) = false := by simp; omega
    have HC : Hid (∀ (wr : World), Below w.heap.size w wr → ∀ k (hk : k < l.length), ∃ b off, ao = some ⟨b, off, none⟩ ∧ b < w.heap.size ∧ wr.rangeAt b (off + k * 3) (T18.c l[k])) := fun wr hb k hk => Wide.at hc hb k hk
    rw [hp] at hN HC ⊢
    have hbt : tk ≤ 4294967296 := by omega
    have HBT := hidOf2 hbt
    obtain ⟨L, hL⟩ : ∃ L, l.length = L := ⟨_, rfl⟩
    have HLn := hidOf2 hL
    rw [hL] at hl ⊢
    clear hc hb hbt hL
    go_enter Try.func3, Try.ntmps3
    go_wp2_with (go_at_call 9; refine hN.mono ?_; rintro e w1 ⟨rfl, H1, b1⟩)
    go_loopw [0, 7, 8] (fun s0 s7 s8 x => ∃ k T G : Nat, k ≤ L ∧ s0 = .int .u64 (T : Nat) ∧ s7 = .int .u64 (G : Nat) ∧ s8 = .int .i64 (k : Nat) ∧ Hs p T (if T = 0 then 0 else G) x ∧ Below p w x ∧ T ≤ 4294967296 ∧ G ≤ k ∧ (T ≠ 0 → G < T)) (fun _ _ s8 _ => L - (intOf s8).toNat)
    case atStart => exact ⟨0, tk, 0, by omega, rfl, rfl, rfl, by simpa using H1, b1, HBT.out, by omega, by omega⟩
    case round =>
      clear H1 b1 hN
      obtain ⟨k, T, G, hk, rfl, rfl, rfl, hH, hb, hT, hG, hGT⟩ := hrel
      have HBw := hidOf2 hb
      have hpw : p ≤ wr.heap.size := by have := hb.size; omega
      by_cases hkl : k < L
      · have hd : decide ((k : Int) < (L : Int)) = true := by simp; omega
        have hkL : k < l.length := by rw [HLn.out]; exact hkl
        obtain ⟨b, off, rfl, hbl, hR⟩ := HC.out wr hb k hkL
        obtain ⟨z, hz⟩ : ∃ z, l[k] = z := ⟨_, rfl⟩
        rw [hz] at hR
        obtain ⟨c0, c1, c2⟩ := T18.cells hR
        have hn1 := z.h_tk
        obtain ⟨o, ho⟩ : ∃ o, off + k * 3 = o := ⟨_, rfl⟩
        rw [ho] at c0 c1 c2
        obtain ⟨zs, hzs⟩ : ∃ s, z.set = s := ⟨_, rfl⟩
        obtain ⟨n, hn⟩ : ∃ s, z.tk = s := ⟨_, rfl⟩
        obtain ⟨s, hs⟩ : ∃ s, z.st = s := ⟨_, rfl⟩
        rw [hzs] at c0
        rw [hn] at c1 hn1
        rw [hs] at c2
        clear hR hz hzs hn hs hb
        have hkk : k ≤ 140737488351232 := by omega
        cases zs
        · -- a tick
          have hTk := htick_any hH (by split <;> omega) hT s
          have hw1 : IntKind.u64.wrap ((G : Int) + 1) = ((G + 1 : Nat) : Int) := by simp [IntKind.wrap, IntKind.bits, IntKind.signed]; omega
          obtain ⟨m, hm⟩ : ∃ m, G + 1 = m := ⟨_, rfl⟩
          rw [hm] at hw1
          by_cases hnow : m = T
          · have hT0 : T ≠ 0 := by omega
            have eg : goneK T (if T = 0 then 0 else G) = 0 := by rw [if_neg hT0]; unfold goneK; rw [if_neg hT0, if_neg (by omega)]
            have en : nowK T (if T = 0 then 0 else G) s = isSt s := by rw [if_neg hT0]; unfold nowK; simp [hT0]; omega
            rw [eg, en] at hTk
            have dm : ((m : Int) == (T : Int)) = true := by simp [hnow]
            have dm' : (m == T) = true := by simp [hnow]
            have HX : Hid (∀ x, Hs p T 0 x → Two p p wr x → Hs p T (if T = 0 then 0 else 0) x ∧ Below p w x) := fun x h1 h2 => ⟨by simpa using h1, HBw.out.trans (h2.below hpw (Nat.le_refl _) (Nat.le_refl _))⟩
            have hT1 : 0 < T := by omega
            by_cases hst : isSt s = true
            · rw [hst] at hTk
              clear hH hnow hm eg en hG hGT
              have h3 : s = 4 ∨ s = 5 ∨ s = 127 := by simpa [isSt, or_assoc] using hst
              clear hst
              rcases h3 with rfl | rfl | rfl
              all_goals
                go_wp2_with (go_at_call 12; refine hTk.mono ?_; rintro e x ⟨r, rfl, hr, a1, a2⟩; obtain ⟨q, rfl, hq1, hq2, hq3⟩ := hr; have HX1 := hidOf2 (HX.out x a1 a2); clear a1 a2)
                go_roundw
                case rel => exact ⟨k + 1, T, 0, by omega, rfl, rfl, rfl, HX1.out.1, HX1.out.2, hT, by omega, fun _ => hT1⟩
                case measure => simp [intOf]; omega
            · have hst' : isSt s = false := by simpa using hst
              rw [hst'] at hTk
              obtain ⟨⟨h4, h5⟩, h7⟩ : (s ≠ 4 ∧ s ≠ 5) ∧ s ≠ 127 := by simpa [isSt] using hst'
              have e4 : (s == 4) = false := by simp [h4]
              have e5 : (s == 5) = false := by simp [h5]
              have e7 : (s == 127) = false := by simp [h7]
              clear hH hnow hm eg en hG hGT hst hst' h4 h5 h7
              go_wp2_with (go_at_call 12; refine hTk.mono ?_; rintro e x ⟨r, rfl, hr, a1, a2⟩; unfold HtA at hr; rw [if_neg (by decide)] at hr; subst hr; have HX1 := hidOf2 (HX.out x a1 a2); clear a1 a2)
              go_roundw
              case rel => exact ⟨k + 1, T, 0, by omega, rfl, rfl, rfl, HX1.out.1, HX1.out.2, hT, by omega, fun _ => hT1⟩
              case measure => simp [intOf]; omega
          · have eg : goneK T (if T = 0 then 0 else G) = if T = 0 then 0 else m := by
              unfold goneK
              by_cases hT0 : T = 0
              · simp [hT0]
              · have := hGT hT0
                rw [if_neg hT0, if_neg hT0, if_neg hT0, if_pos (by omega)]
                omega
            have en : nowK T (if T = 0 then 0 else G) s = false := by
              unfold nowK
              by_cases hT0 : T = 0
              · simp [hT0]
              · have := hGT hT0
                rw [if_neg hT0]
                simp [hT0]
                omega
            rw [eg, en] at hTk
            have dm : ((m : Int) == (T : Int)) = false := by simp; omega
            have dm' : (m == T) = false := by simp [hnow]
            have HX : Hid (∀ x, Hs p T (if T = 0 then 0 else m) x → Two p p wr x → Hs p T (if T = 0 then 0 else m) x ∧ Below p w x) := fun x h1 h2 => ⟨h1, HBw.out.trans (h2.below hpw (Nat.le_refl _) (Nat.le_refl _))⟩
            have hmk : m ≤ k + 1 := by omega
            have hmT : T ≠ 0 → m < T := fun h => by have := hGT h; omega
            have HMT := hidOf2 hmT
            clear hH hnow hm eg en hG hGT hmT
            go_wp2_with (go_at_call 12; refine hTk.mono ?_; rintro e x ⟨r, rfl, hr, a1, a2⟩; unfold HtA at hr; rw [if_neg (by decide)] at hr; subst hr; have HX1 := hidOf2 (HX.out x a1 a2); clear a1 a2)
            go_roundw
            case rel => exact ⟨k + 1, T, m, by omega, rfl, rfl, rfl, HX1.out.1, HX1.out.2, hT, hmk, HMT.out⟩
            case measure => simp [intOf]; omega
        · -- Set
          by_cases hbad : 4294967296 < n
          · have dn : decide ((4294967296 : Int) < (n : Int)) = true := by simp; omega
            have dn' : decide (4294967296 < n) = true := by simp; omega
            have hS := hset_bad (g := p) (w := wr) n hbad
            have HX := hidOf2 hH
            have HMT := hidOf2 hGT
            clear hH hGT hbad
            go_wp2_with (go_at_call 11; refine hS.mono ?_; rintro e x ⟨rfl, hx⟩; rw [hx])
            go_roundw
            case rel => exact ⟨k + 1, T, G, by omega, rfl, rfl, rfl, HX.out, HBw.out, hT, by omega, HMT.out⟩
            case measure => simp [intOf]; omega
          · have dn : decide ((4294967296 : Int) < (n : Int)) = false := by simp; omega
            have dn' : decide (4294967296 < n) = false := by simp; omega
            have hS := hset_ok hH n (by omega)
            have hnn : n ≤ 4294967296 := by omega
            have HX : Hid (∀ x, Hs p n 0 x → Two p p wr x → Hs p n (if n = 0 then 0 else 0) x ∧ Below p w x) := fun x h1 h2 => ⟨by simpa using h1, HBw.out.trans (h2.below hpw (Nat.le_refl _) (Nat.le_refl _))⟩
            clear hH hGT hbad
            go_wp2_with (go_at_call 11; refine hS.mono ?_; rintro e x ⟨rfl, a1, a2⟩; have HX1 := hidOf2 (HX.out x a1 a2); clear a1 a2)
            go_roundw
            case rel => exact ⟨k + 1, n, 0, by omega, rfl, rfl, rfl, HX1.out.1, HX1.out.2, hnn, by omega, by omega⟩
            case measure => simp [intOf]; omega
      · obtain rfl : k = L := by omega
        have hd : decide ((k : Int) < (k : Int)) = false := by simp
        clear HC hb hH hGT
        go_wp2_with (go_at_call 10; refine (HL _).mono ?_; rintro e w2 ⟨rfl, b2⟩)
        go_ret
        exact ⟨rfl, below_low HBw.out b2 hpw⟩
theorem bhrt_walkI (a : Int) (ha : 0 ≤ a ∧ a < 18446744073709551616) (v : Value) (l : List T18) (hl : l.length ≤ 140737488351232) (w : World) (hB : Wide 3 T18.c w v l) :
    Calls Try.prog 3 #[.int .u64 a, v] w fun e w' => e = .returned (.bool true) ∧ Below w.heap.size w w' := by
  obtain ⟨n, rfl⟩ : ∃ n : Nat, a = n := ⟨a.toNat, by omega⟩
  exact bhrt_walk n v l hl w (by omega) hB
end Go.Proofs.Ytceomfefffngaaa
