/- The law SyncAll returns true whatever comes in. -/
import Derived.Test.YtnmjeomhmmfgmaaLawYSto
import Derived.Test.YtnmjeomhmmfgmaaYaN
import Derived.Test.YtnmjeomhmmfgmaaYOp
namespace Go.Proofs.Ytnmjeomhmmfgmaa
open Go.RowKit
set_option linter.unusedVariables false
set_option maxRecDepth 1000000

set_option maxHeartbeats 4000000 in
theorem yall_walk (a : F14) (c : G14) (w : World) :
    Calls Try.prog 5 #[.agg a.arr, .agg c.arr] w fun e w' => e = .returned (.bool true) ∧ Below w.heap.size w w' := by
  unfold F14.arr G14.arr
  obtain ⟨per, ovf, hper, hovf⟩ := a
  obtain ⟨n, f, lost, hn, hf, hlost⟩ := c
  simp only
  obtain ⟨g, hg⟩ : ∃ g, w.heap.size = g := ⟨_, rfl⟩
  obtain ⟨W1, hW1⟩ : ∃ W, w.alloc (.cells #[.int .u8 per, .int .u8 ovf] 56) = W := ⟨_, rfl⟩
  have n1 : W1.heap[g]? = some (.cells #[.int .u8 per, .int .u8 ovf] 56 (0, 0)) := by rw [← hW1, ← hg]; exact heap_alloc_new w _
  have s1 : W1.heap.size = g + 1 := by rw [← hW1, ← hg]; simp
  have b1 : Below g w W1 := by rw [← hW1, ← hg]; exact (Below.refl _ _).alloc (Nat.le_refl _) _
  obtain ⟨W2, hW2⟩ : ∃ W, W1.alloc (.cells #[.int .u8 n, .int .u8 f, .int .u8 lost] 58) = W := ⟨_, rfl⟩
  have n2 : W2.heap[g + 1]? = some (.cells #[.int .u8 n, .int .u8 f, .int .u8 lost] 58 (0, 0)) := by rw [← hW2, ← s1]; exact heap_alloc_new W1 _
  have n1' : W2.heap[g]? = some (.cells #[.int .u8 per, .int .u8 ovf] 56 (0, 0)) := by rw [← hW2]; exact (Below.heap_alloc W1 _ g (by omega)).trans n1
  have b2 : Below g w W2 := by rw [← hW2]; exact b1.alloc (by omega) _
  have c0 := Lib.cell_of_heap n1' 0
  have c1 := Lib.cell_of_heap n1' 1
  have c2 := Lib.cell_of_heap n2 0
  have c3 := Lib.cell_of_heap n2 1
  have c4 := Lib.cell_of_heap n2 2
  simp at c0 c1 c2 c3 c4
  have e1 : (ovf : Int).tmod 239 = ((ovf % 239 : Nat) : Int) := rfl
  have hr : ovf % 239 < 239 := Nat.mod_lt _ (by omega)
  generalize ovf % 239 = r at *
  obtain ⟨en, hen⟩ : ∃ E : Nat, 2 + (r : Int) = (E : Int) := ⟨2 + r, by omega⟩
  have he2 : 2 ≤ en := by omega
  have he3 : en ≤ 240 := by omega
  obtain ⟨P, hP⟩ : ∃ E : Nat, 1 + (per : Int) = (E : Int) := ⟨1 + per, by omega⟩
  have hP1 : 1 ≤ P := by omega
  have hP2 : P ≤ 256 := by omega
  have hoO : ovO en = true := by simp [ovO]; omega
  have HG : Hid (w.heap.size = g) := hg
  have HB2 : Hid (Below g w W2) := b2
  clear n1 n1' n2 b1 b2 hr
  go_enter Try.func5, Try.ntmps5
  go_wp2_with fail
  go_quiet (fail)
  go_wp2_with fail
  have b3 : Below g w (W2.drewN nq) := below_drawn HB2.out _
  clear hW1 hW2 s1 c0 c1 c2 c3 c4 HB2 hg
  generalize W2.drewN nq = W3 at *
  refine (newP_ok W3 P en hP1 (by omega) hoO).mono ?_
  rintro e w1 ⟨rfl, hw1⟩
  have P1 := Pa.new W3 P en
  have b4 : Below g w w1 := by rw [hw1]; exact b3.alloc (by have := b3.size; have := HG.out; omega) _
  rw [← hw1] at P1
  have hgp : g ≤ W3.heap.size := by have := b3.size; have := HG.out; omega
  clear hw1 b3
  generalize W3.heap.size = p at *
  have hNC := newC_ok w1 en 0 (by omega) hoO
  go_wp2_with fail
  refine hNC.mono ?_
  rintro e w2 ⟨rfl, hw2⟩
  have C2 := Ca.new w1 en 0
  have P2 := P1.alloc (.cells #[.int .i64 en, .int .u64 ((0 : Nat) : Int), .int .i64 0, .int .u64 0, .int .u64 0, .int .u64 0] 68)
  have b5 : Below g w w2 := by rw [hw2]; exact b4.alloc (by have := b4.size; have := HG.out; omega) _
  rw [← hw2] at C2 P2
  have hpc := P1.lt
  clear hNC hw2 P1 b4
  generalize w1.heap.size = q at *
  have ok0 : (⟨P, en, false, 0, 0⟩ : Ps).ok := ⟨hP1, by simp only; omega, he3, by simp only; omega⟩
  have hS := start_any ok0 P2 true
  go_wp2_with fail
  refine hS.mono ?_
  rintro e w3 ⟨rfl, P3, T3⟩
  have C3 := C2.two T3 (by omega) (by omega)
  have b6 : Below g w w3 := b5.trans (T3.below (by have := b5.size; have := HG.out; omega) hgp hgp)
  have es : (⟨P, en, false, 0, 0⟩ : Ps).start true = ⟨P, en, true, 0, 0⟩ := rfl
  rw [es] at P3
  clear hS P2 T3 C2 b5 es ok0
  have hm1 : (en : Int) - 1 = ((en - 1 : Nat) : Int) := by omega
  have hm2 : (lost : Int).tmod ((en - 1 : Nat) : Int) = ((lost % (en - 1) : Nat) : Int) := rfl
  have hm3 : lost % (en - 1) < en - 1 := Nat.mod_lt _ (by omega)
  have hm4 : ((en - 1 : Nat) : Int) ≠ 0 := by omega
  obtain ⟨en1, hen1⟩ : ∃ x, en - 1 = x := ⟨_, rfl⟩
  rw [hen1] at hm1 hm2 hm3 hm4
  generalize lost % en1 = m at *
  have hmm : m < 239 := by omega
  have HM : Hid (m < en - 1) := by show _ < _; omega
  clear hen1
  have HY0 : Hid (YI en f m 0 ⟨en, 0, 0, 0, 0, 0⟩) := yi_zero he2 he3
  go_wp2_with fail
  go_loopw [16, 17] (fun wv iv x => ∃ i : Nat, i ≤ n ∧ iv = .int .i64 i ∧ wv = .int .i64 (Wi f m i) ∧ (∃ s, YI en f m i s ∧ Ca q s x) ∧ Pa p ⟨P, en, true, 0, i⟩ x ∧ Below g w x) (fun _ iv _ => n - (intOf iv).toNat)
  case atStart => exact ⟨0, by omega, rfl, by unfold Wi; rw [if_neg (by omega)]; rfl, ⟨_, HY0.out, C3⟩, P3, b6⟩
  case round =>
    clear HY0 C3 P3 b6
    obtain ⟨i, hi, rfl, rfl, ⟨s, hYI, C4⟩, P4, b6⟩ := hrel
    have HY : Hid (YI en f m i s) := hYI
    clear hYI
    by_cases hin : i < n
    · have hd : decide ((i : Int) < (n : Int)) = true := by simp; omega
      have ok4 : (⟨P, en, true, 0, i⟩ : Ps).ok := ⟨hP1, by simp only; omega, he3, by simp only; omega⟩
      have hT := tick_any ok4 P4 P
      rw [show min P 65536 = P by omega, (ps_one hP1).1, (ps_one hP1).2] at hT
      clear P4 ok4
      go_wp2_with fail
      refine hT.mono ?_
      rintro e w5 ⟨v5, rfl, r5, P5, T5⟩
      have C5 := C4.two T5 (by omega) (by omega)
      have b7 : Below g w w5 := b6.trans (T5.below (by have := b6.size; have := HG.out; omega) hgp hgp)
      obtain ⟨q5, cap5, rfl, hcap5, hcell5⟩ := r5.cell (k := 0) (by simp)
      simp only [List.length_cons, List.length_nil, Nat.zero_add, List.getElem_cons_zero] at hcell5 ⊢
      have HWi : Hid (¬ (0 < m ∧ i = f + m + 1) → Wi f m (i + 1) = Wi f m i) := fun h => by
        unfold Wi
        repeat' split
        all_goals omega
      clear hT T5 C4 b6 r5
      by_cases hfi : f < i
      · have d1 : decide ((f : Int) < (i : Int)) = true := by simp; omega
        have d1' : decide (f < i) = true := by simp; omega
        by_cases him : i ≤ f + m
        · have d2 : decide ((i : Int) ≤ (f : Int) + (m : Int)) = true := by simp; omega
          have HY2 : Hid (YI en f m (i + 1) s) := yi_lost HY.out hfi him
          have hWi := HWi.out (by omega)
          clear hcell5
          go_wp2_with fail
          go_roundw
          case rel => exact ⟨i + 1, by omega, by go_num, by rw [hWi], ⟨s, HY2.out, C5⟩, P5, b7⟩
          case measure => simp [intOf]; omega
        · have d2 : decide ((i : Int) ≤ (f : Int) + (m : Int)) = false := by simp; omega
          by_cases hib : i = f + m + 1
          · by_cases hm0 : 0 < m
            · have hT2 := ctake_any HY.out.ok C5 (cnt en (i + 1) : Nat)
              obtain ⟨t1, t2⟩ := yi_bad HY.out he2 (by omega) HM.out (by omega) hib
              rw [t1] at hT2
              have HY2 : Hid (YI en f m (i + 1) (s.take (cnt en (i + 1) : Nat))) := t2
              have HW2 : Hid (Wi f m i = 0 ∧ Wi f m (i + 1) = 1) := by
                refine ⟨?_, ?_⟩
                · unfold Wi; rw [if_neg (by omega)]
                · unfold Wi; rw [if_pos (by omega)]
              rw [HW2.out.1]
              generalize s.take (cnt en (i + 1) : Nat) = s2 at *
              clear t1 t2
              generalize cnt en (i + 1) = cc at *
              have d7 : ((i : Int) != (f : Int) + (m : Int) + 1) = false := by simp; omega
              go_wp2_with fail
              refine hT2.mono ?_
              rintro e w6 ⟨rfl, C6, T6⟩
              have P6 := P5.two T6 (by omega) (by omega)
              have b8 : Below g w w6 := b7.trans (T6.below (by have := b7.size; have := HG.out; omega) (by omega) (by omega))
              clear hT2 T6 C5 P5 b7
              go_wp2_with fail
              go_roundw
              case rel => exact ⟨i + 1, by omega, by go_num, by rw [HW2.out.2]; rfl, ⟨s2, HY2.out, C6⟩, P6, b8⟩
              case measure => simp [intOf]; omega
            · have HX : Hid (¬ (0 < m ∧ i = f + m + 1) ∧ ¬ (f < i ∧ i ≤ f + m)) := ⟨by omega, by omega⟩
              clear hm0 hib
              have hT2 := ctake_any HY.out.ok C5 (cnt en (i + 1) : Nat)
              obtain ⟨t1, t2⟩ := yi_ok HY.out he2 (by omega) HX.out.2 HX.out.1
              have hWi := HWi.out HX.out.1
              rw [t1] at hT2
              have HY2 : Hid (YI en f m (i + 1) (s.take (cnt en (i + 1) : Nat))) := t2
              generalize s.take (cnt en (i + 1) : Nat) = s2 at *
              clear t1 t2
              generalize cnt en (i + 1) = cc at *
              go_wp2_with fail
              refine hT2.mono ?_
              rintro e w6 ⟨rfl, C6, T6⟩
              have P6 := P5.two T6 (by omega) (by omega)
              have b8 : Below g w w6 := b7.trans (T6.below (by have := b7.size; have := HG.out; omega) (by omega) (by omega))
              clear hT2 T6 C5 P5 b7
              go_wp2_with fail
              go_roundw
              case rel => exact ⟨i + 1, by omega, by go_num, by rw [hWi], ⟨s2, HY2.out, C6⟩, P6, b8⟩
              case measure => simp [intOf]; omega
          · skip
            have hT2 := ctake_any HY.out.ok C5 (cnt en (i + 1) : Nat)
            obtain ⟨t1, t2⟩ := yi_ok HY.out he2 (by omega) (by omega) (by omega)
            have hWi := HWi.out (by omega)
            rw [t1] at hT2
            have HY2 : Hid (YI en f m (i + 1) (s.take (cnt en (i + 1) : Nat))) := t2
            generalize s.take (cnt en (i + 1) : Nat) = s2 at *
            clear t1 t2
            generalize cnt en (i + 1) = cc at *
            go_wp2_with fail
            refine hT2.mono ?_
            rintro e w6 ⟨rfl, C6, T6⟩
            have P6 := P5.two T6 (by omega) (by omega)
            have b8 : Below g w w6 := b7.trans (T6.below (by have := b7.size; have := HG.out; omega) (by omega) (by omega))
            clear hT2 T6 C5 P5 b7
            go_wp2_with fail
            go_roundw
            case rel => exact ⟨i + 1, by omega, by go_num, by rw [hWi], ⟨s2, HY2.out, C6⟩, P6, b8⟩
            case measure => simp [intOf]; omega
      · have d1 : decide ((f : Int) < (i : Int)) = false := by simp; omega
        have d1' : decide (f < i) = false := by simp; omega
        have hT2 := ctake_any HY.out.ok C5 (cnt en (i + 1) : Nat)
        obtain ⟨t1, t2⟩ := yi_ok HY.out he2 (by omega) (by omega) (by omega)
        have hWi := HWi.out (by omega)
        rw [t1] at hT2
        have HY2 : Hid (YI en f m (i + 1) (s.take (cnt en (i + 1) : Nat))) := t2
        generalize s.take (cnt en (i + 1) : Nat) = s2 at *
        clear t1 t2
        generalize cnt en (i + 1) = cc at *
        go_wp2_with fail
        refine hT2.mono ?_
        rintro e w6 ⟨rfl, C6, T6⟩
        have P6 := P5.two T6 (by omega) (by omega)
        have b8 : Below g w w6 := b7.trans (T6.below (by have := b7.size; have := HG.out; omega) (by omega) (by omega))
        clear hT2 T6 C5 P5 b7
        go_wp2_with fail
        go_roundw
        case rel => exact ⟨i + 1, by omega, by go_num, by rw [hWi], ⟨s2, HY2.out, C6⟩, P6, b8⟩
        case measure => simp [intOf]; omega
    · have hd : decide ((i : Int) < (n : Int)) = false := by simp; omega
      obtain rfl : i = n := by omega
      have HL := lives14_any wr
      have hWr := cwrong_any C4
      rw [HY.out.wr] at hWr
      by_cases hw : 0 < m ∧ f + m + 1 < i
      · have e0 : Wi f m i = 1 := by unfold Wi; rw [if_pos hw]
        rw [e0] at hWr
        rw [e0]
        obtain ⟨hw1, hw2⟩ := hw
        have d3 : decide ((0 : Int) < (m : Int)) = true := by simp; omega
        have d3' : decide (0 < m) = true := by simp; omega
        have d4 : decide ((f : Int) + (m : Int) + 1 < (i : Int)) = true := by simp; omega
        rw [show ((1 : Nat) : Int) = 1 from rfl] at hWr ⊢
        go_wp2_with (first | (go_at_call 25; refine hWr.mono ?_; rintro e w7 ⟨rfl, rfl⟩) | (go_at_call 10; refine HL.mono ?_; rintro e w8 ⟨rfl, B8⟩))
        go_ret
        exact ⟨rfl, by rw [HG.out]; exact b6.trans (B8.mono (by have := b6.size; have := HG.out; omega))⟩
      · have e0 : Wi f m i = 0 := by unfold Wi; rw [if_neg hw]
        rw [e0] at hWr
        rw [e0]
        rw [show ((0 : Nat) : Int) = 0 from rfl] at hWr ⊢
        by_cases hm0 : 0 < m
        · have d3 : decide ((0 : Int) < (m : Int)) = true := by simp; omega
          have d3' : decide (0 < m) = true := by simp; omega
          have d4 : decide ((f : Int) + (m : Int) + 1 < (i : Int)) = false := by simp; omega
          clear hw
          go_wp2_with (first | (go_at_call 25; refine hWr.mono ?_; rintro e w7 ⟨rfl, rfl⟩) | (go_at_call 10; refine HL.mono ?_; rintro e w8 ⟨rfl, B8⟩))
          go_ret
          exact ⟨rfl, by rw [HG.out]; exact b6.trans (B8.mono (by have := b6.size; have := HG.out; omega))⟩
        · have d3 : decide ((0 : Int) < (m : Int)) = false := by simp; omega
          have d3' : decide (0 < m) = false := by simp; omega
          clear hw
          go_wp2_with (first | (go_at_call 25; refine hWr.mono ?_; rintro e w7 ⟨rfl, rfl⟩) | (go_at_call 10; refine HL.mono ?_; rintro e w8 ⟨rfl, B8⟩))
          go_ret
          exact ⟨rfl, by rw [HG.out]; exact b6.trans (B8.mono (by have := b6.size; have := HG.out; omega))⟩
end Go.Proofs.Ytnmjeomhmmfgmaa
