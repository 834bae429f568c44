/- Contracts: slices.Grow, slices.Concat, sumOf. -/
import Derived.Test.YthbcpmakhdogmaaNvN
import Derived.Test.YthbcpmakhdogmaaNvS
import Derived.Lib.AppendZerosOnto
import Derived.Lib.SliceRun
import Derived.Lib.Walk
import Derived.Great.BuildSlice
namespace Go.Proofs.Ythbcpmakhdogmaa
open Go.RowKit Go.Proofs.Ty Go.Proofs.Nv Go.Proofs.Bits
set_option linter.unusedVariables false
set_option maxRecDepth 1000000
set_option linter.unusedSimpArgs false
set_option maxHeartbeats 2000000 in
theorem Grow_nil (n : Nat) (w : World) (h0 : 0 < n) (hn : n ≤ 140737488355328) :
    Calls Try.prog 50 #[.slice none 0 0, .int .i64 n] w fun e w' => ∃ v, e = .returned v ∧ w'.ownsRow w.heap.size 5 1 v 0 [] ∧ Below w.heap.size w w' := by
  obtain ⟨i0, hi0, hz0, hz1, hz2⟩ := info_parts info5
  have hold : (Builtin.firstCells i0.size 0 (.slice none 0 0)).run Try.prog w.drew = .ok ([] : List Value).toArray w.drew := by simp [Builtin.firstCells]
  have hrz : ∀ ty, (Builtin.append_ #[30, 3] ty #[.slice none 0 0, .int .i64 n]).run Try.prog w =
      .ok (.slice (some ⟨w.heap.size, 0, none⟩) n (grownCap w n 0 5)) (w.drew.alloc (.cells (([] : List Value).toArray ++ Builtin.zeroCells (Value.int .u8 0).cells n ++ Builtin.zeroCells (Value.int .u8 0).cells (grownCap w n 0 5 - n)) 5)) := fun ty => by
    have h := Lib.run_append_grow_zeros w 30 3 ty 5 i0 (.int .u8 0) .i64 .i64 Try.underlying30 Try.underlying3 hi0 hz0 none 0 0 [] hold n h0 (by rw [hz1]; decide) (by omega) (by omega) (by rw [hz2]; omega) (by
      have := growslice_fits (need := 0 + n) (old := 0) (bytes := i0.bytes) (by omega) (by rw [hz2]; omega)
      exact this)
    simpa using h
  have hGn : n ≤ grownCap w n 0 5 := grownCap_ge w _ _ _
  have hGm := grownCap_le_maxLen w n 0 5 (by unfold maxLen; omega)
  have HOW : Hid ((w.drew.alloc (.cells (([] : List Value).toArray ++ Builtin.zeroCells (Value.int .u8 0).cells n ++ Builtin.zeroCells (Value.int .u8 0).cells (grownCap w n 0 5 - n)) 5)).ownsRow w.heap.size 5 1 (.slice (some ⟨w.heap.size, 0, none⟩) 0 (grownCap w n 0 5)) 0 []) := by
    refine ⟨rfl, .inr ⟨w.heap.size, _, _, rfl, Nat.le_refl _, heap_alloc_new w.drew _, Nat.zero_le _, hGm, ?_, rfl⟩⟩
    simp [Builtin.zeroCells, Value.cells]
    omega
  have HBL : Hid (Below w.heap.size w (w.drew.alloc (.cells (([] : List Value).toArray ++ Builtin.zeroCells (Value.int .u8 0).cells n ++ Builtin.zeroCells (Value.int .u8 0).cells (grownCap w n 0 5 - n)) 5))) := (bdr (Below.refl _ w) 1).alloc (Nat.le_refl _) _
  generalize w.drew.alloc _ = wz at *
  generalize grownCap w n 0 5 = G at *
  unfold maxLen at hGm
  go_enter Try.func50, Try.ntmps50
  go_wp2_with (at_builtin; refine Lib.wpList_append_run _ rfl _ _ _ _ rfl _ _ rfl rfl _ _ (hrz _) ?_)
  all_goals (go_ret; exact ⟨_, rfl, HOW.out, HBL.out⟩)
theorem load_bs (x : World) (D k : Nat) (ao : Option Addr) (l c : Nat) (hc : x.cell? ⟨D, k, none⟩ = some (.slice ao l c)) : (loadVar 30 ⟨D, k, none⟩).run Try.prog x = .ok (.slice ao l c) x := by
  simp [go_sem, run_underlying Try.underlying30, hc]
theorem bytes_shapeN {w : World} {v : Value} {l : List UInt8} (h : Bytes w v l) : ∃ ao cap, v = .slice ao l.length cap := by
  obtain ⟨ao, cap, rfl, _⟩ := h
  exact ⟨ao, cap, rfl⟩
set_option maxHeartbeats 4000000 in
theorem Concat_two (g cap : Nat) (u v : Value) (l m : List UInt8) (w : World) (h0 : 0 < l.length) (hm : l.length + m.length ≤ 140737488355328) (hg : w.heap[g]? = some (.cells #[u, v] 30 (0, 0))) (hu : Bytes w u l) (hv : Bytes w v m) :
    Calls Try.prog 48 #[.slice (some ⟨g, 0, none⟩) 2 cap] w fun e w' => ∃ x, e = .returned x ∧ Bytes w' x (l ++ m) ∧ Below w.heap.size w w' := by
  have HU := hidOf hu
  have HV := hidOf hv
  have HG := hidOf hg
  obtain ⟨au, cu, rfl⟩ := bytes_shapeN hu
  obtain ⟨av, cv, rfl⟩ := bytes_shapeN hv
  have c0 : w.cell? ⟨g, 0, none⟩ = some (.slice au l.length cu) := Lib.cell_of_heap hg 0
  have c1 : w.cell? ⟨g, 1, none⟩ = some (.slice av m.length cv) := Lib.cell_of_heap hg 1
  have hGr := Grow_nil (l.length + m.length) w (by omega) hm
  have hglt := (Array.getElem?_eq_some_iff.1 hg).1
  clear hu hv hg
  obtain ⟨nl, hnl⟩ : ∃ n, l.length = n := ⟨_, rfl⟩
  obtain ⟨nm, hnm⟩ : ∃ n, m.length = n := ⟨_, rfl⟩
  have HNL := hidOf hnl
  have HNM := hidOf hnm
  rw [hnl] at c0 h0 hm hGr HG HU
  rw [hnm] at c1 hm hGr HG HV
  clear hnl hnm
  go_enter Try.func48, Try.ntmps48
  go_wp2
  go_loop [3, 11] (fun n i => (i = .int .i64 0 ∧ n = .int .i64 0) ∨ (i = .int .i64 1 ∧ n = .int .i64 nl) ∨ (i = .int .i64 2 ∧ n = .int .i64 ((nl : Int) + nm))) (fun _ i => 2 - (intOf i).toNat)
  case atStart => exact .inl ⟨rfl, rfl⟩
  case round =>
    rcases hrel with ⟨rfl, rfl⟩ | ⟨rfl, rfl⟩ | ⟨rfl, rfl⟩
    · go_wp2
      all_goals
        go_round
        case rel => exact .inr (.inl ⟨rfl, rfl⟩)
        case measure => simp [intOf]
    · go_wp2
      all_goals
        go_round
        case rel => exact .inr (.inr ⟨rfl, by go_num⟩)
        case measure => simp [intOf]
    · have hd : decide ((nl : Int) + nm < 0) = false := by simp; omega
      rw [Int.natCast_add] at hGr
      go_wp2_with (go_at_call 50; refine hGr.mono ?_; rintro e w1 ⟨x, rfl, hown, hb⟩; have HO := hidOf hown; have HB := hidOf hb; clear hown hb)
      go_loopw [6, 27] (fun y i wr => (i = .int .i64 0 ∧ Hid (wr.ownsRow w.heap.size 5 1 y ([] : List UInt8).length (Lib.byteCells [])) ∧ Hid (Below w.heap.size w wr)) ∨ (i = .int .i64 1 ∧ Hid (wr.ownsRow w.heap.size 5 1 y l.length (Lib.byteCells l)) ∧ Hid (Below w.heap.size w wr)) ∨ (i = .int .i64 2 ∧ Hid (wr.ownsRow w.heap.size 5 1 y (l ++ m).length (Lib.byteCells (l ++ m))) ∧ Hid (Below w.heap.size w wr))) (fun _ i _ => 2 - (intOf i).toNat)
      case atStart => exact .inl ⟨rfl, HO, HB⟩
      case round =>
        clear HO HB hGr
        rcases hrel with ⟨rfl, HO, HB⟩ | ⟨rfl, HO, HB⟩ | ⟨rfl, HO, HB⟩
        · have c0' : wr.cell? ⟨g, 0, none⟩ = some (.slice au nl cu) := (HB.out.cell (p := ⟨g, 0, none⟩) hglt).trans c0
          have hlb := (HB.out.size : _)
          have hby := HU.out.below HB.out
          go_wp2_with (go_loud (at_builtin; refine append_bytes rfl _ _ rfl w.heap.size _ [] rfl HO.out _ l rfl hby (by have := HNL.out; simp; omega) hlb ?_; intro v1 w2 ho hgr; have HO2 := hidOf (show w2.ownsRow w.heap.size 5 1 v1 l.length (Lib.byteCells l) from ho); have HB2 := hidOf (HB.out.grown hgr HB.out.size (fun k e => own_lt HO.out k e)); clear ho hgr))
          go_roundw
          case rel => exact .inr (.inl ⟨rfl, HO2, HB2⟩)
          case measure => simp [intOf]
        · have c0' : wr.cell? ⟨g, 1, none⟩ = some (.slice av nm cv) := (HB.out.cell (p := ⟨g, 1, none⟩) hglt).trans c1
          have hlb := (HB.out.size : _)
          have hby := HV.out.below HB.out
          go_wp2_with (go_loud (at_builtin; refine append_bytes rfl _ _ rfl w.heap.size _ l rfl HO.out _ m rfl hby (by have := HNL.out; have := HNM.out; omega) hlb ?_; intro v1 w2 ho hgr; have HO2 := hidOf ho; have HB2 := hidOf (HB.out.grown hgr HB.out.size (fun k e => own_lt HO.out k e)); clear ho hgr))
          go_roundw
          case rel => exact .inr (.inr ⟨rfl, HO2, HB2⟩)
          case measure => simp [intOf]
        · go_wp2
          go_ret
          exact ⟨_, rfl, bytes_of_own HO.out, HB.out⟩
theorem bytes_cells {w : World} {q off n : Nat} {l : List UInt8} {A : Array Value} {T : TypeId} {fr : Nat × Nat} (hq : w.heap[q]? = some (.cells A T fr)) (cap : Nat) (hn : l.length = n) (hA : ∀ k (h : k < l.length), A[off + k]? = some (.int .u8 l[k].toNat)) : Bytes w (.slice (some ⟨q, off, none⟩) n cap) l := by
  subst hn
  exact ⟨_, _, rfl, (fun h => by cases h), fun k hk => ⟨q, off, rfl, (Array.getElem?_eq_some_iff.1 hq).1, by rw [Lib.cell_of_heap hq]; exact hA k hk⟩⟩
theorem byC_part (h : List UInt8) (o n : Nat) (k : Nat) (hk : k < ((h.drop o).take n).length) : (byC h).toArray[o + k]? = some (.int .u8 ((h.drop o).take n)[k].toNat) := by
  rw [List.length_take, List.length_drop] at hk
  rw [List.getElem?_toArray, byC_get h (o + k) (by omega)]
  simp
set_option maxHeartbeats 4000000 in
theorem sumOf_any (h : List UInt8) (v : Value) (b : List UInt8) (w : World) (h8 : h.length = 8) (hb : b.length ≤ 140737488351232) (hB : Bytes w v b) :
    Calls Try.prog 40 #[pgV h, v] w fun e w' => e = .returned (.int .u16 (crc16 (h.take 6 ++ b))) ∧ Below w.heap.size w w' := by
  obtain ⟨A, hA⟩ : ∃ A, (byC h).toArray = A := ⟨_, rfl⟩
  have hAs : A.size = 8 := by rw [← hA]; simp [Lib.byteCells, h8]
  have HA : Hid (∀ k (hk : k < (h.take 6).length), A[0 + k]? = some (.int .u8 (h.take 6)[k].toNat)) := by
    intro k hk
    have := byC_part h 0 6 k (by simpa using hk)
    rw [hA] at this
    simpa using this
  have hl6 : (h.take 6).length = 6 := by simp [h8]
  have B1 : Below w.heap.size w (w.alloc (.cells A 38)) := (Below.refl _ w).alloc (Nat.le_refl _) _
  have hq := heap_alloc_new w (.cells A 38 (0, 0))
  obtain ⟨av, cv, rfl⟩ := bytes_shapeN hB
  obtain ⟨nb, hnb⟩ : ∃ n, b.length = n := ⟨_, rfl⟩
  rw [hnb] at hB hb ⊢
  have HNB := hidOf hnb
  obtain ⟨w1, hw1⟩ : ∃ x, w.alloc (.cells A 38) = x := ⟨_, rfl⟩
  obtain ⟨q, hqs⟩ : ∃ q, w.heap.size = q := ⟨_, rfl⟩
  rw [hw1] at B1 hq
  rw [hqs] at hq
  have hb2 : Below w.heap.size w (w1.alloc (.cells #[.slice (some ⟨q, 0, none⟩) 6 8, .slice av nb cv] 30)) := B1.alloc B1.size _
  have hq2 : (w1.alloc (.cells #[.slice (some ⟨q, 0, none⟩) 6 8, .slice av nb cv] 30)).heap[q]? = some (.cells A 38 (0, 0)) := (Below.heap_alloc w1 _ q (Array.getElem?_eq_some_iff.1 hq).1).trans hq
  have hC := Concat_two w1.heap.size 2 (.slice (some ⟨q, 0, none⟩) 6 8) (.slice av nb cv) (h.take 6) b (w1.alloc (.cells #[.slice (some ⟨q, 0, none⟩) 6 8, .slice av nb cv] 30)) (by omega) (by omega) (heap_alloc_new w1 _) (bytes_cells hq2 8 hl6 HA.out) (hB.below hb2)
  have HB2 := hidOf hb2
  unfold pgV
  rw [hA]
  have HL : Hid ((h.take 6 ++ b).length ≤ maxLen) := by show _ ≤ _; unfold maxLen; simp; omega
  obtain ⟨w2, hw2⟩ : ∃ x, w1.alloc (.cells #[.slice (some ⟨q, 0, none⟩) 6 8, .slice av nb cv] 30) = x := ⟨_, rfl⟩
  rw [hw2] at hC HB2
  generalize h.take 6 ++ b = L at *
  clear hq2 hb2 hB hA B1 HA hl6 h8
  go_enter Try.func40, Try.ntmps40
  go_wp2_with (first | (go_at_call 48; refine hC.mono ?_; rintro e w3 ⟨x, rfl, hx, hbb⟩; have HX := hidOf hx; have HB3 := hidOf (HB2.out.trans (hbb.mono HB2.out.size)); have hcr := CRC16_bytes x L w3 HL.out hx; clear hx hbb) | (go_at_call 47; refine hcr.mono ?_; rintro e w4 ⟨rfl, hw4⟩; rw [hw4]; clear hw4 w4))
  go_ret
  exact ⟨rfl, HB3.out⟩
end Go.Proofs.Ythbcpmakhdogmaa
