/- The law BusTurned returns true for every slice of senders and every slice of flips, and leaves all as they were. -/
import Derived.Test.YtlghjfomliappaaTa10
import Derived.Deep.RegionLaw
import Derived.Deep.AppendLies
namespace Go.Proofs.Ytlghjfomliappaa
open Go.RowKit Go.Proofs.Bits
set_option linter.unusedVariables false
set_option maxRecDepth 1000000

theorem infoNZ : (Try.prog.info? 80).map (fun i => (i.zero, i.size, i.bytes)) = some (some (.agg nodeZ), 16, 72) := by kernel_rfl
theorem new_no {n : Int} (w : World) (h : n < 1 ∨ 127 < n) : Calls Try.prog 12 #[.int .i64 n] w fun e w' => e = .returned (.tuple #[.pointer none, .int .i64 1]) ∧ w' = w := by
  by_cases h1 : n < 1
  · have d1 : decide (n < 1) = true := by simpa using h1
    go_enter Try.func12, Try.ntmps12
    go_wp2
    go_ret2
    exact ⟨rfl, rfl⟩
  · have d1 : decide (n < 1) = false := by simpa using h1
    have d2 : decide (127 < n) = true := by simp; omega
    go_enter Try.func12, Try.ntmps12
    go_wp2
    go_ret2
    exact ⟨rfl, rfl⟩
theorem run_make_nodes (n : Nat) (hn : n ≤ 127) (w : World) : (Instr.makeSlice 74 (.int .i64 n) (.int .i64 n)).run Try.prog w = .ok (.slice (some ⟨w.heap.size, 0, none⟩) n n) (w.alloc (.cells (madeCells nodeZ (n * 16)) 80)) := by
  obtain ⟨i0, hi, hz0, hz1, hz2⟩ := info_parts infoNZ
  have := run_make (P := Try.prog) w 74 80 i0 _ Try.underlying74 hi hz0 .i64 .i64 n n (by omega) (Int.le_refl _) (by rw [hz2]; omega) (by omega)
  simp only [Int.toNat_natCast, hz1] at this
  exact this
/-- What stands when k units have been made: their blocks lie behind the bus, one behind the other. -/
structure NewS (w : World) (n k : Nat) (x : World) : Prop where
  bel : Below w.heap.size w x
  hb : x.heap[w.heap.size + 1]? = some (.cells #[sl w.heap.size n, .int .u64 0] 76 (0, 0))
  ht : x.there w.heap.size 0 (n * 16)
  hn : ∀ i, i < k → x.rangeAt w.heap.size (i * 16) (Nd.nul.cells (w.heap.size + 2 + i) nilV)
  hz : ∀ i, k ≤ i → i < n → x.rangeAt w.heap.size (i * 16) nodeZ.toList
  hu : ∀ i, i < k → Ua (w.heap.size + 2 + i) Un.nul x
  sz : x.heap.size = w.heap.size + 2 + k
theorem NewS.start (w : World) (n : Nat) : NewS w n 0 ((w.alloc (.cells (madeCells nodeZ (n * 16)) 80)).alloc (.cells #[.slice (some ⟨w.heap.size, 0, none⟩) n n, .int .u64 0] 76)) := by
  have hh := heap_alloc_new w (.cells (madeCells nodeZ (n * 16)) 80)
  have hh2 : ((w.alloc (.cells (madeCells nodeZ (n * 16)) 80)).alloc (.cells #[.slice (some ⟨w.heap.size, 0, none⟩) n n, .int .u64 0] 76)).heap[w.heap.size]? = _ := (Below.heap_alloc _ _ _ (by rw [size_alloc]; omega)).trans hh
  have hz : nodeZ.size = 16 := rfl
  refine ⟨((Below.refl _ _).alloc (Nat.le_refl _) _).alloc (by rw [size_alloc]; omega) _, ?_, fun j hj => ?_, fun i hi => by omega, fun i _ hi => ?_, fun i hi => by omega, by rw [size_alloc, size_alloc]⟩
  · have := heap_alloc_new (w.alloc (.cells (madeCells nodeZ (n * 16)) 80)) (.cells #[.slice (some ⟨w.heap.size, 0, none⟩) n n, .int .u64 0] 76)
    rw [size_alloc] at this
    exact this
  · refine ⟨?_, Lib.frozen_of_heap hh2 _⟩
    rw [Lib.cell_of_heap hh2, made_at _ _ _ (by omega) (by rw [hz]; omega), hz]
    have : j % 16 < nodeZ.size := by rw [hz]; omega
    simp [this]
  · intro j v hj
    have hj16 : j < 16 := (List.getElem?_eq_some_iff.1 hj).1
    rw [Lib.cell_of_heap hh2, made_at _ _ _ (by omega) (by rw [hz]; omega), hz, show (i * 16 + j) % 16 = j by omega]
    simpa using hj
theorem NewS.drew {w : World} {n k : Nat} {x : World} (h : NewS w n k x) : NewS w n k x.drew := ⟨below_drawn h.bel 1, h.hb, fun j hj => h.ht j hj, fun i hi => h.hn i hi, fun i h1 h2 => h.hz i h1 h2, h.hu, h.sz⟩
/-- One unit more. -/
theorem NewS.step {w : World} {n k : Nat} {x : World} (h : NewS w n k x) (hk : k < n) : NewS w n (k + 1) ((x.alloc (.cells #[.int .i64 0, .int .i64 0, .int .i64 0] 105)).setCell ⟨w.heap.size, k * 16 + 1, none⟩ (.pointer (some ⟨x.heap.size, 0, none⟩))) := by
  have s := h.sz
  have b1 : Below x.heap.size x (x.alloc (.cells #[.int .i64 0, .int .i64 0, .int .i64 0] 105)) := (Below.refl _ _).alloc (Nat.le_refl _) _
  have B1 := h.bel.trans (b1.mono h.bel.size)
  have kb : ∀ j, j < x.heap.size → j ≠ w.heap.size → ((x.alloc (.cells #[.int .i64 0, .int .i64 0, .int .i64 0] 105)).setCell ⟨w.heap.size, k * 16 + 1, none⟩ (.pointer (some ⟨x.heap.size, 0, none⟩))).heap[j]? = x.heap[j]? := fun j hj hne => (Below.heap_setCell _ _ _ _ hne).trans (b1.block j hj)
  have out : ∀ q, q ≠ k * 16 + 1 → ((x.alloc (.cells #[.int .i64 0, .int .i64 0, .int .i64 0] 105)).setCell ⟨w.heap.size, k * 16 + 1, none⟩ (.pointer (some ⟨x.heap.size, 0, none⟩))).cell? ⟨w.heap.size, q, none⟩ = x.cell? ⟨w.heap.size, q, none⟩ := fun q hq => (World.cell?_setCell_other _ _ _ _ (by intro e; injection e with _ e2; exact hq e2.symm)).trans (b1.cell (p := ⟨w.heap.size, q, none⟩) (by show w.heap.size < x.heap.size; omega))
  have ht1 := there_kept h.ht (b1.block w.heap.size (by omega))
  refine ⟨B1.setCell (p := ⟨w.heap.size, k * 16 + 1, none⟩) (Nat.le_refl _) _, (kb _ (by omega) (by omega)).trans h.hb, there_setCell ht1 _ _, fun i hi => ?_, fun i h1 h2 => ?_, fun i hi => ?_, by simp [World.setCell]; omega⟩
  · by_cases e : i = k
    · subst e
      have hzz := h.hz i (Nat.le_refl _) hk
      intro j v hj
      by_cases e1 : j = 1
      · subst e1
        cases hj
        have c1 : x.cell? ⟨w.heap.size, i * 16 + 1, none⟩ = _ := hzz 1 (.pointer none) rfl
        have := World.cell?_setCell_same (x.alloc (.cells #[.int .i64 0, .int .i64 0, .int .i64 0] 105)) ⟨w.heap.size, i * 16 + 1, none⟩ (.pointer (some ⟨x.heap.size, 0, none⟩)) ((b1.cell (p := ⟨w.heap.size, i * 16 + 1, none⟩) (by show w.heap.size < x.heap.size; omega)).trans c1)
        rw [this, s]
      · rw [out _ (by omega)]
        refine hzz j v ?_
        have hj16 : j < 16 := by have := (List.getElem?_eq_some_iff.1 hj).1; rw [Nd.len] at this; exact this
        rw [← hj]
        match j, hj16, e1 with
        | 0, _, _ => rfl
        | 2, _, _ => rfl
        | 3, _, _ => rfl
        | 4, _, _ => rfl
        | 5, _, _ => rfl
        | 6, _, _ => rfl
        | 7, _, _ => rfl
        | 8, _, _ => rfl
        | 9, _, _ => rfl
        | 10, _, _ => rfl
        | 11, _, _ => rfl
        | 12, _, _ => rfl
        | 13, _, _ => rfl
        | 14, _, _ => rfl
        | 15, _, _ => rfl
    · intro j v hj
      have hj16 : j < 16 := by have := (List.getElem?_eq_some_iff.1 hj).1; rw [Nd.len] at this; exact this
      rw [out _ (by omega)]
      exact h.hn i (by omega) j v hj
  · intro j v hj
    have hj16 : j < 16 := (List.getElem?_eq_some_iff.1 hj).1
    rw [out _ (by omega)]
    exact h.hz i (by omega) h2 j v hj
  · by_cases e : i = k
    · subst e
      unfold Ua
      rw [Below.heap_setCell _ _ _ _ (by show w.heap.size + 2 + i ≠ w.heap.size; omega), ← s]
      exact heap_alloc_new x _
    · exact (kb _ (by omega) (by omega)).trans (h.hu i (by omega))
def newR (w : World) (n : Nat) (k : Nat) : Ro := if k = w.heap.size then .nodes else if k = w.heap.size + 1 then .bus else if w.heap.size + 2 ≤ k ∧ k < w.heap.size + 2 + n then .unit (k - (w.heap.size + 2)) else .no
theorem NewS.done {w : World} {n : Nat} {x : World} (h : NewS w n n x) : BusAt (w.heap.size + 1) w.heap.size (newR w n) 0 (List.replicate n Nd.nul) x := by
  have s := h.sz
  refine ⟨fun i => w.heap.size + 2 + i, fun _ => nilV, ?_⟩
  constructor
  · rw [List.length_replicate]; exact h.hb
  · intro i hi; rw [List.length_replicate] at hi; rw [List.getElem_replicate]; exact h.hn i hi
  · rw [List.length_replicate]; exact h.ht
  · intro i hi; rw [List.length_replicate] at hi; rw [List.getElem_replicate]; exact h.hu i hi
  · intro i hi; rw [List.getElem_replicate]; exact World.ownsRow_nil _ _ _ _
  · unfold newR; rw [if_neg (by omega), if_pos rfl]
  · unfold newR; rw [if_pos rfl]
  · intro i hi
    rw [List.length_replicate] at hi
    unfold newR
    rw [if_neg (by omega), if_neg (by omega), if_pos (by omega)]
    congr 1; omega
  · intro i hi k hk; cases hk
  · intro k hk
    unfold newR
    rw [if_neg (by omega), if_neg (by omega), if_neg (by omega)]
theorem newR_low {w : World} {n k : Nat} (h : k < w.heap.size) : newR w n k = .no := by
  unfold newR
  rw [if_neg (by omega), if_neg (by omega), if_neg (by omega)]
set_option maxHeartbeats 1000000 in
theorem new_bus (w : World) (n : Nat) (h1 : 1 ≤ n) (h2 : n ≤ 127) : Calls Try.prog 12 #[.int .i64 n] w fun e w' => e = .returned (.tuple #[.pointer (some ⟨w.heap.size + 1, 0, none⟩), .int .i64 0]) ∧ BusAt (w.heap.size + 1) w.heap.size (newR w n) 0 (List.replicate n Nd.nul) w' ∧ Below w.heap.size w w' := by
  have hmk := run_make_nodes n h2
  have H0 : Hid _ := NewS.start w n
  have d1 : decide ((n : Int) < 1) = false := by simp; omega
  have d2 : decide ((127 : Int) < (n : Int)) = false := by simp; omega
  have HD : Hid (∀ x, NewS w n n x → BusAt (w.heap.size + 1) w.heap.size (newR w n) 0 (List.replicate n Nd.nul) x ∧ Below w.heap.size w x) := fun x hx => ⟨hx.done, hx.bel⟩
  go_enter Try.func12, Try.ntmps12
  go_wp2
  go_loopw [21] (fun i x => ∃ k : Nat, k ≤ n ∧ i = .int .i64 k ∧ NewS w n k x) (fun i _ => n - (intOf i).toNat)
  case atStart => exact ⟨0, Nat.zero_le _, rfl, H0.out⟩
  case round =>
    clear H0 hmk d1 d2
    obtain ⟨k, hk, rfl, S1⟩ := hrel
    by_cases hkl : k < n
    · have c0 : wr.cell? ⟨w.heap.size + 1, 0, none⟩ = some (.slice (some ⟨w.heap.size, 0, none⟩) n n) := Lib.cell_of_heap S1.hb 0
      have c1 : wr.cell? ⟨w.heap.size, k * 16 + 1, none⟩ = some (.pointer none) := S1.hz k (Nat.le_refl _) hkl 1 _ rfl
      have f1 : wr.frozen? ⟨w.heap.size, k * 16 + 1, none⟩ = false := by
        have := (S1.ht (k * 16 + 1) (by omega)).2
        rw [Nat.zero_add] at this; exact this
      have s := S1.sz
      have e1 : w.heap.size + 1 ≠ wr.heap.size := by omega
      have e2 : w.heap.size ≠ wr.heap.size := by omega
      have l1 : w.heap.size + 1 < wr.heap.size := by omega
      have l2 : w.heap.size < wr.heap.size := by omega
      have HS0 := (S1.step hkl).drew
      rw [World.setCell_alloc_past _ _ _ _ (by omega)] at HS0
      have HS : Hid _ := HS0
      clear HS0
      have hN := new_any wr.drew
      clear S1 s
      go_wp2_with fail
      go_region_with (go_at_call 28; refine (new_any _).mono ?_; rintro e w4 ⟨rfl, rfl⟩)
      all_goals
        go_wp2_with fail
        go_roundw
        case rel => exact ⟨k + 1, by omega, by go_num, HS.out⟩
        case measure => simp [intOf]; omega
    · obtain rfl : k = n := by omega
      go_wp2
      go_ret2
      exact ⟨rfl, HD.out _ S1⟩
end Go.Proofs.Ytlghjfomliappaa
namespace Go.Proofs.Ytlghjfomliappaa
open Go.RowKit Go.Proofs.Bits
set_option linter.unusedVariables false
set_option maxRecDepth 1000000

def fr5 : Fr := ⟨5, false, false, 1, [0, 0, 0, 0, 0, 0, 0, 0], by decide, by decide, rfl⟩
def lv2 : List Nd := powL (powL (List.replicate 2 Nd.nul) 0 true) 1 true
def lv3 : List Nd := subL lv2 0 fr5
def lv4 : List Nd := stepL lv3 []
theorem lv_sub : subE lv2 0 fr5 = 0 := by decide +kernel
theorem lv3_eq : lv3 = [⟨true, Un.nul, fr5.plain, true, []⟩, ⟨true, Un.nul, Fr.nul, false, []⟩] := by
  unfold lv3 subL
  rw [if_pos lv_sub]
  rfl
theorem lv_E : stepE lv3 [] = 0 := by decide +kernel
theorem lv_win : (stepR lv3 []).win = 0 ∧ (stepR lv3 []).sent = true ∧ (stepR lv3 []).got = [false, true] := by
  refine ⟨?_, ?_, ?_⟩ <;> decide +kernel
theorem lv3_len : lv3.length = 2 := by rw [lv3_eq]; rfl
theorem lv3_ok : NdsOk lv3 := by
  rw [lv3_eq]
  intro i hi
  match i, hi with
  | 0, _ => exact ⟨Un.ok_nul, by simp⟩
  | 1, _ => exact ⟨Un.ok_nul, by simp⟩
theorem lv4_len : lv4.length = 2 := by decide +kernel
theorem lv4_got : (ndAt lv4 1).got.map Fr.id = [5] := by decide +kernel
theorem powL_len (l : List Nd) (k : Nat) (on : Bool) : (powL l k on).length = l.length := by unfold powL; split <;> simp
theorem nd_get {l : List Nd} {k : Nat} (h : k < l.length) : l[k] = ndAt l k := by unfold ndAt; simp [h]
theorem flips_nil (w : World) : Flips w (.slice none 0 0) [] := ⟨none, 0, rfl, fun _ => ⟨rfl, rfl⟩, fun k hk => by simp at hk⟩
theorem wide_head {w : World} {v : Value} {g : Fr} (h : Frames w v [g]) : ∃ b off cap, v = .slice (some ⟨b, off, none⟩) 1 cap ∧ w.cell? ⟨b, off, none⟩ = some (.int .u32 g.id) ∧ w.rangeAt b off g.cells := by
  obtain ⟨ao, cap, rfl, _, hc⟩ := h
  obtain ⟨b, off, rfl, _, hR⟩ := hc 0 (by simp)
  have hR' : w.rangeAt b off g.cells := by simpa using hR
  exact ⟨b, off, cap, rfl, hR' 0 _ rfl, hR'⟩
set_option maxHeartbeats 4000000 in
theorem lives4_any (w : World) : Calls Try.prog 11 #[] w fun e w' => e = .returned (.bool true) ∧ Below w.heap.size w w' := by
  have hN := new_bus w 2 (by omega) (by omega)
  have HLow : Hid (∀ k, k < w.heap.size → newR w 2 k = .no) := fun k hk => newR_low hk
  have hY : Hid (Value.agg #[.int .u32 5, .bool false, .bool false, .int .i64 1, .int .u8 0, .int .u8 0, .int .u8 0, .int .u8 0, .int .u8 0, .int .u8 0, .int .u8 0, .int .u8 0] = fr5.val) := rfl
  generalize newR w 2 = ρ at *
  generalize hg : w.heap.size = g at *
  go_enter Try.func11, Try.ntmps11
  go_wp2_with fail
  refine Calls.mono hN ?_
  rintro e w1 ⟨rfl, h1, B1⟩
  have hP0 : Calls Try.prog 13 #[.pointer (some ⟨g + 1, 0, none⟩), .int .i64 0, .bool true] w1 _ := Power_any h1 (by simp) (k := 0) true (by simp)
  clear hN h1
  go_wp2_with fail
  refine hP0.mono ?_
  rintro e w2 ⟨rfl, h2, X2⟩
  have hP1 : Calls Try.prog 13 #[.pointer (some ⟨g + 1, 0, none⟩), .int .i64 1, .bool true] w2 _ := Power_any h2 (by rw [powL_len]; simp) (k := 1) true (by rw [powL_len]; simp)
  clear hP0 h2
  go_wp2_with fail
  refine hP1.mono ?_
  rintro e w3 ⟨rfl, h3, X3⟩
  have h3' : BusAt (g + 1) g ρ 0 lv2 w3 := h3
  have hS : Calls Try.prog 14 #[.pointer (some ⟨g + 1, 0, none⟩), .int .i64 0, fr5.val] w3 _ := Submit_any h3' (by decide) (k := 0) (by decide) fr5
  rw [lv_sub, ← hY.out] at hS
  have X13 := X2.trans X3
  clear hP1 h3 h3' X2 X3
  go_wp2_with fail
  refine hS.mono ?_
  rintro e w4 ⟨rfl, h4, X4⟩
  have h4' : BusAt (g + 1) g ρ 0 lv3 w4 := h4
  have hSt := Step_any h4' (by rw [lv3_len]; omega) lv3_ok (by omega) (.slice none 0 0) [] (by simp [maxLen]) (flips_nil w4)
  have X14 := X13.trans X4
  clear hS h4 h4' X13 X4 hY
  go_wp2_with fail
  refine hSt.mono ?_
  rintro e w5 ⟨ρ5, h5, X5, _, q5⟩
  obtain ⟨ge, gg, rfl, E5, G5, _, _, z1, z2, le, lg⟩ := q5 lv_E
  have h5' : BusAt (g + 1) g ρ5 _ lv4 w5 := h5
  obtain ⟨v1, v2, v3⟩ := lv_win
  rw [lv3_len] at *
  rw [v3] at G5
  have gn := Oa.new w5 rnZ nilV nilV
  have g3 := gn.row (stepR lv3 []) (sl ge 2) (sl gg 2)
  have bb : Below w5.heap.size w5 ((w5.alloc (.cells (rnZ.out nilV nilV) 27)).setRow w5.heap.size ((stepR lv3 []).out (sl ge 2) (sl gg 2))) := below_row ((Below.refl _ w5).alloc (Nat.le_refl _) _) (Nat.le_refl _) (by rw [size_alloc]; omega) _
  have h6 := h5'.below bb
  have G6 := G5.below bb
  have hF : Calls Try.prog 17 #[.pointer (some ⟨g + 1, 0, none⟩), .int .i64 1] _ _ := Fetch_any h6 (by rw [lv4_len]; omega) (k := 1) (by rw [lv4_len]; omega)
  have X16 := (X14.trans X5).trans (Ext.below (ρ := ρ5) bb)
  have z5 : ρ5 w5.heap.size = .no := by obtain ⟨G, V, hh⟩ := h5'; exact hh.rz _ (Nat.le_refl _)
  generalize stepR lv3 [] = R at *
  clear hSt h5 h5' q5 X14 X5 E5 G5 bb le lg
  go_wp2_with (refine gn.sd R (sl ge 2) (sl gg 2) rfl rfl rfl _ _ rfl rfl rfl ?_)
  refine hF.mono ?_
  rintro e w7 ⟨v, rfl, F7, h7, X7⟩
  have X17 := X16.trans X7
  have O7 := g3.kept (X7.keep _ g3.lt z5)
  have G7 := G6.kept (X7.keep _ G6.lt z2)
  have hgot : (lv4[1]'(by rw [lv4_len]; omega)).got.map Fr.id = [5] := by rw [nd_get]; exact lv4_got
  obtain ⟨fr, hfr, hid⟩ : ∃ fr : Fr, (lv4[1]'(by rw [lv4_len]; omega)).got = [fr] ∧ fr.id = 5 := by
    match hq : (lv4[1]'(by rw [lv4_len]; omega)).got, hgot with
    | [fr], hgot => exact ⟨fr, rfl, by simpa using hgot⟩
    | [], hgot => simp at hgot
    | a :: b :: r, hgot => simp at hgot
  rw [hfr] at F7
  obtain ⟨b9, off9, cap9, rfl, cid, _⟩ := wide_head F7
  rw [hid] at cid
  obtain ⟨d0, d1, d2, d3', d4⟩ := O7.cells
  rw [v1] at d0
  rw [v2] at d2
  unfold sl at d4
  have cg := G7.cell 1 (by simp)
  have HB : Hid (Below g w w7) := B1.trans ((X17.toBelow (B := g) (by have := B1.size; omega) HLow.out))
  clear hF h6 h7 X7 X16 X17 gn g3 G6 F7 O7 G7 hgot
  go_wp2
  go_ret
  exact ⟨rfl, HB.out⟩
end Go.Proofs.Ytlghjfomliappaa
namespace Go.Proofs.Ytlghjfomliappaa
open Go.RowKit Go.Proofs.Bits
set_option linter.unusedVariables false
set_option maxRecDepth 1000000

def DS : Dec Se := ⟨Se.cells, 14, by decide, Se.len, fun s u hu => by
  have := s.one
  rw [Array.all_eq_true_iff_forall_mem] at this
  exact this u (by simpa [Se.arr] using hu)⟩
def DL : Dec Fl := ⟨Fl.cells, 2, by decide, fun _ => rfl, fun f u hu => by simp [Fl.cells] at hu; rcases hu with rfl | rfl <;> rfl⟩
theorem infoFlZ : (Try.prog.info? 57).map (fun i => (i.zero, i.size, i.bytes)) = some (some (.agg #[.int .i64 0, .int .i64 0]), 2, 16) := by kernel_rfl
theorem rev_take (l : List Se) (k : Nat) (hk : k < l.length) : l.reverse.take (k + 1) = l.reverse.take k ++ [l[l.length - 1 - k]] := by
  rw [List.take_succ_eq_append_getElem (by simpa using hk), List.getElem_reverse]
set_option maxHeartbeats 4000000 in
theorem turned_any (v vf : Value) (l : List Se) (fl : List Fl) (w : World) (hl : l.length ≤ 127) (hfl : fl.length ≤ 65536) (hok : ∀ f ∈ fl, 0 ≤ f.nd ∧ f.nd < l.length) (hS : Senders w v l) (hF : Flips w vf fl) :
    Calls Try.prog 20 #[v, vf] w fun e w' => ∃ va vb, e = .returned (.tuple #[va, vb]) ∧ Senders w' va l.reverse ∧ Flips w' vb (fl.map (flipT l.length)) ∧ Below w.heap.size w w' := by
  have HC : Hid (∀ (x : World), Below w.heap.size w x → Senders x v l) := fun x hx => hS.below hx
  have HD : Hid (∀ (x : World), Below w.heap.size w x → Flips x vf fl) := fun x hx => hF.below hx
  have HOK : Hid _ := hok
  have o1 := own_empty_e w 40 14
  have o2 := own_empty_e (w.alloc (.cells #[] 40)) 57 2
  rw [size_alloc] at o2
  have B1 : Below w.heap.size w ((w.alloc (.cells #[] 40)).alloc (.cells #[] 57)) := ((Below.refl _ w).alloc (Nat.le_refl _) _).alloc (by rw [size_alloc]; omega) _
  have p1 : ((w.alloc (.cells #[] 40)).alloc (.cells #[] 57)).ownsRow w.heap.size 40 14 (.slice (some ⟨w.heap.size, 0, none⟩) 0 0) (l.reverse.take 0).length (flatW DS (l.reverse.take 0)) := ownsRow_alloc o1 _
  have p2 : ((w.alloc (.cells #[] 40)).alloc (.cells #[] 57)).ownsRow w.heap.size 57 2 (.slice (some ⟨w.heap.size + 1, 0, none⟩) 0 0) 0 [] := by
    obtain ⟨q1, q2⟩ := o2
    refine ⟨q1, ?_⟩
    rcases q2 with q2 | ⟨g, cap, cur, e, hg, r⟩
    · exact .inl q2
    · exact .inr ⟨g, cap, cur, e, by omega, r⟩
  obtain ⟨ao, cap, hv, _⟩ := hS
  obtain ⟨ao2, cap2, hv2, _⟩ := hF
  subst hv hv2
  clear hok o1 o2
  go_enter Try.func20, Try.ntmps20
  go_wp2
  generalize hW : ((w.alloc (.cells #[] 40)).alloc (.cells #[] 57)) = W at *
  go_loopw [6, 8] (fun a i x => ∃ k : Nat, k ≤ l.length ∧ i = .int .i64 ((l.length : Int) - 1 - k) ∧ x.ownsRow w.heap.size 40 14 a (l.reverse.take k).length (flatW DS (l.reverse.take k)) ∧ x.ownsRow w.heap.size 57 2 (.slice (some ⟨w.heap.size + 1, 0, none⟩) 0 0) 0 [] ∧ Below w.heap.size w x) (fun _ i _ => (intOf i + 1).toNat)
  case atStart => exact ⟨0, Nat.zero_le _, by simp, p1, p2, B1⟩
  case round =>
    clear p1 p2 B1 hW W
    obtain ⟨k, hk, rfl, P1, Q1, B1⟩ := hrel
    have s1 := B1.size
    have hlk : (l.reverse.take k).length = k := by simp; omega
    by_cases hkl : k < l.length
    · obtain ⟨ao', cap', hv', _, hc⟩ := HC.out wr B1
      obtain ⟨b, off, hao, hb, hR⟩ := hc (l.length - 1 - k) (by omega)
      have hao2 : ao = some ⟨b, off, none⟩ := by injection hv' with e1; rw [e1]; exact hao
      subst hao2
      have HN : Hid (l.reverse.take (k + 1) = l.reverse.take k ++ [l[l.length - 1 - k]]) := rev_take l k hkl
      generalize l[l.length - 1 - k] = s at *
      obtain ⟨j, hj⟩ : ∃ j : Nat, (l.length : Int) - 1 - k = j := ⟨l.length - 1 - k, by omega⟩
      have hj2 : l.length - 1 - k = j := by omega
      rw [hj2] at hR
      rw [hj]
      have hjl : j < l.length := by omega
      have HJ : Hid ((l.length : Int) - 1 - ((k + 1 : Nat) : Int) = (j : Int) - 1) := by show _ = _; omega
      generalize hxs : l.reverse.take k = xs at *
      clear hj2 hc HC
      go_wp2_with (first | refine se_ld hR rfl _ rfl rfl ?_ | refine one_bs DS s 22 40 _ _ rfl _ rfl rfl Try.underlying22 infoSeZ (by decide) ?_ | (at_builtin; refine append_wide DS rfl _ _ 22 40 _ _ Try.underlying22 infoSeZ rfl rfl w.heap.size _ xs rfl (by exact ownsRow_alloc P1 _) _ [s] rfl (by exact wide_new DS wr s 40) (by unfold maxLen; simp; omega) (by simp; omega) (by rw [size_alloc]; omega) ?_))
      intro v5 w5 F5 G5
      have Q5 := own_grown (ownsRow_alloc Q1 _) (ownsRow_alloc P1 _) (by decide) G5
      have B5 := below_grown (B1.alloc s1 _) (ownsRow_alloc P1 _) (by rw [size_alloc]; omega) G5
      have F6 : Hid (w5.ownsRow w.heap.size 40 14 v5 (l.reverse.take (k + 1)).length (flatW DS (l.reverse.take (k + 1)))) := by
        show World.ownsRow _ _ _ _ _ _ _
        rw [HN.out]
        have e : (xs ++ [s]).length = k + 1 := by simp [hlk]
        rw [e]
        exact F5
      clear F5 G5 P1 Q1 B1 hR
      go_wp2
      go_roundw
      case rel => exact ⟨k + 1, by omega, by rw [HJ.out], F6.out, Q5, B5⟩
      case measure => simp [intOf]
    · obtain rfl : k = l.length := by omega
      have e0 : (l.length : Int) - 1 - l.length = -1 := by omega
      rw [e0]
      rw [List.take_of_length_le (by simp)] at P1
      obtain ⟨va, hva⟩ : ∃ va, va = u6 := ⟨_, rfl⟩
      obtain ⟨W1, hW1⟩ : ∃ W1, W1 = wr := ⟨_, rfl⟩
      rw [← hva] at P1
      subst hva hW1
      have HE : Hid (fl.map (flipT l.length) = (fl.take fl.length).map (flipT l.length)) := by show _ = _; rw [List.take_length]
      have P0 : Hid (True ∧ W1.ownsRow w.heap.size 40 14 va l.reverse.length (flatW DS l.reverse)) := ⟨trivial, P1⟩
      have Q0 : W1.ownsRow w.heap.size 57 2 (.slice (some ⟨w.heap.size + 1, 0, none⟩) 0 0) ((fl.take 0).map (flipT l.length)).length (flatW DL ((fl.take 0).map (flipT l.length))) := Q1
      clear P1 Q1 HC
      go_wp2
      go_loopw [7, 9] (fun c i x => ∃ k : Nat, k ≤ fl.length ∧ i = .int .i64 k ∧ x.ownsRow w.heap.size 57 2 c ((fl.take k).map (flipT l.length)).length (flatW DL ((fl.take k).map (flipT l.length))) ∧ x.ownsRow w.heap.size 40 14 va l.reverse.length (flatW DS l.reverse) ∧ Below w.heap.size w x) (fun _ i _ => fl.length - (intOf i).toNat)
      case atStart => exact ⟨0, Nat.zero_le _, rfl, Q0, P0.out.2, B1⟩
      case round =>
        clear P0 Q0 B1
        obtain ⟨k, hk, rfl, Q1, P1, B1⟩ := hrel
        have s1 := B1.size
        have hlk : ((fl.take k).map (flipT l.length)).length = k := by simp; omega
        by_cases hkl : k < fl.length
        · obtain ⟨ao', cap', hv', _, hc⟩ := HD.out wr B1
          obtain ⟨b, off, hao, hb, hR⟩ := hc k hkl
          have hao2 : ao2 = some ⟨b, off, none⟩ := by injection hv' with e1; rw [e1]; exact hao
          subst hao2
          obtain ⟨h1, h2⟩ := HOK.out _ (List.getElem_mem hkl)
          have HN : Hid ((fl.take (k + 1)).map (flipT l.length) = (fl.take k).map (flipT l.length) ++ [flipT l.length fl[k]]) := by
            show _ = _; rw [List.take_succ_eq_append_getElem hkl, List.map_append]; rfl
          have hT1 := flipT_nd ⟨h1, h2, hl⟩
          have hT2 := flipT_bit l.length fl[k]
          have HCl : Hid ((flipT l.length fl[k]).cells = [.int .i64 ((l.length : Int) - 1 - fl[k].nd), .int .i64 fl[k].bit]) := by
            show _ = _; unfold Fl.cells; rw [hT1, hT2]
          have c0 : wr.cell? ⟨b, off + k * 2, none⟩ = some (.int .i64 fl[k].nd) := hR 0 _ rfl
          have c1 : wr.cell? ⟨b, off + k * 2 + 1, none⟩ = some (.int .i64 fl[k].bit) := hR 1 _ rfl
          generalize flipT l.length fl[k] = f' at *
          generalize fl[k] = f at *
          generalize hxs : (fl.take k).map (flipT l.length) = xs at *
          obtain ⟨i0, hi0, hz0, hz1, hz2⟩ := info_parts infoFlZ
          have lb := World.block_lt_of_cell? wr _ c0
          have HWr : Hid (IntKind.i64.wrap (IntKind.i64.wrap ((l.length : Int) - 1) - f.nd) = (l.length : Int) - 1 - f.nd) := by
            show _ = _
            rw [IntKind.wrap_i64, IntKind.wrap_i64]; omega
          clear hc hT1 hT2
          go_wp2_with fail
          go_region_law
            ((refine step_append_lies _ (by rfl) _ _ _ (by rfl) w.heap.size 57 i0 _ 2 16 Try.underlying23 hi0 hz0 hz1 hz2 rfl (by omega) _ xs.length (flatW DL xs) (by rfl) ((ownsRow_alloc Q1 _).drew)
                  ⟨wr.heap.size, 0, none⟩ 1 1 [.int .i64 (IntKind.i64.wrap (IntKind.i64.wrap ((l.length : Int) - 1) - f.nd)), .int .i64 f.bit] (by rfl) (by rfl) (World.news_of_block (cs := #[.int .i64 (IntKind.i64.wrap (IntKind.i64.wrap ((l.length : Int) - 1) - f.nd)), .int .i64 f.bit]) (t := 57) (fr := (0, 0)) (heap_alloc_new wr _)) (by simp [Value.oneCell'])
                  (by omega) (by unfold maxLen; omega) (by omega) (by simp; omega) (wr.heap.size + 1) (by simp) ?_; intro gg cap w1 hown1 hgrow hat hlt))
          all_goals
            have P5 := own_grown ((ownsRow_alloc P1 _).drew) ((ownsRow_alloc Q1 _).drew) (by decide) hgrow
            have B5 := below_grown (below_drawn (B1.alloc s1 _) 1) ((ownsRow_alloc Q1 _).drew) (by simp; omega) hgrow
            have Q6 : Hid (w1.ownsRow w.heap.size 57 2 (.slice (some ⟨gg, 0, none⟩) (xs.length + 1) cap) ((fl.take (k + 1)).map (flipT l.length)).length (flatW DL ((fl.take (k + 1)).map (flipT l.length)))) := by
              show World.ownsRow _ _ _ _ _ _ _
              have e1 : flatW DL (xs ++ [f']) = flatW DL xs ++ [.int .i64 ((l.length : Int) - 1 - f.nd), .int .i64 f.bit] := by
                rw [flatW_append, ← HCl.out]; simp [flatW, DL]
              rw [HN.out, e1, List.length_append, List.length_singleton, ← HWr.out]
              exact hown1
            clear hown1 hgrow hat
            rw [hlk] at *
            go_wp2
            go_roundw
            case rel => exact ⟨k + 1, by omega, by go_num, Q6.out, P5, B5⟩
            case measure => simp [intOf]; omega
        · obtain rfl : k = fl.length := by omega
          rw [← HE.out] at Q1
          have R1 : Hid (Flips wr u7 (fl.map (flipT l.length))) := wide_of_own DL Q1
          have R2 : Hid (Senders wr va l.reverse) := wide_of_own DS P1
          clear Q1 P1
          go_wp2
          go_ret2
          exact ⟨_, _, rfl, R2.out, R1.out, B1⟩
end Go.Proofs.Ytlghjfomliappaa
namespace Go.Proofs.Ytlghjfomliappaa
open Go.RowKit Go.Proofs.Bits
set_option linter.unusedVariables false
set_option maxRecDepth 1000000

theorem list_rev_get (l : List Bool) (i : Nat) (h : i < l.length) : l.reverse[l.length - 1 - i]'(by simp; omega) = l[i] := by
  rw [List.getElem_reverse]
  congr 1
  omega
set_option maxHeartbeats 2000000 in
theorem bturned_walk (v vf : Value) (l : List Se) (fl : List Fl) (w : World) (hl : l.length * 32 ≤ 140737488351232) (hfl : fl.length * 16 ≤ 140737488351232) (hS : Senders w v l) (hF : Flips w vf fl) :
    Calls Try.prog 6 #[v, vf] w fun e w' => e = .returned (.bool true) ∧ Below w.heap.size w w' := by
  have o1 := own_empty_e w 40 14
  have hS1 := hS.below ((Below.refl _ w).alloc (Nat.le_refl _) (.cells #[] 40))
  go_enter Try.func6, Try.ntmps6
  go_wp2_with (at_builtin; refine append_wide DS rfl _ _ 22 40 _ _ Try.underlying22 infoSeZ rfl rfl w.heap.size _ [] rfl (by exact o1) _ l rfl (by exact hS1) (by unfold maxLen; simp; omega) (by simp; omega) (by rw [size_alloc]; omega) ?_)
  intro v1 w1 P1 G1
  have B1 : Below w.heap.size w w1 := ((Below.refl _ w).alloc (Nat.le_refl _) (.cells #[] 40)).grown G1 (by simp) (by simp [Value.ownBlock])
  have hF1 := hF.below B1
  have o2 := own_empty_e w1 57 2
  have hF2 := hF1.below ((Below.refl _ w1).alloc (Nat.le_refl _) (.cells #[] 57))
  have P1' : w1.ownsRow w.heap.size 40 14 v1 l.length (flatW DS l) := P1
  clear P1 G1 o1 hS1
  go_wp2_with (at_builtin; refine append_wide DL rfl _ _ 23 57 _ _ Try.underlying23 infoFlZ rfl rfl w1.heap.size _ [] rfl (by exact o2) _ fl rfl (by exact hF2) (by unfold maxLen; simp; omega) (by simp; omega) (by rw [size_alloc]; omega) ?_)
  intro v2 w2 P2 G2
  have b2 : Below w1.heap.size w1 w2 := ((Below.refl _ w1).alloc (Nat.le_refl _) (.cells #[] 57)).grown G2 (by simp) (by simp [Value.ownBlock])
  have B2 := B1.trans (b2.mono B1.size)
  have S2 : Senders w2 v1 l := Senders.below (wide_of_own DS P1') b2
  have F2 : Flips w2 v2 fl := wide_of_own DL P2
  have hR := Round_any v1 v2 l fl w2 (by unfold maxLen; omega) (by unfold maxLen; omega) S2 F2
  clear P1' P2 G2 o2 hF1 hF2 b2 B1 S2 F2
  go_wp2_with fail
  refine hR.mono ?_
  rintro e w3 ⟨q1, q2, b3⟩
  have B3 := B2.trans (b3.mono B2.size)
  have gn := Oa.new w3 rnZ nilV nilV
  clear hR
  by_cases hz : rndE l fl = 0
  · obtain ⟨ge, gg, rfl, E3, G3, _, _, d3, le, lg⟩ := q2 hz
    obtain ⟨hz2, t1, t2, t3, t4⟩ := turned_rnd hz
    obtain ⟨k1, k2, k3⟩ := look_ok (rndE_zero.1 hz).1
    have g3 := gn.row (rnd l fl) (sl ge l.length) (sl gg l.length)
    have bb : Below w3.heap.size w3 ((w3.alloc (.cells (rnZ.out nilV nilV) 27)).setRow w3.heap.size ((rnd l fl).out (sl ge l.length) (sl gg l.length))) := below_row ((Below.refl _ w3).alloc (Nat.le_refl _) _) (Nat.le_refl _) (by rw [size_alloc]; omega) _
    have B4 := B3.trans (bb.mono B3.size)
    have hT := turned_any v vf l fl _ k1 k2 (fun f hf => ⟨(k3 f hf).1, (k3 f hf).2.1⟩) (hS.below B4) (hF.below B4)
    have G4 := G3.below bb
    have hv1 : ∃ ao cap, v = .slice ao l.length cap := by obtain ⟨ao, cap, rfl, _⟩ := hS; exact ⟨_, _, rfl⟩
    generalize hR1 : rnd l fl = R at *
    generalize hR2 : rnd l.reverse (fl.map (flipT l.length)) = R2 at *
    clear q1 q2 E3 G3 bb hS hF B3 b3
    go_wp2_with (refine gn.sd R (sl ge l.length) (sl gg l.length) rfl rfl rfl _ _ rfl rfl rfl ?_)
    refine hT.mono ?_
    rintro e w5 ⟨va, vb, rfl, S5, F5, b5⟩
    have B5 := B4.trans (b5.mono B4.size)
    have O5 := g3.below b5
    have G5 := G4.below b5
    have hRb := Round_any va vb l.reverse (fl.map (flipT l.length)) w5 (by unfold maxLen; simp; omega) (by unfold maxLen; simp; omega) S5 F5
    clear hT S5 F5 b5 B4 G4 g3 gn
    go_wp2_with fail
    refine hRb.mono ?_
    rintro e w6 ⟨q6a, q6, b6⟩
    clear q6a
    obtain ⟨ge2, gg2, rfl, E6, G6b, _, _, _, le2, lg2⟩ := q6 hz2
    rw [hR2] at *
    rw [List.length_reverse] at *
    have B6 := B5.trans (b6.mono B5.size)
    have O6 := O5.below b6
    have G6 := G5.below b6
    have gn := Oa.new w6 rnZ nilV nilV
    have g3 := gn.row R2 (sl ge2 l.length) (sl gg2 l.length)
    have bb : Below w6.heap.size w6 ((w6.alloc (.cells (rnZ.out nilV nilV) 27)).setRow w6.heap.size (R2.out (sl ge2 l.length) (sl gg2 l.length))) := below_row ((Below.refl _ w6).alloc (Nat.le_refl _) _) (Nat.le_refl _) (by rw [size_alloc]; omega) _
    have B7 := B6.trans (bb.mono B6.size)
    have O7 := O6.below bb
    have G7 := G6.below bb
    have G7b := G6b.below bb
    obtain ⟨c0, c1, c2, c3, c4⟩ := O7.cells
    obtain ⟨d0, d1, d2, d3', d4⟩ := g3.cells
    rw [t1] at d1
    rw [t2] at d2
    rw [t4] at G7b
    obtain ⟨ao, cap, rfl⟩ := hv1
    have hLv := fun x => lives4_any x
    generalize hW : (w6.alloc (.cells (rnZ.out nilV nilV) 27)).setRow w6.heap.size (R2.out (sl ge2 l.length) (sl gg2 l.length)) = W at *
    clear hRb q6 E6 G6b B5 O5 G5 G6 O6 b6 t1 t2 t4 hz2 c3 d3' bb g3 O7 B6
    unfold sl at c4 d4
    have key : ∀ (a b : Int), R.win = a → R2.win = b → (a = -1 ∧ b = -1 ∨ 0 ≤ a ∧ a < l.length ∧ b = (l.length : Int) - 1 - a) → Hid (((decide (a < 0)) != decide (b < 0)) = false ∧ (decide (0 ≤ a) = true → (b != (l.length : Int) - 1 - a) = false)) := by
      intro a b _ _ h
      show _ ∧ _
      rcases h with ⟨rfl, rfl⟩ | ⟨h1, h2, rfl⟩
      · exact ⟨by decide, fun h => by simp at h⟩
      · have e1 : decide (a < 0) = false := by simp; omega
        have e2 : decide ((l.length : Int) - 1 - a < 0) = false := by simp; omega
        exact ⟨by rw [e1, e2]; rfl, fun _ => by simp⟩
    have hlast : ∀ (pv : Value), True := fun _ => trivial
    generalize hRg : R.got = got at *
    rcases t3 with ⟨a1, a2⟩ | ⟨wn, hwn, a1, a2⟩
    · rw [a1] at c0
      rw [a2] at d0
      clear key hlast a1 a2
      go_upto_region 6 with (refine gn.sd R2 (sl ge2 l.length) (sl gg2 l.length) rfl rfl rfl _ _ rfl rfl rfl ?_)
      clear hW gn
      have HZZ : Hid _ := hz
      clear hz
      go_wp2
      go_loopw [11] (fun i x => ∃ k m : Nat, k ≤ l.length ∧ i = .int .i64 k ∧ x = W.drewN m) (fun i _ => l.length - (intOf i).toNat)
      case atStart => exact ⟨0, 0, Nat.zero_le _, rfl, rfl⟩
      case round =>
        obtain ⟨k, m, hk, rfl, rfl⟩ := hrel
        by_cases hkl : k < l.length
        · have e1 : W.cell? ⟨gg, k, none⟩ = some (.bool (got[k]'(by rw [lg]; exact hkl))) := (G7.cell k (by rw [List.length_map, lg]; exact hkl)).trans (by rw [List.getElem_map])
          obtain ⟨j, hj⟩ : ∃ j : Nat, (l.length : Int) - 1 - k = j := ⟨l.length - 1 - k, by omega⟩
          have hjl : j < l.length := by omega
          have e2 : W.cell? ⟨gg2, j, none⟩ = some (.bool (got[k]'(by rw [lg]; exact hkl))) := (G7b.cell j (by rw [List.length_map, List.length_reverse, lg]; exact hjl)).trans (by
            rw [List.getElem_map, List.getElem_reverse]
            congr 3; omega)
          generalize got[k]'(by rw [lg]; exact hkl) = bk at *
          clear c0 c1 c2 d0 d1 d2 G7 G7b
          cases bk
          · go_wp2_with fail
            go_quiet (fail)
            go_wp2
            go_roundw
            case rel => exact ⟨k + 1, _, by omega, by go_num, rfl⟩
            case measure => simp [intOf]; omega
          · go_wp2_with fail
            go_quiet (fail)
            go_wp2
            go_roundw
            case rel => exact ⟨k + 1, _, by omega, by go_num, rfl⟩
            case measure => simp [intOf]; omega
        · have hL := hLv (W.drewN m)
          clear hLv
          go_wp2_with fail
          refine hL.mono ?_
          rintro e w9 ⟨rfl, b9⟩
          have B9 : Below w.heap.size w w9 := (below_drawn B7 m).trans (b9.mono (by simpa using B7.size))
          go_wp2
          go_ret
          exact ⟨rfl, B9⟩
    · obtain ⟨j0, hj0⟩ : ∃ j0 : Nat, (l.length : Int) - 1 - wn = j0 := ⟨l.length - 1 - wn, by omega⟩
      have hjj : l.length - 1 - wn = j0 := by omega
      rw [a1] at c0
      rw [a2, hjj] at d0
      clear hjj
      clear key hlast a1 a2
      go_upto_region 6 with (refine gn.sd R2 (sl ge2 l.length) (sl gg2 l.length) rfl rfl rfl _ _ rfl rfl rfl ?_)
      clear hW gn
      have HZZ : Hid _ := hz
      clear hz
      go_wp2
      go_loopw [11] (fun i x => ∃ k m : Nat, k ≤ l.length ∧ i = .int .i64 k ∧ x = W.drewN m) (fun i _ => l.length - (intOf i).toNat)
      case atStart => exact ⟨0, 0, Nat.zero_le _, rfl, rfl⟩
      case round =>
        obtain ⟨k, m, hk, rfl, rfl⟩ := hrel
        by_cases hkl : k < l.length
        · have e1 : W.cell? ⟨gg, k, none⟩ = some (.bool (got[k]'(by rw [lg]; exact hkl))) := (G7.cell k (by rw [List.length_map, lg]; exact hkl)).trans (by rw [List.getElem_map])
          obtain ⟨j, hj⟩ : ∃ j : Nat, (l.length : Int) - 1 - k = j := ⟨l.length - 1 - k, by omega⟩
          have hjl : j < l.length := by omega
          have e2 : W.cell? ⟨gg2, j, none⟩ = some (.bool (got[k]'(by rw [lg]; exact hkl))) := (G7b.cell j (by rw [List.length_map, List.length_reverse, lg]; exact hjl)).trans (by
            rw [List.getElem_map, List.getElem_reverse]
            congr 3; omega)
          generalize got[k]'(by rw [lg]; exact hkl) = bk at *
          clear c0 c1 c2 d0 d1 d2 G7 G7b
          cases bk
          · go_wp2_with fail
            go_quiet (fail)
            go_wp2
            go_roundw
            case rel => exact ⟨k + 1, _, by omega, by go_num, rfl⟩
            case measure => simp [intOf]; omega
          · go_wp2_with fail
            go_quiet (fail)
            go_wp2
            go_roundw
            case rel => exact ⟨k + 1, _, by omega, by go_num, rfl⟩
            case measure => simp [intOf]; omega
        · have hL := hLv (W.drewN m)
          clear hLv
          go_wp2_with fail
          refine hL.mono ?_
          rintro e w9 ⟨rfl, b9⟩
          have B9 : Below w.heap.size w w9 := (below_drawn B7 m).trans (b9.mono (by simpa using B7.size))
          go_wp2
          go_ret
          exact ⟨rfl, B9⟩
  · obtain rfl := q1 hz
    have g3 := gn.row rnZ nilV nilV
    have bb : Below w3.heap.size w3 ((w3.alloc (.cells (rnZ.out nilV nilV) 27)).setRow w3.heap.size (rnZ.out nilV nilV)) := below_row ((Below.refl _ w3).alloc (Nat.le_refl _) _) (Nat.le_refl _) (by rw [size_alloc]; omega) _
    have B4 := B3.trans (bb.mono B3.size)
    have hLv := lives4_any ((w3.alloc (.cells (rnZ.out nilV nilV) 27)).setRow w3.heap.size (rnZ.out nilV nilV))
    have hne : (rndE l fl != 0) = true := by simpa using hz
    generalize rndE l fl = re at *
    clear q1 q2 bb
    go_wp2_with (refine gn.sd rnZ nilV nilV rfl rfl rfl _ _ rfl rfl rfl ?_)
    refine hLv.mono ?_
    rintro e w5 ⟨rfl, b5⟩
    have B5 := B4.trans (b5.mono B4.size)
    go_wp2
    go_ret
    exact ⟨rfl, B5⟩
end Go.Proofs.Ytlghjfomliappaa
namespace Go.Proofs.Ytlghjfomliappaa
open Go.ChangeShapes Go.WideShapes Go.ChangeAt Go.RowKit Go.Proofs.Bits
open Go.ChangeMaps (open_string shut_string)
set_option linter.unusedVariables false
set_option maxRecDepth 1000000

set_option maxRecDepth 100000 in
theorem busTurned_lifted (os : Os) (started : os.Started) (H : Type) (enc : TypeId × Value → H) :
    ReturnsInHanded {} Try.checked os 6 .any (Rows.busTurnedSpec.pre6 enc Try.prog Try.f6 Rows.busTurnedRow.domain false) (Rows.busTurnedSpec.post enc Try.prog Try.f6 false true false false) := by
  refine returnsInHanded_of_change_sized (C := Try.checked) own started (by kernel_rfl) Try.func6
    (ChangeSpec.witness6 (enc := enc) (C := Try.checked) false ⟨#[], #[.slice none 0 0, .slice none 0 0], []⟩ 8 (by kernel_rfl) (by kernel_rfl) (by kernel_rfl) (by kernel_rfl)) ?_
  intro W base args ds gs before hval0 hW hcnd hsz _
  have hval : ∀ (j : Nat) t v, Try.f6.params[j]? = some t → args[j]? = some v → Value.okWide Try.prog W .any base t v := hval0
  have hW' := hW
  obtain ⟨p, q, hA0, hV, rfl, hfz, hnd⟩ := hW
  have hA : DataW.TrodAll enc Try.prog W 0 (fun _ => true) true Try.f6.params.toList args.toList ds p := hA0
  rw [Try.params6] at hA hval hsz
  obtain ⟨v0, vs0, d0, ds0, p0, q0, hargs, rfl, rfl, h0, r0⟩ := trodAll_cons hA
  obtain ⟨v1, vs1, d1, ds1, p1, q1, rfl, rfl, rfl, h1, r1⟩ := trodAll_cons r0
  obtain ⟨rfl, rfl, rfl⟩ := trodAll_nil r1
  obtain rfl : args = #[v0, v1] := by cases args; simp_all
  obtain ⟨rfl, rfl⟩ := trodVars_none hV
  have lt0 : ∀ x ∈ p0, x.block < W.heap.size := by obtain ⟨m, hm⟩ := h0; exact DataW.trod_lt m _ _ _ hm
  obtain ⟨l0, w0, e0⟩ := open_senders (hval 0 22 v0 rfl rfl) h0 lt0
  have z0 := size_senders (j := 0) hsz rfl rfl e0
  have lt1 : ∀ x ∈ p1, x.block < W.heap.size := by obtain ⟨m, hm⟩ := h1; exact DataW.trod_lt m _ _ _ hm
  obtain ⟨l1, w1, e1⟩ := open_flips (hval 1 23 v1 rfl rfl) h1 lt1
  have z1 := size_flips (j := 1) hsz rfl rfl e1
  clear hA0 hval0
  refine (bturned_walk v0 v1 l0 l1 W z0 z1 w0 w1).mono fun e W' ⟨he, bel⟩ => ?_
  subst he
  exact ⟨_, rfl, _, _, _, [], _, [], hW', trodAll_mk1 (shut_bool Try.underlying4 _), (trodAll_cons_mk (Below.trod laidOut (by kernel_rfl) (of_decide_eq_true (by kernel_rfl)) h0 bel lt0) (trodAll_cons_mk (Below.trod laidOut (by kernel_rfl) (of_decide_eq_true (by kernel_rfl)) h1 bel lt1) trodAll_mk0)), rfl, bel.frame _, fun h => by cases h⟩

theorem busTurned_holds : Rows.BusTurnedSaid :=
  OpenClaim.holds_of_wide 6 Try.f6 rfl rfl rfl rfl rfl rfl rfl ⟨rfl, rfl, rfl, rfl, rfl⟩ rfl rfl rfl rfl rfl (by kernel_rfl) Try.func6 (by kernel_rfl)
    (of_decide_eq_true (by kernel_rfl)) (by unfold Func.isWrapper; first | (rw [if_pos (by decide +kernel)]; kernel_rfl) | (rw [if_neg (by decide +kernel)]; exact ⟨rfl, rfl⟩))
    (fun os started H enc _ => busTurned_lifted os started H enc)
end Go.Proofs.Ytlghjfomliappaa
