/- A slice that came in has room for what it holds. Contracts: New. The small living call of layer 4. A bus on which all have power and nothing went wrong: what a Step does. The bus of the law BusEnds, phase by phase: plain facts. Contract of the document's own Plain. What a law holds beside a bus: rows of frames of its own. -/
import Derived.Test.YtlghjfomliappaaTa10
import Derived.Maps.AppendAt
import Derived.Deep.DeepCutAuto
namespace Go.Proofs.Ytlghjfomliappaa
open Go.ChangeShapes Go.WideShapes Go.ChangeAt Go.RowKit Go.Proofs.Bits
set_option linter.unusedVariables false
set_option maxRecDepth 1000000

theorem cap_slice {H : Type} {enc : TypeId × Value → H} {W : World} {base : Nat} {v : Value} {d : DataW H} {ps : List MemPlace} {t e : TypeId} (ht : Try.prog.underlying t = some (.slice e)) (hval : Value.okWide Try.prog W .any base t v) (h : DataW.Trod enc Try.prog W 0 (fun _ => true) true t v d ps) : ∀ ao n cap, v = .slice ao n cap → n ≤ cap := by
  obtain ⟨ao, len, cap, rfl⟩ := okWide_slice ht hval
  obtain ⟨fuel, hf⟩ := h
  intro ao' n' cap' hv
  injection hv with e1 e2 e3
  subst e1 e2 e3
  rcases DataW.trod_slice ht hf with ⟨hcs, hx⟩ | ⟨a, len', cap', elems, rest, n, _, hcs, hx, _, hl, hm, hlen, hel, _, _⟩
  · simp [Value.cells] at hcs
    omega
  · simp [Value.cells] at hcs
    omega
end Go.Proofs.Ytlghjfomliappaa
namespace Go.Proofs.Ytlghjfomliappaa
open Go.RowKit Go.Proofs.Bits
set_option linter.unusedVariables false
set_option maxRecDepth 1000000

theorem infoNZ : (Try.prog.info? 80).map (fun i => (i.zero, i.size, i.bytes)) = some (some (.agg nodeZ), 16, 72) := by kernel_rfl
theorem new_no {n : Int} (w : World) (h : n < 1 ∨ 127 < n) : Calls Try.prog 12 #[.int .i64 n] w fun e w' => e = .returned (.tuple #[.pointer none, .int .i64 1]) ∧ w' = w := by
  by_cases h1 : n < 1
  · have d1 : decide (n < 1) = true := by simpa using h1
    go_enter Try.func12, Try.ntmps12
    go_wp2
    go_ret2
    exact ⟨rfl, rfl⟩
  · have d1 : decide (n < 1) = false := by simpa using h1
    have d2 : decide (127 < n) = true := by simp; omega
    go_enter Try.func12, Try.ntmps12
    go_wp2
    go_ret2
    exact ⟨rfl, rfl⟩
theorem run_make_nodes (n : Nat) (hn : n ≤ 127) (w : World) : (Instr.makeSlice 74 (.int .i64 n) (.int .i64 n)).run Try.prog w = .ok (.slice (some ⟨w.heap.size, 0, none⟩) n n) (w.alloc (.cells (madeCells nodeZ (n * 16)) 80)) := by
  obtain ⟨i0, hi, hz0, hz1, hz2⟩ := info_parts infoNZ
  have := run_make (P := Try.prog) w 74 80 i0 _ Try.underlying74 hi hz0 .i64 .i64 n n (by omega) (Int.le_refl _) (by rw [hz2]; omega) (by omega)
  simp only [Int.toNat_natCast, hz1] at this
  exact this
/-- What stands when k units have been made: their blocks lie behind the bus, one behind the other. -/
structure NewS (w : World) (n k : Nat) (x : World) : Prop where
  bel : Below w.heap.size w x
  hb : x.heap[w.heap.size + 1]? = some (.cells #[sl w.heap.size n, .int .u64 0] 76 (0, 0))
  ht : x.there w.heap.size 0 (n * 16)
  hn : ∀ i, i < k → x.rangeAt w.heap.size (i * 16) (Nd.nul.cells (w.heap.size + 2 + i) nilV)
  hz : ∀ i, k ≤ i → i < n → x.rangeAt w.heap.size (i * 16) nodeZ.toList
  hu : ∀ i, i < k → Ua (w.heap.size + 2 + i) Un.nul x
  sz : x.heap.size = w.heap.size + 2 + k
theorem NewS.start (w : World) (n : Nat) : NewS w n 0 ((w.alloc (.cells (madeCells nodeZ (n * 16)) 80)).alloc (.cells #[.slice (some ⟨w.heap.size, 0, none⟩) n n, .int .u64 0] 76)) := by
  have hh := heap_alloc_new w (.cells (madeCells nodeZ (n * 16)) 80)
  have hh2 : ((w.alloc (.cells (madeCells nodeZ (n * 16)) 80)).alloc (.cells #[.slice (some ⟨w.heap.size, 0, none⟩) n n, .int .u64 0] 76)).heap[w.heap.size]? = _ := (Below.heap_alloc _ _ _ (by rw [size_alloc]; omega)).trans hh
  have hz : nodeZ.size = 16 := rfl
  refine ⟨((Below.refl _ _).alloc (Nat.le_refl _) _).alloc (by rw [size_alloc]; omega) _, ?_, fun j hj => ?_, fun i hi => by omega, fun i _ hi => ?_, fun i hi => by omega, by rw [size_alloc, size_alloc]⟩
  · have := heap_alloc_new (w.alloc (.cells (madeCells nodeZ (n * 16)) 80)) (.cells #[.slice (some ⟨w.heap.size, 0, none⟩) n n, .int .u64 0] 76)
    rw [size_alloc] at this
    exact this
  · refine ⟨?_, Lib.frozen_of_heap hh2 _⟩
    rw [Lib.cell_of_heap hh2, made_at _ _ _ (by omega) (by rw [hz]; omega), hz]
    have : j % 16 < nodeZ.size := by rw [hz]; omega
    simp [this]
  · intro j v hj
    have hj16 : j < 16 := (List.getElem?_eq_some_iff.1 hj).1
    rw [Lib.cell_of_heap hh2, made_at _ _ _ (by omega) (by rw [hz]; omega), hz, show (i * 16 + j) % 16 = j by omega]
    simpa using hj
theorem NewS.drew {w : World} {n k : Nat} {x : World} (h : NewS w n k x) : NewS w n k x.drew := ⟨below_drawn h.bel 1, h.hb, fun j hj => h.ht j hj, fun i hi => h.hn i hi, fun i h1 h2 => h.hz i h1 h2, h.hu, h.sz⟩
/-- One unit more. -/
theorem NewS.step {w : World} {n k : Nat} {x : World} (h : NewS w n k x) (hk : k < n) : NewS w n (k + 1) ((x.alloc (.cells #[.int .i64 0, .int .i64 0, .int .i64 0] 105)).setCell ⟨w.heap.size, k * 16 + 1, none⟩ (.pointer (some ⟨x.heap.size, 0, none⟩))) := by
  have s := h.sz
  have b1 : Below x.heap.size x (x.alloc (.cells #[.int .i64 0, .int .i64 0, .int .i64 0] 105)) := (Below.refl _ _).alloc (Nat.le_refl _) _
  have B1 := h.bel.trans (b1.mono h.bel.size)
  have kb : ∀ j, j < x.heap.size → j ≠ w.heap.size → ((x.alloc (.cells #[.int .i64 0, .int .i64 0, .int .i64 0] 105)).setCell ⟨w.heap.size, k * 16 + 1, none⟩ (.pointer (some ⟨x.heap.size, 0, none⟩))).heap[j]? = x.heap[j]? := fun j hj hne => (Below.heap_setCell _ _ _ _ hne).trans (b1.block j hj)
  have out : ∀ q, q ≠ k * 16 + 1 → ((x.alloc (.cells #[.int .i64 0, .int .i64 0, .int .i64 0] 105)).setCell ⟨w.heap.size, k * 16 + 1, none⟩ (.pointer (some ⟨x.heap.size, 0, none⟩))).cell? ⟨w.heap.size, q, none⟩ = x.cell? ⟨w.heap.size, q, none⟩ := fun q hq => (World.cell?_setCell_other _ _ _ _ (by intro e; injection e with _ e2; exact hq e2.symm)).trans (b1.cell (p := ⟨w.heap.size, q, none⟩) (by show w.heap.size < x.heap.size; omega))
  have ht1 := there_kept h.ht (b1.block w.heap.size (by omega))
  refine ⟨B1.setCell (p := ⟨w.heap.size, k * 16 + 1, none⟩) (Nat.le_refl _) _, (kb _ (by omega) (by omega)).trans h.hb, there_setCell ht1 _ _, fun i hi => ?_, fun i h1 h2 => ?_, fun i hi => ?_, by simp [World.setCell]; omega⟩
  · by_cases e : i = k
    · subst e
      have hzz := h.hz i (Nat.le_refl _) hk
      intro j v hj
      by_cases e1 : j = 1
      · subst e1
        cases hj
        have c1 : x.cell? ⟨w.heap.size, i * 16 + 1, none⟩ = _ := hzz 1 (.pointer none) rfl
        have := World.cell?_setCell_same (x.alloc (.cells #[.int .i64 0, .int .i64 0, .int .i64 0] 105)) ⟨w.heap.size, i * 16 + 1, none⟩ (.pointer (some ⟨x.heap.size, 0, none⟩)) ((b1.cell (p := ⟨w.heap.size, i * 16 + 1, none⟩) (by show w.heap.size < x.heap.size; omega)).trans c1)
        rw [this, s]
      · rw [out _ (by omega)]
        refine hzz j v ?_
        have hj16 : j < 16 := by have := (List.getElem?_eq_some_iff.1 hj).1; rw [Nd.len] at this; exact this
        rw [← hj]
        match j, hj16, e1 with
        | 0, _, _ => rfl
        | 2, _, _ => rfl
        | 3, _, _ => rfl
        | 4, _, _ => rfl
        | 5, _, _ => rfl
        | 6, _, _ => rfl
        | 7, _, _ => rfl
        | 8, _, _ => rfl
        | 9, _, _ => rfl
        | 10, _, _ => rfl
        | 11, _, _ => rfl
        | 12, _, _ => rfl
        | 13, _, _ => rfl
        | 14, _, _ => rfl
        | 15, _, _ => rfl
    · intro j v hj
      have hj16 : j < 16 := by have := (List.getElem?_eq_some_iff.1 hj).1; rw [Nd.len] at this; exact this
      rw [out _ (by omega)]
      exact h.hn i (by omega) j v hj
  · intro j v hj
    have hj16 : j < 16 := (List.getElem?_eq_some_iff.1 hj).1
    rw [out _ (by omega)]
    exact h.hz i (by omega) h2 j v hj
  · by_cases e : i = k
    · subst e
      unfold Ua
      rw [Below.heap_setCell _ _ _ _ (by show w.heap.size + 2 + i ≠ w.heap.size; omega), ← s]
      exact heap_alloc_new x _
    · exact (kb _ (by omega) (by omega)).trans (h.hu i (by omega))
def newR (w : World) (n : Nat) (k : Nat) : Ro := if k = w.heap.size then .nodes else if k = w.heap.size + 1 then .bus else if w.heap.size + 2 ≤ k ∧ k < w.heap.size + 2 + n then .unit (k - (w.heap.size + 2)) else .no
theorem NewS.done {w : World} {n : Nat} {x : World} (h : NewS w n n x) : BusAt (w.heap.size + 1) w.heap.size (newR w n) 0 (List.replicate n Nd.nul) x := by
  have s := h.sz
  refine ⟨fun i => w.heap.size + 2 + i, fun _ => nilV, ?_⟩
  constructor
  · rw [List.length_replicate]; exact h.hb
  · intro i hi; rw [List.length_replicate] at hi; rw [List.getElem_replicate]; exact h.hn i hi
  · rw [List.length_replicate]; exact h.ht
  · intro i hi; rw [List.length_replicate] at hi; rw [List.getElem_replicate]; exact h.hu i hi
  · intro i hi; rw [List.getElem_replicate]; exact World.ownsRow_nil _ _ _ _
  · unfold newR; rw [if_neg (by omega), if_pos rfl]
  · unfold newR; rw [if_pos rfl]
  · intro i hi
    rw [List.length_replicate] at hi
    unfold newR
    rw [if_neg (by omega), if_neg (by omega), if_pos (by omega)]
    congr 1; omega
  · intro i hi k hk; cases hk
  · intro k hk
    unfold newR
    rw [if_neg (by omega), if_neg (by omega), if_neg (by omega)]
theorem newR_low {w : World} {n k : Nat} (h : k < w.heap.size) : newR w n k = .no := by
  unfold newR
  rw [if_neg (by omega), if_neg (by omega), if_neg (by omega)]
set_option maxHeartbeats 1000000 in
theorem new_bus (w : World) (n : Nat) (h1 : 1 ≤ n) (h2 : n ≤ 127) : Calls Try.prog 12 #[.int .i64 n] w fun e w' => e = .returned (.tuple #[.pointer (some ⟨w.heap.size + 1, 0, none⟩), .int .i64 0]) ∧ BusAt (w.heap.size + 1) w.heap.size (newR w n) 0 (List.replicate n Nd.nul) w' ∧ Below w.heap.size w w' := by
  have hmk := run_make_nodes n h2
  have H0 : Hid _ := NewS.start w n
  have d1 : decide ((n : Int) < 1) = false := by simp; omega
  have d2 : decide ((127 : Int) < (n : Int)) = false := by simp; omega
  have HD : Hid (∀ x, NewS w n n x → BusAt (w.heap.size + 1) w.heap.size (newR w n) 0 (List.replicate n Nd.nul) x ∧ Below w.heap.size w x) := fun x hx => ⟨hx.done, hx.bel⟩
  go_enter Try.func12, Try.ntmps12
  go_wp2
  go_loopw [21] (fun i x => ∃ k : Nat, k ≤ n ∧ i = .int .i64 k ∧ NewS w n k x) (fun i _ => n - (intOf i).toNat)
  case atStart => exact ⟨0, Nat.zero_le _, rfl, H0.out⟩
  case round =>
    clear H0 hmk d1 d2
    obtain ⟨k, hk, rfl, S1⟩ := hrel
    by_cases hkl : k < n
    · have c0 : wr.cell? ⟨w.heap.size + 1, 0, none⟩ = some (.slice (some ⟨w.heap.size, 0, none⟩) n n) := Lib.cell_of_heap S1.hb 0
      have c1 : wr.cell? ⟨w.heap.size, k * 16 + 1, none⟩ = some (.pointer none) := S1.hz k (Nat.le_refl _) hkl 1 _ rfl
      have f1 : wr.frozen? ⟨w.heap.size, k * 16 + 1, none⟩ = false := by
        have := (S1.ht (k * 16 + 1) (by omega)).2
        rw [Nat.zero_add] at this; exact this
      have s := S1.sz
      have e1 : w.heap.size + 1 ≠ wr.heap.size := by omega
      have e2 : w.heap.size ≠ wr.heap.size := by omega
      have l1 : w.heap.size + 1 < wr.heap.size := by omega
      have l2 : w.heap.size < wr.heap.size := by omega
      have HS0 := (S1.step hkl).drew
      rw [World.setCell_alloc_past _ _ _ _ (by omega)] at HS0
      have HS : Hid _ := HS0
      clear HS0
      have hN := new_any wr.drew
      clear S1 s
      go_wp2_with fail
      go_region_with (go_at_call 28; refine (new_any _).mono ?_; rintro e w4 ⟨rfl, rfl⟩)
      all_goals
        go_wp2_with fail
        go_roundw
        case rel => exact ⟨k + 1, by omega, by go_num, HS.out⟩
        case measure => simp [intOf]; omega
    · obtain rfl : k = n := by omega
      go_wp2
      go_ret2
      exact ⟨rfl, HD.out _ S1⟩
end Go.Proofs.Ytlghjfomliappaa
namespace Go.Proofs.Ytlghjfomliappaa
open Go.RowKit Go.Proofs.Bits
set_option linter.unusedVariables false
set_option maxRecDepth 1000000

def fr5 : Fr := ⟨5, false, false, 1, [0, 0, 0, 0, 0, 0, 0, 0], by decide, by decide, rfl⟩
def lv2 : List Nd := powL (powL (List.replicate 2 Nd.nul) 0 true) 1 true
def lv3 : List Nd := subL lv2 0 fr5
def lv4 : List Nd := stepL lv3 []
theorem lv_sub : subE lv2 0 fr5 = 0 := by decide +kernel
theorem lv3_eq : lv3 = [⟨true, Un.nul, fr5.plain, true, []⟩, ⟨true, Un.nul, Fr.nul, false, []⟩] := by
  unfold lv3 subL
  rw [if_pos lv_sub]
  rfl
theorem lv_E : stepE lv3 [] = 0 := by decide +kernel
theorem lv_win : (stepR lv3 []).win = 0 ∧ (stepR lv3 []).sent = true ∧ (stepR lv3 []).got = [false, true] := by
  refine ⟨?_, ?_, ?_⟩ <;> decide +kernel
theorem lv3_len : lv3.length = 2 := by rw [lv3_eq]; rfl
theorem lv3_ok : NdsOk lv3 := by
  rw [lv3_eq]
  intro i hi
  match i, hi with
  | 0, _ => exact ⟨Un.ok_nul, by simp⟩
  | 1, _ => exact ⟨Un.ok_nul, by simp⟩
theorem lv4_len : lv4.length = 2 := by decide +kernel
theorem lv4_got : (ndAt lv4 1).got.map Fr.id = [5] := by decide +kernel
theorem powL_len (l : List Nd) (k : Nat) (on : Bool) : (powL l k on).length = l.length := by unfold powL; split <;> simp
theorem nd_get {l : List Nd} {k : Nat} (h : k < l.length) : l[k] = ndAt l k := by unfold ndAt; simp [h]
theorem flips_nil (w : World) : Flips w (.slice none 0 0) [] := ⟨none, 0, rfl, fun _ => ⟨rfl, rfl⟩, fun k hk => by simp at hk⟩
theorem wide_head {w : World} {v : Value} {g : Fr} (h : Frames w v [g]) : ∃ b off cap, v = .slice (some ⟨b, off, none⟩) 1 cap ∧ w.cell? ⟨b, off, none⟩ = some (.int .u32 g.id) ∧ w.rangeAt b off g.cells := by
  obtain ⟨ao, cap, rfl, _, hc⟩ := h
  obtain ⟨b, off, rfl, _, hR⟩ := hc 0 (by simp)
  have hR' : w.rangeAt b off g.cells := by simpa using hR
  exact ⟨b, off, cap, rfl, hR' 0 _ rfl, hR'⟩
set_option maxHeartbeats 4000000 in
theorem lives4_any (w : World) : Calls Try.prog 11 #[] w fun e w' => e = .returned (.bool true) ∧ Below w.heap.size w w' := by
  have hN := new_bus w 2 (by omega) (by omega)
  have HLow : Hid (∀ k, k < w.heap.size → newR w 2 k = .no) := fun k hk => newR_low hk
  have hY : Hid (Value.agg #[.int .u32 5, .bool false, .bool false, .int .i64 1, .int .u8 0, .int .u8 0, .int .u8 0, .int .u8 0, .int .u8 0, .int .u8 0, .int .u8 0, .int .u8 0] = fr5.val) := rfl
  generalize newR w 2 = ρ at *
  generalize hg : w.heap.size = g at *
  go_enter Try.func11, Try.ntmps11
  go_wp2_with fail
  refine Calls.mono hN ?_
  rintro e w1 ⟨rfl, h1, B1⟩
  have hP0 : Calls Try.prog 13 #[.pointer (some ⟨g + 1, 0, none⟩), .int .i64 0, .bool true] w1 _ := Power_any h1 (by simp) (k := 0) true (by simp)
  clear hN h1
  go_wp2_with fail
  refine hP0.mono ?_
  rintro e w2 ⟨rfl, h2, X2⟩
  have hP1 : Calls Try.prog 13 #[.pointer (some ⟨g + 1, 0, none⟩), .int .i64 1, .bool true] w2 _ := Power_any h2 (by rw [powL_len]; simp) (k := 1) true (by rw [powL_len]; simp)
  clear hP0 h2
  go_wp2_with fail
  refine hP1.mono ?_
  rintro e w3 ⟨rfl, h3, X3⟩
  have h3' : BusAt (g + 1) g ρ 0 lv2 w3 := h3
  have hS : Calls Try.prog 14 #[.pointer (some ⟨g + 1, 0, none⟩), .int .i64 0, fr5.val] w3 _ := Submit_any h3' (by decide) (k := 0) (by decide) fr5
  rw [lv_sub, ← hY.out] at hS
  have X13 := X2.trans X3
  clear hP1 h3 h3' X2 X3
  go_wp2_with fail
  refine hS.mono ?_
  rintro e w4 ⟨rfl, h4, X4⟩
  have h4' : BusAt (g + 1) g ρ 0 lv3 w4 := h4
  have hSt := Step_any h4' (by rw [lv3_len]; omega) lv3_ok (by omega) (.slice none 0 0) [] (by simp [maxLen]) (flips_nil w4)
  have X14 := X13.trans X4
  clear hS h4 h4' X13 X4 hY
  go_wp2_with fail
  refine hSt.mono ?_
  rintro e w5 ⟨ρ5, h5, X5, _, q5⟩
  obtain ⟨ge, gg, rfl, E5, G5, _, _, z1, z2, le, lg⟩ := q5 lv_E
  have h5' : BusAt (g + 1) g ρ5 _ lv4 w5 := h5
  obtain ⟨v1, v2, v3⟩ := lv_win
  rw [lv3_len] at *
  rw [v3] at G5
  have gn := Oa.new w5 rnZ nilV nilV
  have g3 := gn.row (stepR lv3 []) (sl ge 2) (sl gg 2)
  have bb : Below w5.heap.size w5 ((w5.alloc (.cells (rnZ.out nilV nilV) 27)).setRow w5.heap.size ((stepR lv3 []).out (sl ge 2) (sl gg 2))) := below_row ((Below.refl _ w5).alloc (Nat.le_refl _) _) (Nat.le_refl _) (by rw [size_alloc]; omega) _
  have h6 := h5'.below bb
  have G6 := G5.below bb
  have hF : Calls Try.prog 17 #[.pointer (some ⟨g + 1, 0, none⟩), .int .i64 1] _ _ := Fetch_any h6 (by rw [lv4_len]; omega) (k := 1) (by rw [lv4_len]; omega)
  have X16 := (X14.trans X5).trans (Ext.below (ρ := ρ5) bb)
  have z5 : ρ5 w5.heap.size = .no := by obtain ⟨G, V, hh⟩ := h5'; exact hh.rz _ (Nat.le_refl _)
  generalize stepR lv3 [] = R at *
  clear hSt h5 h5' q5 X14 X5 E5 G5 bb le lg
  go_wp2_with (refine gn.sd R (sl ge 2) (sl gg 2) rfl rfl rfl _ _ rfl rfl rfl ?_)
  refine hF.mono ?_
  rintro e w7 ⟨v, rfl, F7, h7, X7⟩
  have X17 := X16.trans X7
  have O7 := g3.kept (X7.keep _ g3.lt z5)
  have G7 := G6.kept (X7.keep _ G6.lt z2)
  have hgot : (lv4[1]'(by rw [lv4_len]; omega)).got.map Fr.id = [5] := by rw [nd_get]; exact lv4_got
  obtain ⟨fr, hfr, hid⟩ : ∃ fr : Fr, (lv4[1]'(by rw [lv4_len]; omega)).got = [fr] ∧ fr.id = 5 := by
    match hq : (lv4[1]'(by rw [lv4_len]; omega)).got, hgot with
    | [fr], hgot => exact ⟨fr, rfl, by simpa using hgot⟩
    | [], hgot => simp at hgot
    | a :: b :: r, hgot => simp at hgot
  rw [hfr] at F7
  obtain ⟨b9, off9, cap9, rfl, cid, _⟩ := wide_head F7
  rw [hid] at cid
  obtain ⟨d0, d1, d2, d3', d4⟩ := O7.cells
  rw [v1] at d0
  rw [v2] at d2
  unfold sl at d4
  have cg := G7.cell 1 (by simp)
  have HB : Hid (Below g w w7) := B1.trans ((X17.toBelow (B := g) (by have := B1.size; omega) HLow.out))
  clear hF h6 h7 X7 X16 X17 gn g3 G6 F7 O7 G7 hgot
  go_wp2
  go_ret
  exact ⟨rfl, HB.out⟩
end Go.Proofs.Ytlghjfomliappaa
namespace Go.Proofs.Ytlghjfomliappaa
open Go.RowKit Go.Proofs.Bits
set_option linter.unusedVariables false
set_option maxRecDepth 1000000

structure On (n : Nd) : Prop where
  pw : n.pw = true
  u : n.u = Un.nul
  g64 : n.got.length ≤ 64
  chk : n.has = true → n.f.chk = 0
def AllOn (l : List Nd) : Prop := ∀ i, i < l.length → On (ndAt l i)
theorem On.tp {n : Nd} (h : On n) : tpN n = true := by unfold tpN; rw [h.pw, h.u]; rfl
theorem On.want {n : Nd} (h : On n) : wantN n = n.has := by unfold wantN; rw [h.tp]; rfl
def isS (l : List Nd) (i : Nat) : Bool := wantN (ndAt l i) && !(seenK l i).contains (fldV (ndAt l i).f)
theorem seAt_sends {l : List Nd} {i : Nat} (h : i < l.length) : seAt (sends l) i = if isS l i then ⟨true, true, (ndAt l i).f⟩ else ⟨tpN (ndAt l i), false, Fr.nul⟩ := by
  rw [seAt_eq (by rw [sends_len]; exact h)]
  unfold sends
  rw [List.getElem_map, List.getElem_range]
  rfl
theorem snd_sends {l : List Nd} {i : Nat} (h : i < l.length) : sndAt (sends l) i = isS l i := by
  unfold sndAt
  rw [seAt_sends h]
  cases isS l i <;> simp
theorem fld_sends {l : List Nd} {i : Nat} (h : i < l.length) (s : isS l i = true) : fldAt (sends l) i = (ndAt l i).f.field := by
  unfold fldAt; rw [seAt_sends h, s]; rfl
theorem seen_mem {l : List Nd} {k : Nat} {x : List UInt8} : x ∈ seenK l k ↔ ∃ j, j < k ∧ isS l j = true ∧ fldV (ndAt l j).f = x := by
  induction k with
  | zero => simp [seenK]
  | succ k ih =>
    rw [seenK]
    by_cases hs : isS l k = true
    · have hs' : (wantN (ndAt l k) && !(seenK l k).contains (fldV (ndAt l k).f)) = true := hs
      rw [if_pos hs', List.mem_append, ih, List.mem_singleton]
      constructor
      · rintro (⟨j, h1, h2, h3⟩ | rfl)
        · exact ⟨j, by omega, h2, h3⟩
        · exact ⟨k, by omega, hs, rfl⟩
      · rintro ⟨j, h1, h2, h3⟩
        by_cases e : j = k
        · subst e; exact .inr h3.symm
        · exact .inl ⟨j, by omega, h2, h3⟩
    · have hs' : ¬ (wantN (ndAt l k) && !(seenK l k).contains (fldV (ndAt l k).f)) = true := hs
      rw [if_neg hs', ih]
      constructor
      · rintro ⟨j, h1, h2, h3⟩; exact ⟨j, by omega, h2, h3⟩
      · rintro ⟨j, h1, h2, h3⟩
        by_cases e : j = k
        · subst e; exact absurd h2 hs
        · exact ⟨j, by omega, h2, h3⟩
theorem isS_has {l : List Nd} {i : Nat} (h : On (ndAt l i)) (s : isS l i = true) : (ndAt l i).has = true := by
  unfold isS at s; rw [h.want] at s; simp at s; exact s.1
/-- Whoever has a frame: one with the same field sends. -/
theorem has_sender {l : List Nd} {i : Nat} (h : On (ndAt l i)) (hh : (ndAt l i).has = true) : ∃ j, j ≤ i ∧ isS l j = true ∧ fldV (ndAt l j).f = fldV (ndAt l i).f := by
  by_cases s : isS l i = true
  · exact ⟨i, Nat.le_refl _, s, rfl⟩
  · have hc : (seenK l i).contains (fldV (ndAt l i).f) = true := by
      unfold isS at s
      rw [h.want, hh] at s
      simpa using s
    rw [List.contains_iff_mem] at hc
    obtain ⟨j, h1, h2, h3⟩ := seen_mem.1 hc
    exact ⟨j, by omega, h2, h3⟩
theorem fldV_ok {f : Fr} (h : f.chk = 0) : fldV f = f.field := by unfold fldV; rw [if_pos h]
theorem good_sends {l : List Nd} (h : AllOn l) (hex : ∃ i, i < l.length ∧ (ndAt l i).has = true) : Good (sends l) := by
  have fv : ∀ i, i < l.length → isS l i = true → fldV (ndAt l i).f = (ndAt l i).f.field := fun i hi s => fldV_ok ((h i hi).chk (isS_has (h i hi) s))
  refine ⟨?_, fun i hi si => ?_, fun i j hi hj si sj e => ?_⟩
  · obtain ⟨i, hi, hh⟩ := hex
    obtain ⟨j, h1, h2, _⟩ := has_sender (h i hi) hh
    exact ⟨j, by rw [sends_len]; omega, by rw [snd_sends (by omega)]; exact h2⟩
  · rw [sends_len] at hi
    rw [snd_sends hi] at si
    rw [seAt_sends hi, si]
    exact (h i hi).chk (isS_has (h i hi) si)
  · rw [sends_len] at hi hj
    rw [snd_sends hi] at si
    rw [snd_sends hj] at sj
    rw [fld_sends hi si, fld_sends hj sj, ← fv i hi si, ← fv j hj sj] at e
    have one : ∀ a b, isS l a = true → isS l b = true → fldV (ndAt l a).f = fldV (ndAt l b).f → ¬ a < b := by
      intro a b sa sb e hab
      have : fldV (ndAt l b).f ∈ seenK l b := seen_mem.2 ⟨a, hab, sa, e⟩
      unfold isS at sb
      simp at sb
      exact sb.2 this
    rcases Nat.lt_trichotomy i j with h1 | h1 | h1
    · exact absurd h1 (one i j si sj e)
    · exact h1
    · exact absurd h1 (one j i sj si e.symm)
theorem who_sends_nil {l : List Nd} (h : AllOn l) (hno : ∀ i, i < l.length → (ndAt l i).has = false) : who (sends l) = [] := by
  refine List.eq_nil_iff_forall_not_mem.2 fun i hi => ?_
  obtain ⟨h1, h2⟩ := mem_who.1 hi
  rw [sends_len] at h1
  rw [snd_sends h1] at h2
  have := isS_has (h i h1) h2
  rw [hno i h1] at this; cases this
theorem up_sends {l : List Nd} (h : AllOn l) {i : Nat} (hi : i < l.length) : upAt (sends l) i = true := by
  unfold upAt
  rw [seAt_sends hi]
  split
  · rfl
  · exact (h i hi).tp
theorem upK_all {l : List Nd} (h : AllOn l) (k : Nat) (hk : k ≤ l.length) : upK (sends l) k = k := by
  induction k with
  | zero => rfl
  | succ k ih => rw [upK_succ, ih (by omega), up_sends h (by omega)]; rfl
theorem alone_all {l : List Nd} (h : AllOn l) (h2 : 2 ≤ l.length) : alone (sends l) = false := by
  unfold alone upN
  rw [sends_len, upK_all h _ (Nat.le_refl _)]
  simp; omega
theorem look_nil {n : Nat} (h : n ≤ 127) : lookV n [] = 0 := by unfold lookV; rw [if_neg (by omega)]; rfl
theorem idle_on {n : Nd} (h : On n) (i : Nat) : idleN i n = n := by
  unfold idleN
  have : n.u.idle 1 = n.u := by rw [h.u]; rfl
  rw [if_pos h.pw, this]
theorem idleL_on {l : List Nd} (h : AllOn l) : idleL l = l := by
  unfold idleL
  apply List.ext_getElem
  · simp
  · intro i h1 h2
    rw [List.getElem_mapIdx]
    have := h i h2
    rw [← nd_get h2] at this
    exact idle_on this i
/-- What a Step leaves: the winner's frame is gone, all others have it. -/
def endN (f : Fr) (wn i : Nat) (n : Nd) : Nd := if i = wn then { n with f := Fr.nul, has := false } else { n with got := tk n.got f }
def endS (l : List Nd) (wn : Nat) : List Nd := l.mapIdx (endN (ndAt l wn).f wn)
theorem ends_none {l : List Nd} (h : AllOn l) (h127 : l.length ≤ 127) (hno : ∀ i, i < l.length → (ndAt l i).has = false) : stepE l [] = 0 ∧ (stepR l []).win = -1 := by
  have hw := who_sends_nil h hno
  refine ⟨?_, ?_⟩
  · unfold stepE rndE
    rw [sends_len, look_nil h127, if_neg (by simp), if_pos hw]
  · unfold stepR rnd; rw [if_pos hw]; rfl
theorem ends_step {l : List Nd} (h : AllOn l) (h2 : 2 ≤ l.length) (h127 : l.length ≤ 127) (hex : ∃ i, i < l.length ∧ (ndAt l i).has = true) :
    stepE l [] = 0 ∧ (stepR l []).sent = true ∧ ∃ wn, wn < l.length ∧ (ndAt l wn).has = true ∧ (stepR l []).win = wn ∧ (∀ j, j < l.length → (ndAt l j).has = true → (ndAt l wn).f.field ≤ (ndAt l j).f.field) ∧ stepL l [] = endS l wn := by
  obtain ⟨g1, g2⟩ := good_first (good_sends h hex)
  obtain ⟨w1, w2, w3⟩ := win_least g2
  rw [sends_len] at w1
  rw [snd_sends w1] at w2
  have hE : stepE l [] = 0 := by
    unfold stepE rndE
    rw [sends_len, look_nil h127, if_neg (by simp), if_neg g1]; exact g2
  have hR : stepR l [] = { rnW (sends l) with got := hearK (sends l) (winN (sends l)) (sends l).length, sent := true, bits := ((rnW (sends l)).len : Int) + 3 } := by
    unfold stepR rnd
    rw [if_neg g1]
    unfold rnEnd
    have : fo (sends l) (rnW (sends l)).len [] = none := rfl
    rw [this]
    simp only
    rw [alone_all h h2]
    rfl
  refine ⟨hE, by rw [hR], winN (sends l), w1, isS_has (h _ w1) w2, by rw [hR]; rfl, fun j hj hh => ?_, ?_⟩
  · obtain ⟨i, i1, i2, i3⟩ := has_sender (h j hj) hh
    have := w3 i (by rw [sends_len]; omega) (by rw [snd_sends (by omega)]; exact i2)
    rw [fld_sends w1 w2, fld_sends (by omega) i2] at this
    rw [fldV_ok ((h i (by omega)).chk (isS_has (h i (by omega)) i2)), fldV_ok ((h j hj).chk hh)] at i3
    rw [← i3]; exact this
  · unfold stepL
    rw [if_pos hE, idleL_on h]
    have hwin : (stepR l []).win = (winN (sends l) : Int) := by rw [hR]; rfl
    unfold setL4
    rw [if_neg (by rw [hwin]; omega), hwin, Int.toNat_natCast]
    unfold endS
    apply List.ext_getElem
    · simp
    · intro i j1 j2
      simp only [List.length_mapIdx] at j1
      rw [List.getElem_mapIdx, List.getElem_mapIdx, List.getElem_mapIdx]
      have hon := h i j1
      rw [← nd_get j1] at hon
      have eS : setN (stepR l []) (ndAt l (winN (sends l))).f i l[i] = endN (ndAt l (winN (sends l))).f (winN (sends l)) i l[i] := by
        unfold setN endN
        rw [hwin]
        by_cases e : i = winN (sends l)
        · rw [if_pos (by rw [e]), if_pos e]
          rw [show (stepR l []).sent = true by rw [hR], if_pos rfl]
          have : l[i].u.sent = l[i].u := by rw [hon.u]; rfl
          rw [this]
        · rw [if_neg (by omega), if_neg e]
          have hgot : (stepR l []).got.getD i false = true := by
            rw [hR]
            unfold hearK
            have hi' : i < (sends l).length := by rw [sends_len]; exact j1
            simp [hi', up_sends h j1, e]
          rw [hgot, if_pos rfl]
          have : l[i].u.recv = l[i].u := by rw [hon.u]; rfl
          rw [this]
      rw [eS]
      unfold dropN
      have : (endN (ndAt l (winN (sends l))).f (winN (sends l)) i l[i]).u.off = false := by
        unfold endN; split <;> (simp only; rw [hon.u]; rfl)
      rw [this]; rfl
end Go.Proofs.Ytlghjfomliappaa
namespace Go.Proofs.Ytlghjfomliappaa
open Go.RowKit Go.Proofs.Bits
set_option linter.unusedVariables false
set_option maxRecDepth 1000000

def onN : Nd := { Nd.nul with pw := true }
def onL (n k : Nat) : List Nd := (List.range n).map fun i => if i < k then onN else Nd.nul
theorem onL_len (n k : Nat) : (onL n k).length = n := by simp [onL]
theorem onL_zero (n : Nat) : onL n 0 = List.replicate n Nd.nul := by unfold onL; apply List.ext_getElem <;> simp
theorem onL_at (n k : Nat) (h : k < n) : ndAt (onL n k) k = Nd.nul := by unfold ndAt onL; simp [h]
theorem onL_pow (n k : Nat) (h : k < n) : powL (onL n k) k true = onL n (k + 1) := by
  unfold powL
  have : (onL n k).getD k Nd.nul = Nd.nul := onL_at n k h
  rw [this, if_neg (by simp [Nd.nul])]
  unfold onL
  apply List.ext_getElem
  · simp
  · intro i h1 h2
    simp at h1 h2
    rw [List.getElem_set]
    simp only [List.getElem_map, List.getElem_range]
    by_cases e : k = i
    · subst e; simp [onN]
    · rw [if_neg e]
      have : (i < k ↔ i < k + 1) := by omega
      simp only [this]
theorem onL_full (n i : Nat) (h : i < n) : ndAt (onL n n) i = onN := by unfold ndAt onL; simp [h]
theorem onN_on : On onN := ⟨rfl, rfl, by simp [onN, Nd.nul], fun h => by cases h⟩
def cnt (l : List Nd) : Nat := l.countP (·.has)
/-- While frames are handed in: the first k nodes may have one. -/
structure SubI (n k m : Nat) (l : List Nd) : Prop where
  len : l.length = n + 1
  on : AllOn l
  free : ∀ i, k ≤ i → i < n + 1 → (ndAt l i).has = false
  got : ∀ i, i < n + 1 → (ndAt l i).got = []
  cn : cnt l = m
theorem nd_set {l : List Nd} {k i : Nat} {x : Nd} (h : k < l.length) (hi : i < l.length) : ndAt (l.set k x) i = if k = i then x else ndAt l i := by
  rw [← nd_get (by simpa using hi), List.getElem_set, ← nd_get hi]
theorem SubI.start (n : Nat) : SubI n 0 0 (onL (n + 1) (n + 1)) := by
  refine ⟨onL_len _ _, fun i hi => ?_, fun i _ hi => ?_, fun i hi => ?_, ?_⟩
  · rw [onL_len] at hi; rw [onL_full _ _ hi]; exact onN_on
  · rw [onL_full _ _ hi]; rfl
  · rw [onL_full _ _ hi]; rfl
  · unfold cnt
    rw [List.countP_eq_zero]
    intro x hx
    obtain ⟨i, hi, rfl⟩ := List.getElem_of_mem hx
    rw [onL_len] at hi
    rw [nd_get (by rw [onL_len]; exact hi), onL_full _ _ hi]
    simp [onN, Nd.nul]
theorem SubI.err {n k m : Nat} {l : List Nd} (h : SubI n k m l) (hk : k < n) (f : Fr) : subE l k f = f.chk := by
  have hkl : k < l.length := by rw [h.len]; omega
  have ho := h.on k hkl
  unfold subE
  change (if f.chk = 0 then (if (ndAt l k).pw && !(ndAt l k).u.off then (if (ndAt l k).has then 31 else 0) else 30) else f.chk) = f.chk
  have ht : ((ndAt l k).pw && !(ndAt l k).u.off) = true := ho.tp
  rw [ht, h.free k (Nat.le_refl _) (by omega)]
  by_cases hc : f.chk = 0
  · rw [if_pos hc, hc]; rfl
  · rw [if_neg hc]
theorem plain_chk (f : Fr) : f.plain.chk = f.chk := rfl
theorem SubI.good {n k m : Nat} {l : List Nd} (h : SubI n k m l) (hk : k < n) (f : Fr) (hf : f.chk = 0) : SubI n (k + 1) (m + 1) (subL l k f) := by
  have hkl : k < l.length := by rw [h.len]; omega
  have e : subL l k f = l.set k { ndAt l k with f := f.plain, has := true } := by
    unfold subL; rw [h.err hk f, if_pos hf]; rfl
  rw [e]
  refine ⟨by rw [List.length_set]; exact h.len, fun i hi => ?_, fun i h1 h2 => ?_, fun i hi => ?_, ?_⟩
  · rw [List.length_set] at hi
    rw [nd_set hkl hi]
    by_cases e : k = i
    · rw [if_pos e]
      have ho := h.on k hkl
      exact ⟨ho.pw, ho.u, ho.g64, fun _ => by rw [plain_chk]; exact hf⟩
    · rw [if_neg e]; exact h.on i hi
  · rw [nd_set hkl (by rw [h.len]; exact h2), if_neg (by omega)]; exact h.free i (by omega) h2
  · rw [nd_set hkl (by rw [h.len]; exact hi)]
    by_cases e : k = i
    · rw [if_pos e]; exact h.got k (by omega)
    · rw [if_neg e]; exact h.got i hi
  · unfold cnt
    have hc := List.countP_set (p := fun n : Nd => n.has) (l := l) (i := k) (a := { ndAt l k with f := f.plain, has := true }) hkl
    rw [hc]
    have h0 : l[k].has = false := by rw [nd_get hkl]; exact h.free k (Nat.le_refl _) (by omega)
    have := h.cn
    unfold cnt at this
    simp [h0, this]
theorem SubI.bad {n k m : Nat} {l : List Nd} (h : SubI n k m l) (hk : k < n) (f : Fr) (hf : f.chk ≠ 0) : SubI n (k + 1) m (subL l k f) := by
  have e : subL l k f = l := by unfold subL; rw [h.err hk f, if_neg hf]
  rw [e]
  exact ⟨h.len, h.on, fun i h1 h2 => h.free i (by omega) h2, h.got, h.cn⟩
/-- While they are sent: r of them are left, all behind what came last. -/
structure EndI (n r : Nat) (l : List Nd) (gs : List Fr) : Prop where
  len : l.length = n + 1
  on : AllOn l
  last : (ndAt l n).has = false ∧ (ndAt l n).got = []
  cn : cnt l = r
  chk : ∀ f ∈ gs, f.chk = 0
  up : ∀ f, gs.getLast? = some f → ∀ i, i < n + 1 → (ndAt l i).has = true → f.field ≤ (ndAt l i).f.field
  sort : ∀ i (h : i + 1 < gs.length), (gs[i]'(by omega)).field ≤ gs[i + 1].field
theorem SubI.toEnd {n m : Nat} {l : List Nd} (h : SubI n n m l) : EndI n m l [] :=
  ⟨h.len, h.on, ⟨h.free n (Nat.le_refl _) (by omega), h.got n (by omega)⟩, h.cn, by simp, by simp, by simp⟩
theorem cnt_pos {l : List Nd} (h : 0 < cnt l) : ∃ i, i < l.length ∧ (ndAt l i).has = true := by
  unfold cnt at h
  obtain ⟨x, hx, hh⟩ := List.countP_pos_iff.1 h
  obtain ⟨i, hi, rfl⟩ := List.getElem_of_mem hx
  exact ⟨i, hi, by rw [← nd_get hi]; simpa using hh⟩
theorem cnt_zero {l : List Nd} (h : cnt l = 0) : ∀ i, i < l.length → (ndAt l i).has = false := by
  intro i hi
  unfold cnt at h
  rw [List.countP_eq_zero] at h
  have := h l[i] (List.getElem_mem hi)
  rw [nd_get hi] at this
  simpa using this
theorem endS_nd {l : List Nd} {wn i : Nat} (h : i < l.length) : ndAt (endS l wn) i = endN (ndAt l wn).f wn i (ndAt l i) := by
  have h' : i < (endS l wn).length := by simpa [endS] using h
  rw [← nd_get h', ← nd_get h]
  simp [endS]
theorem endS_cnt {l : List Nd} {wn : Nat} (h : wn < l.length) (hh : (ndAt l wn).has = true) : cnt (endS l wn) + 1 = cnt l := by
  have e : (endS l wn).map (·.has) = (l.map (·.has)).set wn false := by
    apply List.ext_getElem
    · simp [endS]
    · intro i h1 h2
      simp [endS] at h1
      rw [List.getElem_map, List.getElem_set]
      have h1' : i < (endS l wn).length := by simpa [endS] using h1
      rw [nd_get h1', endS_nd h1]
      unfold endN
      by_cases e : i = wn
      · rw [if_pos e, if_pos e.symm]
      · rw [if_neg e, if_neg (fun x => e x.symm), List.getElem_map, nd_get h1]
  have c1 : cnt (endS l wn) = ((endS l wn).map (·.has)).countP id := by unfold cnt; rw [List.countP_map]; rfl
  have c2 : cnt l = (l.map (·.has)).countP id := by unfold cnt; rw [List.countP_map]; rfl
  have hb : (l.map (·.has))[wn]'(by simpa using h) = true := by rw [List.getElem_map, nd_get h]; exact hh
  have hp : 0 < (l.map (·.has)).countP id := List.countP_pos_iff.2 ⟨true, by rw [← hb]; exact List.getElem_mem _, rfl⟩
  have hx := List.countP_set (p := id) (l := l.map (·.has)) (i := wn) (a := false) (by simpa using h)
  rw [hb] at hx
  have e3 : (if id true = true then 1 else 0 : Nat) = 1 := rfl
  have e4 : (if id false = true then 1 else 0 : Nat) = 0 := rfl
  rw [e3, e4] at hx
  rw [c1, e, hx, c2]
  omega
theorem tk_len (g : List Fr) (f : Fr) (h : g.length ≤ 64) : (tk g f).length ≤ 64 := by
  unfold tk
  split
  · rw [List.length_append, List.length_singleton]; omega
  · exact h
theorem EndI.step {n r : Nat} {l : List Nd} {gs : List Fr} (h : EndI n (r + 1) l gs) (h1 : 1 ≤ n) (h2 : n ≤ 100) :
    stepE l [] = 0 ∧ (stepR l []).sent = true ∧ ∃ f : Fr, (stepL l []).length = n + 1 ∧ (ndAt (stepL l []) n).got = [f] ∧ NdsOk (stepL l []) ∧ EndI n r ((stepL l []).set n { ndAt (stepL l []) n with got := [] }) (gs ++ [f]) := by
  have hl := h.len
  obtain ⟨e1, e2, wn, w1, w2, w3, w4, w5⟩ := ends_step h.on (by omega) (by omega) (cnt_pos (by rw [h.cn]; omega))
  rw [hl] at w1 w4
  have hnw : n ≠ wn := fun e => by rw [← e, h.last.1] at w2; cases w2
  have len5 : (stepL l []).length = n + 1 := by rw [w5]; simp [endS, hl]
  have nd5 : ∀ i, i < n + 1 → ndAt (stepL l []) i = endN (ndAt l wn).f wn i (ndAt l i) := fun i hi => by rw [w5, endS_nd (by omega)]
  have hgot : (ndAt (stepL l []) n).got = [(ndAt l wn).f] := by
    rw [nd5 n (by omega)]; unfold endN; rw [if_neg hnw]; simp only; rw [h.last.2]; rfl
  have on5 : ∀ i, i < n + 1 → On (ndAt (stepL l []) i) := by
    intro i hi
    rw [nd5 i hi]
    have ho := h.on i (by omega)
    unfold endN
    split
    · exact ⟨ho.pw, ho.u, ho.g64, fun h => by cases h⟩
    · exact ⟨ho.pw, ho.u, tk_len _ _ ho.g64, ho.chk⟩
  refine ⟨e1, e2, (ndAt l wn).f, len5, hgot, fun i hi => ?_, ?_⟩
  · rw [nd_get hi]
    rw [len5] at hi
    have ho := on5 i hi
    exact ⟨by rw [ho.u]; exact Un.ok_nul, ho.g64⟩
  · have hns : n < (stepL l []).length := by omega
    have ndS : ∀ i, i < n + 1 → ndAt ((stepL l []).set n { ndAt (stepL l []) n with got := [] }) i = if n = i then { ndAt (stepL l []) n with got := [] } else ndAt (stepL l []) i := fun i hi => nd_set hns (by omega)
    have hasS : ∀ i, i < n + 1 → (ndAt ((stepL l []).set n { ndAt (stepL l []) n with got := [] }) i).has = true → i ≠ wn ∧ (ndAt l i).has = true ∧ (ndAt ((stepL l []).set n { ndAt (stepL l []) n with got := [] }) i).f = (ndAt l i).f := by
      intro i hi hh
      have e : (ndAt ((stepL l []).set n { ndAt (stepL l []) n with got := [] }) i).has = (ndAt (stepL l []) i).has ∧ (ndAt ((stepL l []).set n { ndAt (stepL l []) n with got := [] }) i).f = (ndAt (stepL l []) i).f := by
        rw [ndS i hi]
        by_cases e : n = i
        · rw [if_pos e, e]; exact ⟨rfl, rfl⟩
        · rw [if_neg e]; exact ⟨rfl, rfl⟩
      rw [e.1, nd5 i hi] at hh
      rw [e.2, nd5 i hi]
      unfold endN at hh ⊢
      by_cases ew : i = wn
      · rw [if_pos ew] at hh; cases hh
      · rw [if_neg ew] at hh ⊢; exact ⟨ew, hh, rfl⟩
    refine ⟨by rw [List.length_set]; exact len5, fun i hi => ?_, ?_, ?_, ?_, ?_, ?_⟩
    · rw [List.length_set, len5] at hi
      rw [ndS i hi]
      by_cases e : n = i
      · rw [if_pos e]
        have ho := on5 n (by omega)
        exact ⟨ho.pw, ho.u, by simp, ho.chk⟩
      · rw [if_neg e]; exact on5 i hi
    · rw [ndS n (by omega), if_pos rfl]
      refine ⟨?_, rfl⟩
      show (ndAt (stepL l []) n).has = false
      rw [nd5 n (by omega)]; unfold endN; rw [if_neg hnw]; exact h.last.1
    · have hc := List.countP_set (p := fun n : Nd => n.has) (l := stepL l []) (i := n) (a := { ndAt (stepL l []) n with got := [] }) hns
      unfold cnt
      rw [hc, nd_get hns]
      have hcs := endS_cnt (l := l) (by omega) w2
      rw [← w5, h.cn] at hcs
      have h0 : (ndAt (stepL l []) n).has = false := by rw [nd5 n (by omega)]; unfold endN; rw [if_neg hnw]; exact h.last.1
      unfold cnt at hcs
      simp [h0]
      omega
    · intro f hf
      rcases List.mem_append.1 hf with hf | hf
      · exact h.chk f hf
      · rw [List.mem_singleton] at hf; subst hf; exact (h.on wn (by omega)).chk w2
    · intro f hf i hi hh
      simp at hf
      subst hf
      obtain ⟨_, q2, q3⟩ := hasS i hi hh
      rw [q3]
      exact w4 i hi q2
    · intro i hi
      simp only [List.length_append, List.length_singleton] at hi
      by_cases e : i + 1 < gs.length
      · rw [List.getElem_append_left (by omega), List.getElem_append_left e]; exact h.sort i e
      · have ei : i + 1 = gs.length := by omega
        rw [List.getElem_append_left (by omega), List.getElem_append_right (by omega)]
        simp only [ei, Nat.sub_self, List.getElem_singleton]
        refine h.up _ ?_ wn w1 w2
        rw [List.getLast?_eq_getElem?, List.getElem?_eq_getElem (by omega)]
        congr 2; omega
theorem EndI.over {n : Nat} {l : List Nd} {gs : List Fr} (h : EndI n 0 l gs) (h2 : n ≤ 100) : stepE l [] = 0 ∧ (stepR l []).win = -1 := ends_none h.on (by rw [h.len]; omega) (cnt_zero h.cn)
theorem AllOn.ok {l : List Nd} (h : AllOn l) : NdsOk l := fun i hi => by
  have ho := h i hi
  rw [nd_get hi]
  exact ⟨by rw [ho.u]; exact Un.ok_nul, ho.g64⟩
end Go.Proofs.Ytlghjfomliappaa
namespace Go.Proofs.Ytlghjfomliappaa
open Go.RowKit Go.Proofs.Bits
set_option linter.unusedVariables false
set_option maxRecDepth 1000000

/-- A frame whose bytes from n on up to k are 0. -/
def Fr.hole (f : Fr) (n k : Nat) (hk : n ≤ k ∧ k ≤ 8) : Fr := { f with data := f.data.take n ++ List.replicate (k - n) 0 ++ f.data.drop k, hdata := by simp [f.hdata]; omega }
theorem hole_full (f : Fr) (n : Nat) (hn : n ≤ 8) : f.hole n 8 ⟨hn, Nat.le_refl _⟩ = f.cut n hn := by
  simp only [Fr.hole, Fr.cut, Fr.mk.injEq, true_and]
  rw [List.drop_eq_nil_of_le (by rw [f.hdata]; omega), List.append_nil]
theorem hole_none (f : Fr) (n : Nat) (hn : n ≤ 8) : f.hole n n ⟨Nat.le_refl _, hn⟩ = f := by
  obtain ⟨id, ext, rem, len, data, h1, h2, h3⟩ := f
  simp [Fr.hole]
theorem hole_arr (f : Fr) (n k : Nat) (hk : n ≤ k ∧ k ≤ 8) (h8 : k < 8) : (f.hole n k hk).arr.setIfInBounds (4 + k) (.int .u8 0) = (f.hole n (k + 1) ⟨by omega, by omega⟩).arr := by
  obtain ⟨id, ext, rem, len, data, h1, h2, h3⟩ := f
  simp only [Fr.hole, Fr.arr, Fr.cells, List.setIfInBounds_toArray]
  congr 1
  rw [show 4 + k = k + 1 + 1 + 1 + 1 by omega]
  simp only [List.cons_append, List.nil_append, List.set_cons_succ]
  congr 4
  have hd : data.drop k = data[k]'(by omega) :: data.drop (k + 1) := List.drop_eq_getElem_cons (by omega)
  have e0 : (Value.int IntKind.u8 0) = (fun c : UInt8 => Value.int .u8 (c.toNat : Int)) 0 := rfl
  rw [hd, show k + 1 - n = (k - n) + 1 by omega, List.replicate_succ', e0, ← List.map_set]
  congr 1
  rw [List.set_append_right _ _ (by simp; omega)]
  simp [h3]
  rw [show k - (min n 8 + (k - n)) = 0 by omega, hd]
  rfl
theorem Fa.holes {q : Nat} {f : Fr} {w : World} {n k : Nat} {hk : n ≤ k ∧ k ≤ 8} (h : Fa q (f.hole n k hk) w) (h8 : k < 8) : Fa q (f.hole n (k + 1) ⟨by omega, by omega⟩) (w.setCell ⟨q, 4 + k, none⟩ (.int .u8 0)) := by
  unfold Fa
  rw [h.set, hole_arr f n k hk h8]

set_option maxHeartbeats 4000000 in
theorem r2Plain_any (f : Fr) (w : World) :
    Calls Try.prog 15 #[f.val] w fun e w' => e = .returned f.plain.val ∧ Below w.heap.size w w' := by
  have fA : Fa w.heap.size f ((w.alloc (.cells f.arr 38)).alloc (.cells Fr.nul.arr 38)) := (Fa.new w f).alloc _
  have fB : Fa (w.heap.size + 1) Fr.nul ((w.alloc (.cells f.arr 38)).alloc (.cells Fr.nul.arr 38)) := by
    have := Fa.new (w.alloc (.cells f.arr 38)) Fr.nul
    rw [size_alloc] at this
    exact this
  have bA : Below w.heap.size w ((w.alloc (.cells f.arr 38)).alloc (.cells Fr.nul.arr 38)) := ((Below.refl _ _).alloc (Nat.le_refl _) _).alloc (by rw [size_alloc]; omega) _
  have sA : ((w.alloc (.cells f.arr 38)).alloc (.cells Fr.nul.arr 38)).heap.size = w.heap.size + 2 := by rw [size_alloc, size_alloc]
  have hbl := f.bytes_le
  have HP : Hid (∀ h, f.plain = f.cut f.bytes h) := fun _ => rfl
  unfold Fr.val
  go_enter Try.func15, Try.ntmps15
  go_wp2_with (refine fA.ld rfl _ rfl rfl ?_)
  change Calls Try.prog 34 _ ((w.alloc (.cells f.arr 38)).alloc (.cells Fr.nul.arr 38)) _
  generalize ((w.alloc (.cells f.arr 38)).alloc (.cells Fr.nul.arr 38)) = A at *
  refine (r2Bytes_any f _).mono ?_
  rintro e w1 ⟨rfl, b1⟩
  have f1 : Fa w.heap.size f w1 := (b1.block _ (by omega)).trans fA
  have g1 : Fa (w.heap.size + 1) Fr.nul w1 := (b1.block _ (by omega)).trans fB
  have B1 := bA.trans (b1.mono (by omega))
  have s1 := b1.size
  generalize hn : f.bytes = n at *
  generalize hq : w.heap.size = q at *
  clear fA fB bA b1
  go_wp2_with fail
  go_loopw [3] (fun i wr => ∃ (k : Nat) (hk : n ≤ k ∧ k ≤ 8), i = .int .i64 k ∧ Fa q (f.hole n k hk) wr ∧ Fa (q + 1) Fr.nul wr ∧ Below q w wr ∧ q + 1 < wr.heap.size) (fun i _ => 8 - (intOf i).toNat)
  case atStart => exact ⟨n, ⟨Nat.le_refl _, hbl⟩, rfl, by rw [hole_none f n hbl]; exact f1, g1, B1, by omega⟩
  case round =>
    obtain ⟨k, hk, rfl, f2, g2, B2, l2⟩ := hrel
    clear f1 g1 B1
    by_cases hk8 : k < 8
    · have f3 := f2.holes hk8
      have cD : wr.cell? ⟨q, 4 + k, none⟩ = some _ := (Lib.cell_of_heap f2 (4 + k)).trans ((f.hole n k hk).arrD k hk8)
      have zD := f2.frozen (4 + k)
      have g3 := g2.other (p := ⟨q, 4 + k, none⟩) (by simp) (.int .u8 0)
      have B3 := B2.setCell (p := ⟨q, 4 + k, none⟩) (Nat.le_refl q) (.int .u8 0)
      have l3 : q + 1 < (wr.setCell ⟨q, 4 + k, none⟩ (.int .u8 0)).heap.size := g3.lt
      clear f2 g2 B2
      go_wp2
      go_roundw
      case rel => exact ⟨k + 1, ⟨by omega, by omega⟩, by go_num, f3, g3, B3, l3⟩
      case measure => simp [intOf]; omega
    · obtain rfl : k = 8 := by omega
      rw [hole_full f n hbl] at f2
      have D3 := g2.row (f.cut n hbl)
      have B3 := below_row (q := q + 1) B2 (by omega) (by omega) (f.cut n hbl).arr
      go_wp2_with (first | refine f2.ld rfl _ rfl rfl ?_ | refine g2.sd (f.cut n hbl) rfl _ _ rfl rfl rfl ?_)
      refine bodyPost_ret (v := .agg (f.cut n hbl).arr) (results_cell_row rfl _ _ (q + 1) 38 (f.cut n hbl).arr (0, 0) _ rfl D3 Try.underlying38 rfl (by rw [(f.cut n hbl).arr_size]; exact infoF)) rfl ⟨by rw [HP.out hbl], by rw [hq]; exact B3⟩
end Go.Proofs.Ytlghjfomliappaa
namespace Go.Proofs.Ytlghjfomliappaa
open Go.RowKit Go.Proofs.Bits
set_option linter.unusedVariables false
set_option maxRecDepth 1000000

structure LI (w : World) (b nb : Nat) (ρ : Nat → Ro) (t : Int) (l : List Nd) (x : World) : Prop where
  bus : BusAt b nb ρ t l x
  bel : Below w.heap.size w x
  low : ∀ k, k < w.heap.size → ρ k = .no
  tt : 0 ≤ t ∧ t < 18446744073709551616
structure OwnR (w : World) (ρ : Nat → Ro) (x : World) (v : Value) (xs : List Fr) : Prop where
  own : x.ownsRow 0 38 12 v xs.length (flatW DF xs)
  no : ∀ k, v.ownBlock = some k → ρ k = .no ∧ w.heap.size ≤ k
section
variable {w : World} {b nb : Nat} {ρ : Nat → Ro} {t : Int} {l : List Nd} {x : World}
theorem LI.below (h : LI w b nb ρ t l x) {y : World} (hb : Below x.heap.size x y) : LI w b nb ρ t l y := ⟨h.bus.below hb, h.bel.trans (hb.mono h.bel.size), h.low, h.tt⟩
theorem LI.op (h : LI w b nb ρ t l x) {ρ' : Nat → Ro} {t' : Int} {l' : List Nd} {y : World} (hb : BusAt b nb ρ' t' l' y) (X : Ext ρ ρ' x y) (ht : 0 ≤ t' ∧ t' < 18446744073709551616) : LI w b nb ρ' t' l' y :=
  ⟨hb, h.bel.trans (X.toBelow h.bel.size h.low), fun k hk => (X.same k (Nat.lt_of_lt_of_le hk h.bel.size)).trans (h.low k hk), ht⟩
theorem OwnR.below {v : Value} {xs : List Fr} (h : OwnR w ρ x v xs) {y : World} (hb : Below x.heap.size x y) : OwnR w ρ y v xs := ⟨own_below h.own hb, h.no⟩
theorem OwnR.ext {v : Value} {xs : List Fr} (h : OwnR w ρ x v xs) {ρ' : Nat → Ro} {y : World} (X : Ext ρ ρ' x y) : OwnR w ρ' y v xs :=
  ⟨own_at h.own fun g hg => X.keep g (own_block_lt h.own hg).2.1 (h.no g hg).1, fun k hk => ⟨(X.same k (own_block_lt h.own hk).2.1).trans (h.no k hk).1, (h.no k hk).2⟩⟩
theorem LI.rz (h : LI w b nb ρ t l x) {k : Nat} (hk : x.heap.size ≤ k) : ρ k = .no := by
  obtain ⟨G, V, hh⟩ := h.bus
  exact hh.rz k hk
theorem OwnR.new (h : LI w b nb ρ t l x) : OwnR w ρ (x.alloc (.cells #[] 38)) (.slice (some ⟨x.heap.size, 0, none⟩) 0 0) [] := by
  obtain ⟨q1, q2⟩ := own_empty_e x 38 12
  refine ⟨⟨q1, ?_⟩, fun k hk => ?_⟩
  · rcases q2 with q2 | ⟨g, cap, cur, e, hg, r⟩
    · exact .inl q2
    · exact .inr ⟨g, cap, cur, e, by omega, r⟩
  · cases hk; exact ⟨h.rz (Nat.le_refl _), h.bel.size⟩
theorem OwnR.frames {v : Value} {xs : List Fr} (h : OwnR w ρ x v xs) : Frames x v xs := wide_of_own DF h.own
theorem append_law {X : World} {v : Value} {xs : List Fr} {ops : Array Oper} {rest : List Oper} {o : Oper} {a : Act} {Q : Exit → Act → World → Prop} (h : LI w b nb ρ t l X) (r : OwnR w ρ X v xs) (hlen : xs.length ≤ 1000) (f : Fr) (ad : Nat) (had : X.heap[ad]? = some (.cells f.arr 38 (0, 0))) (hgd : o.guard = none) (s y : Operand)
    (ho : o.op = .call { callee := .builtin .append, args := #[s, y], argTypes := #[42, 42] }) (hs : a.eval s = v) (hy : a.eval y = .slice (some ⟨ad, 0, none⟩) 1 1)
    (k : ∀ v' w', LI w b nb ρ t l w' → OwnR w ρ w' v' (xs ++ [f]) → wpList Try.prog ops Q rest (a.put o.dst v') w') : wpList Try.prog ops Q (o :: rest) a X := by
  obtain ⟨i0, hi, hz0, hz1, hz2⟩ := info_parts infoFZ
  refine wpList_append_own_at X hgd s y 42 ho 0 38 i0 _ 12 24 Try.underlying42 hi hz0 hz1 hz2 rfl (by omega) v xs.length (flatW DF xs) hs r.own ⟨ad, 0, none⟩ 1 1 f.cells hy (by rw [frc_len]) ?_ (DF.one f) (by unfold maxLen; omega) (by omega) (by omega) ?_
  · intro j u hj
    rw [add_off, Nat.zero_add, Lib.cell_of_heap had]
    simpa [Fr.arr] using hj
  · intro v' w' h1 h2 h3 h4
    refine k v' w' ⟨?_, h.bel.grown h2 h.bel.size (fun j hj => (r.no j hj).2), h.low, h.tt⟩ ⟨?_, fun j hj => ?_⟩
    · exact h.bus.kept h2.size fun j hj hr => h2.block j hj (fun e => hr ((r.no j e.symm).1))
    · have e : flatW DF (xs ++ [f]) = flatW DF xs ++ f.cells := by rw [flatW_append]; simp [flatW, DF]
      rw [List.length_append, List.length_singleton, e]
      exact h1
    · rcases h4 with h4 | h4
      · exact r.no j (by rw [← h4]; exact hj)
      · rw [h4] at hj
        cases hj
        exact ⟨h.rz (Nat.le_refl _), h.bel.size⟩
end
theorem tAdd_ok (t z : Int) : 0 ≤ tAdd t z ∧ tAdd t z < 18446744073709551616 := by
  unfold tAdd; rw [IntKind.wrap_u64]; omega
theorem wide_take {w : World} {ao : Option Addr} {cap n : Nat} {fs : List Fr} (h : Frames w (.slice ao fs.length cap) fs) (hn : n < fs.length) : Frames w (.slice ao (fs.take n).length cap) (fs.take n) := by
  obtain ⟨ao', cap', hv, h0, hc⟩ := h
  injection hv with e1 e2 e3
  subst e1 e3
  refine ⟨ao, cap, rfl, fun e => ?_, fun k hk => ?_⟩
  · have := (h0 e).1; subst this; simp at hn
  · have hk' : k < fs.length := by simp at hk; omega
    obtain ⟨b, off, r1, r2, r3⟩ := hc k hk'
    exact ⟨b, off, r1, r2, by rw [List.getElem_take]; exact r3⟩
end Go.Proofs.Ytlghjfomliappaa
