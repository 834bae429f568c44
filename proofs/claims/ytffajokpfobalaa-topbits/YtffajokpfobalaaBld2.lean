/- Contracts of strings.Builder's WriteString and String, where the Builder is a part of a greater variable. -/
import Derived.Test.YtffajokpfobalaaBld
import Derived.Shelf.RegionOpenPlain
namespace Go.Proofs.Ytffajokpfobalaa
open Go.RowKit Go.Proofs.Bits
set_option linter.unusedVariables false
set_option maxRecDepth 1000000

section
variable {T : TypeId} {off B g : Nat} {cs : Array Value} {l : List UInt8} {w : World}

set_option maxHeartbeats 2000000 in
set_option maxRecDepth 100000 in
theorem bWriteString (s : List UInt8) (h : Bld T off B g cs l w) (hT : T ≠ 5) (hlies : liesAt Try.prog Try.prog.depth T (cs.size / Try.prog.cellsOf T) off 48 1 = true) (hlen : l.length + s.length ≤ 140737488355328) :
    Calls Try.prog 17 #[.pointer (some ⟨g, off, none⟩), .string ⟨s.toArray⟩] w fun e w' => e = .returned (.tuple #[.int .i64 s.length, .nilIface]) ∧ (∃ v', Bld T off B g (put cs off g v') (l ++ s) w') ∧ Below B w w' ∧ Lib.OthersKept 5 (some g) w w' := by
  obtain ⟨i0, hi, hz0, hz1, hz2⟩ := info_parts binfo5
  have hBw : B ≤ w.heap.size := Nat.le_trans h.1 (Nat.le_of_lt h.lt)
  have hs := h.size
  have hsz : (⟨s.toArray⟩ : ByteArray).size = s.length := by simp [ByteArray.size]
  have hcl : Lib.strCells ⟨s.toArray⟩ = Lib.byteCells s := rfl
  generalize hS : (⟨s.toArray⟩ : ByteArray) = S at *
  go_enter Try.func17, Try.ntmps17
  go_wp2_with (go_at_call 33; refine (bcopyCheck_k h hT hlies).mono ?_)
  rintro e w1 ⟨rfl, h1, hb1, hk1⟩
  obtain ⟨hB, hbk, hp, v, hv, hown⟩ := h1
  have hne := Lib.ownBlock_neF hown hbk hT
  have c1 : w1.cell? ⟨g, off + 1, none⟩ = some v := by rw [Lib.cell_of_heap hbk]; exact hv
  go_wp2_with (at_builtin; refine Lib.wpList_append_own_stringF _ rfl _ _ 27 9 rfl B 5 i0 Try.underlying27 Try.underlying9 hi hz0 hz1 hz2 _ _ _ rfl hown S rfl ?c3 ?c4 ?c5 ?_)
  case c3 => unfold maxLen; omega
  case c4 => omega
  case c5 => have := hb1.size; omega
  intro v' w2 hown' hgrow _
  have hlt : g < w1.heap.size := (Array.getElem?_eq_some_iff.1 hbk).1
  have hb2 : w2.heap[g]? = some (.cells (cs.setIfInBounds off (.pointer (some ⟨g, off, none⟩))) T (0, 0)) := by
    rw [hgrow.block g hlt (fun e => hne e.symm)]
    exact hbk
  have d1 : w2.cell? ⟨g, off + 1, none⟩ = some v := by rw [Lib.cell_of_heap hb2]; exact hv
  have f1 : w2.frozen? ⟨g, off + 1, none⟩ = false := Lib.frozen_of_heap hb2 (off + 1)
  obtain ⟨ao, n', cap, rfl⟩ : ∃ ao n' cap, v' = .slice ao n' cap := by
    rcases hown'.2 with ⟨hv, _⟩ | ⟨g, cap, cur, fz, hv, _⟩
    · exact ⟨_, _, _, hv⟩
    · exact ⟨_, _, _, hv⟩
  have hown2 : w2.ownsRowF B 5 1 (.slice ao n' cap) (l ++ s).length (Lib.byteCells (l ++ s)) := by
    rw [Lib.byteCells_append, List.length_append]
    exact hown'
  have H : Hid ((⟨s.toArray⟩ : ByteArray) = S) := hS
  clear hS hcl hown'
  go_wp2
  go_ret2
  exact ⟨rfl, ⟨_, Bld.put hB hb2 hs hown2 hT⟩, (hb1.grown hgrow (by have := hb1.size; omega) (fun k hk => (hown.lt k hk).1)).setCell (p := ⟨g, off + 1, none⟩) hB _, (hk1.grown hgrow (Lib.ownsRowF_kind hown)).setCell ⟨g, off + 1, none⟩ rfl _⟩

theorem owns_froze {g' cap : Nat} {xs : List Value} (hown : w.ownsRowF B 5 1 (.slice (some ⟨g', 0, none⟩) xs.length cap) xs.length xs) :
    (w.freeze ⟨g', 0, none⟩ xs.length).ownsRowF B 5 1 (.slice (some ⟨g', 0, none⟩) xs.length cap) xs.length xs := by
  unfold World.freeze
  split
  · exact hown
  · refine ⟨hown.1, ?_⟩
    rcases hown.2 with ⟨hv, _⟩ | ⟨g2, cap', cur, fz, hv, hbg, hg, hfz, rest⟩
    · cases hv
    · injection hv with ha _ hcap
      injection ha with ha
      injection ha with hgg _ _
      subst hgg
      subst hcap
      obtain ⟨lo, hi⟩ := fz
      refine .inr ⟨g', _, cur, (if lo == hi then (0, 0 + xs.length) else (min lo 0, max hi (0 + xs.length))), rfl, hbg, ?_, ?_, rest⟩
      · simp [Array.getElem?_modify, hg]
      · simp only at hfz
        split <;> simp <;> omega

theorem heap_freeze_other (g' n k : Nat) (h : k ≠ g') : (w.freeze ⟨g', 0, none⟩ n).heap[k]? = w.heap[k]? := by
  unfold World.freeze
  split
  · rfl
  · simp only [Array.getElem?_modify]
    rw [if_neg (fun e => h e.symm)]

set_option maxHeartbeats 2000000 in
set_option maxRecDepth 100000 in
theorem bString (h : Bld T off B g cs l w) (hT : T ≠ 5) (h0 : l ≠ []) :
    Calls Try.prog 16 #[.pointer (some ⟨g, off, none⟩)] w fun e w' => e = .returned (.string ⟨l.toArray⟩) ∧ Bld T off B g cs l w' ∧ Below B w w' ∧ Lib.OthersKept 5 (some g) w w' := by
  obtain ⟨hB, hbk, hp, v, hv, hown⟩ := h
  have hne := Lib.ownBlock_neF hown hbk hT
  have hl0 : l.length ≠ 0 := by simpa using h0
  have hown0 := hown
  obtain ⟨g', cap, cur, fz, rfl, hbg, hg, hfz, hnc, hcm, hcs, htake⟩ : ∃ g' cap cur fz, v = .slice (some ⟨g', 0, none⟩) l.length cap ∧ B ≤ g' ∧ w.heap[g']? = some (.cells cur 5 fz) ∧ fz.2 ≤ l.length * 1 ∧ l.length ≤ cap ∧ cap ≤ maxLen ∧ cur.size = cap * 1 ∧ cur.toList.take (l.length * 1) = Lib.byteCells l := by
    rcases hown.2 with ⟨_, hz⟩ | ⟨g', cap, cur, fz, hv, r⟩
    · exact absurd hz hl0
    · exact ⟨g', cap, cur, fz, hv, r⟩
  have c1 : w.drew.cell? ⟨g, off + 1, none⟩ = some (.slice (some ⟨g', 0, none⟩) l.length cap) := by
    have : w.drew.heap[g]? = some (.cells cs T (0, 0)) := hbk
    rw [Lib.cell_of_heap this]; exact hv
  have c0 : w.cell? ⟨g, off + 1, none⟩ = some (.slice (some ⟨g', 0, none⟩) l.length cap) := c1
  have hSD : (Builtin.unsafeSliceData_ #[27] 80 #[.slice (some ⟨g', 0, none⟩) l.length cap]).run Try.prog w.drew = .ok (.pointer (some ⟨g', 0, none⟩)) w.drew :=
    Lib.run_unsafeSliceData_row _ _ _ _ _ _ (by omega)
  have hUS : (Builtin.unsafeString_ #[80, 3] 9 #[.pointer (some ⟨g', 0, none⟩), .int .i64 l.length]).run Try.prog w.drew = .ok (.string ⟨l.toArray⟩) (w.drew.freeze ⟨g', 0, none⟩ l.length) := by
    refine Lib.run_unsafeString_row w.drew 80 3 9 5 Try.underlying80 bcells5 g' cur.size (by have hg' : w.drew.heap[g']? = some (.cells cur 5 fz) := hg; simp [World.shape?, hg']) l h0 (by omega) (by unfold maxLen at hcm; omega) ?_
    intro j x hx
    have := hown.cells (g := g') rfl j (.int .u8 x.toNat) (by simp [Lib.byteCells, hx])
    exact this
  have hkeep : Bld T off B g cs l (w.drew.freeze ⟨g', 0, none⟩ l.length) := by
    refine ⟨hB, ?_, hp, _, hv, ?_⟩
    · rw [heap_freeze_other g' _ g (fun e => hne (by simp [Value.ownBlock, e]))]
      exact hbk
    · have := owns_froze (w := w.drew) (B := B) (g' := g') (cap := cap) (xs := Lib.byteCells l) (by rw [Lib.byteCells_length]; exact hown0)
      rw [Lib.byteCells_length] at this
      exact this
  have K : Hid (Bld T off B g cs l (w.drew.freeze ⟨g', 0, none⟩ l.length) ∧ Below B w (w.drew.freeze ⟨g', 0, none⟩ l.length) ∧ Lib.OthersKept 5 (some g) w (w.drew.freeze ⟨g', 0, none⟩ l.length)) :=
    ⟨hkeep, Lib.below_freeze (Below.drew (Below.refl B w)) (p := ⟨g', 0, none⟩) hbg _, ((Lib.OthersKept.refl _ _ w).drew).freeze ⟨g', 0, none⟩ _ ⟨cur, fz, hg⟩⟩
  clear hkeep hown hown0 htake hfz hv hp hbk
  have mixed : Try.prog.follows Departure.mixedOrders = true := by kernel_rfl
  go_enter Try.func16, Try.ntmps16
  go_wp2
  go_region_o
  all_goals (go_wp2; go_ret; exact ⟨rfl, K.out⟩)
end
end Go.Proofs.Ytffajokpfobalaa
