/- Contracts of strings.Builder's WriteByte, WriteString and String, where the Builder is a part of a greater variable. -/
import Derived.Test.YtffajokpfobalaaLook
import Derived.Lib.FrozenHead2
import Derived.Lib.OthersKept
import Derived.Lib.UnsafeStr
namespace Go.Proofs.Ytffajokpfobalaa
open Go.RowKit Go.Proofs.Bits
set_option linter.unusedVariables false
set_option maxRecDepth 1000000

theorem binfo5 : (Try.prog.info? 5).map (fun i => (i.zero, i.size, i.bytes)) = some (some (.int .u8 0), 1, 1) := by kernel_rfl
theorem bsizeB : (Try.prog.info? 48).map (fun i => i.size) = some 2 := by kernel_rfl
theorem bcells5 : Try.prog.cellsOf 5 = 1 := by kernel_rfl

/-- A variable of type T in block g, its cells cs; from its cell 'off' on lies a Builder that holds the bytes l. -/
def Bld (T : TypeId) (off B g : Nat) (cs : Array Value) (l : List UInt8) (w : World) : Prop :=
  B ≤ g ∧ w.heap[g]? = some (.cells cs T (0, 0)) ∧ (cs[off]? = some (.pointer none) ∨ cs[off]? = some (.pointer (some ⟨g, off, none⟩))) ∧
    ∃ v, cs[off + 1]? = some v ∧ w.ownsRowF B 5 1 v l.length (Lib.byteCells l)
def put (cs : Array Value) (off g : Nat) (v : Value) : Array Value := (cs.setIfInBounds off (.pointer (some ⟨g, off, none⟩))).setIfInBounds (off + 1) v

section
variable {T : TypeId} {off B g : Nat} {cs : Array Value} {l : List UInt8} {w : World}

theorem Bld.lt (h : Bld T off B g cs l w) : g < w.heap.size := (Array.getElem?_eq_some_iff.1 h.2.1).1
theorem Bld.size (h : Bld T off B g cs l w) : off + 1 < cs.size := by
  obtain ⟨_, _, _, v, hv, _⟩ := h
  exact (Array.getElem?_eq_some_iff.1 hv).1

set_option maxHeartbeats 1000000 in
set_option maxRecDepth 100000 in
theorem bcopyCheck_used (h0 : w.cell? ⟨g, off, none⟩ = some (.pointer (some ⟨g, off, none⟩))) :
    Calls Try.prog 33 #[.pointer (some ⟨g, off, none⟩)] w fun e w' => e = .returned (.tuple #[]) ∧ w' = w := by
  obtain ⟨j, hj, _⟩ := Option.map_eq_some_iff.1 bsizeB
  go_enter Try.func33, Try.ntmps33
  go_wp2
  rw [Lib.run_neq_ptr_same w _ Try.underlying46 hj]
  go_wp2
  go_end0
  exact ⟨rfl, rfl⟩

set_option maxHeartbeats 1000000 in
set_option maxRecDepth 100000 in
theorem bcopyCheck_fresh {n : Nat} (h0 : w.cell? ⟨g, off, none⟩ = some (.pointer none)) (hsh : w.shape? g = some (T, n)) (hn : off < n) (hfz : w.frozen? ⟨g, off, none⟩ = false)
    (hlies : liesAt Try.prog Try.prog.depth T (n / Try.prog.cellsOf T) off 48 1 = true) :
    Calls Try.prog 33 #[.pointer (some ⟨g, off, none⟩)] w fun e w' => e = .returned (.tuple #[]) ∧ w' = w.setCell ⟨g, off, none⟩ (.pointer (some ⟨g, off, none⟩)) := by
  obtain ⟨j, hj, hjs⟩ := Option.map_eq_some_iff.1 bsizeB
  go_enter Try.func33, Try.ntmps33
  go_wp2
  rw [Lib.run_to_unsafe w ⟨g, off, none⟩ Try.underlying46 Try.underlying88 hj (by rw [hjs]; decide) hsh hn]
  simp only [Result.andThen]
  rw [Oper.upon_value]
  go_wp2
  rw [run_callFunc_extern Try.func43 (by kernel_rfl) (by kernel_rfl) (by kernel_rfl) (e := Extern.AbiNoEscape.same) (by kernel_rfl)]
  rw [Lib.run_noEscape]
  simp only [Result.andThen]
  rw [Oper.upon_value]
  go_wp2
  rw [Lib.run_from_unsafe w ⟨g, off, none⟩ Try.underlying88 Try.underlying46 hj hsh hlies]
  simp only [Result.andThen]
  rw [Oper.upon_value]
  go_wp2
  go_end0
  exact ⟨rfl, rfl⟩

theorem bcopyCheck_k (h : Bld T off B g cs l w) (hT : T ≠ 5) (hlies : liesAt Try.prog Try.prog.depth T (cs.size / Try.prog.cellsOf T) off 48 1 = true) :
    Calls Try.prog 33 #[.pointer (some ⟨g, off, none⟩)] w fun e w' => e = .returned (.tuple #[]) ∧ (Bld T off B g (cs.setIfInBounds off (.pointer (some ⟨g, off, none⟩))) l w' ∧ Below B w w' ∧ Lib.OthersKept 5 (some g) w w') := by
  have hs := h.size
  obtain ⟨hB, hg, hp, v, hv, hown⟩ := h
  have hne := Lib.ownBlock_neF hown hg hT
  rcases hp with hp | hp
  · refine (bcopyCheck_fresh (T := T) (n := cs.size) (by rw [Lib.cell_of_heap hg]; exact hp) (by simp [World.shape?, hg]) (by omega) (Lib.frozen_of_heap hg off) hlies).mono ?_
    rintro e w' ⟨rfl, rfl⟩
    refine ⟨rfl, ⟨hB, ?_, ?_, v, ?_, ?_⟩, (Below.refl B w).setCell (p := ⟨g, off, none⟩) hB _, (Lib.OthersKept.refl _ _ w).setCell ⟨g, off, none⟩ rfl _⟩
    · simp [World.setCell, Array.getElem?_modify, hg]
    · right
      rw [Array.getElem?_setIfInBounds_self_of_lt (by omega)]
    · rw [Array.getElem?_setIfInBounds_ne (by omega)]; exact hv
    · exact hown.kept (row := some g) ⟨rfl, rfl, rfl, by simp [World.setCell], fun k _ hk => Below.heap_setCell _ _ _ _ (fun e => hk (by simp [e]))⟩ (Or.inr hne)
  · refine (bcopyCheck_used (by rw [Lib.cell_of_heap hg]; exact hp)).mono ?_
    rintro e w' ⟨rfl, rfl⟩
    have he : cs.setIfInBounds off (.pointer (some ⟨g, off, none⟩)) = cs := by
      apply Array.ext_getElem?
      intro i
      by_cases hi : off = i
      · subst hi; rw [Array.getElem?_setIfInBounds_self_of_lt (by omega)]; exact hp.symm
      · rw [Array.getElem?_setIfInBounds_ne hi]
    rw [he]
    exact ⟨rfl, ⟨hB, hg, .inr hp, v, hv, hown⟩, Below.refl B _, Lib.OthersKept.refl _ _ _⟩

theorem Bld.put {v' : Value} {l' : List UInt8} (hB : B ≤ g) (hg : w.heap[g]? = some (.cells (cs.setIfInBounds off (.pointer (some ⟨g, off, none⟩))) T (0, 0))) (hs : off + 1 < cs.size) (hown : w.ownsRowF B 5 1 v' l'.length (Lib.byteCells l')) (hT : T ≠ 5) :
    Bld T off B g (put cs off g v') l' (w.setCell ⟨g, off + 1, none⟩ v') := by
  have hne := Lib.ownBlock_neF hown hg hT
  refine ⟨hB, ?_, .inr ?_, v', ?_, ?_⟩
  · simp [World.setCell, Array.getElem?_modify, hg, Go.Proofs.Ytffajokpfobalaa.put]
  · unfold Go.Proofs.Ytffajokpfobalaa.put
    rw [Array.getElem?_setIfInBounds_ne (by omega), Array.getElem?_setIfInBounds_self_of_lt (by omega)]
  · unfold Go.Proofs.Ytffajokpfobalaa.put
    rw [Array.getElem?_setIfInBounds_self_of_lt (by simp; omega)]
  · exact hown.kept (row := some g) ⟨rfl, rfl, rfl, by simp [World.setCell], fun k _ hk => Below.heap_setCell _ _ _ _ (fun e => hk (by simp [e]))⟩ (Or.inr hne)

set_option maxHeartbeats 2000000 in
set_option maxRecDepth 100000 in
theorem bWriteByte (c : UInt8) (h : Bld T off B g cs l w) (hT : T ≠ 5) (hlies : liesAt Try.prog Try.prog.depth T (cs.size / Try.prog.cellsOf T) off 48 1 = true) (hlen : l.length + 1 ≤ 140737488355328) :
    Calls Try.prog 34 #[.pointer (some ⟨g, off, none⟩), .int .u8 c.toNat] w fun e w' => e = .returned .nilIface ∧ (∃ v', Bld T off B g (put cs off g v') (l ++ [c]) w') ∧ Below B w w' ∧ Lib.OthersKept 5 (some g) w w' := by
  obtain ⟨i0, hi, hz0, hz1, hz2⟩ := info_parts binfo5
  have hBw : B ≤ w.heap.size := Nat.le_trans h.1 (Nat.le_of_lt h.lt)
  have hs := h.size
  go_enter Try.func34, Try.ntmps34
  go_wp2_with (go_at_call 33; refine (bcopyCheck_k h hT hlies).mono ?_)
  rintro e w1 ⟨rfl, h1, hb1, hk1⟩
  obtain ⟨hB, hbk, hp, v, hv, hown⟩ := h1
  have hne := Lib.ownBlock_neF hown hbk hT
  have c1 : w1.cell? ⟨g, off + 1, none⟩ = some v := by rw [Lib.cell_of_heap hbk]; exact hv
  have c1 : w1.cell? ⟨g, 1 + off, none⟩ = some v := by rw [Nat.add_comm]; exact c1
  go_wp2_with (at_builtin; refine wpList_append_ownF _ rfl _ _ 27 rfl B 5 i0 (.int .u8 0) 1 1 Try.underlying27 hi hz0 hz1 hz2 rfl (by decide) _ _ _ rfl (hown.alloc _) ⟨w1.heap.size, 0, none⟩ 1 1 [.int .u8 c.toNat] rfl rfl ?c1 ?c2 ?c3 ?c4 ?c5 ?_)
  case c1 =>
    intro j u hj
    match j, hj with
    | 0, hj => simp at hj; subst hj; simp [Addr.add]
  case c2 => intro u hu; simp at hu; subst hu; rfl
  case c3 => unfold maxLen; omega
  case c4 => omega
  case c5 => have := hb1.size; simp; omega
  intro v' w2 hown' hgrow _
  have hlt : g < w1.heap.size := (Array.getElem?_eq_some_iff.1 hbk).1
  have hb2 : w2.heap[g]? = some (.cells (cs.setIfInBounds off (.pointer (some ⟨g, off, none⟩))) T (0, 0)) := by
    rw [hgrow.block g (by simp; omega) (fun e => hne e.symm), Lib.alloc_old w1 _ g hlt]
    exact hbk
  have d1 : w2.cell? ⟨g, off + 1, none⟩ = some v := by rw [Lib.cell_of_heap hb2]; exact hv
  have f1 : w2.frozen? ⟨g, off + 1, none⟩ = false := Lib.frozen_of_heap hb2 (off + 1)
  obtain ⟨g', cap, rfl⟩ : ∃ g' cap, v' = .slice (some ⟨g', 0, none⟩) (l.length + 1) cap := by
    rcases hown'.2 with ⟨_, h0⟩ | ⟨g', cap, cur, fz, hv, _⟩
    · omega
    · exact ⟨g', cap, hv⟩
  go_wp2
  go_ret
  have hown2 : w2.ownsRowF B 5 1 (.slice (some ⟨g', 0, none⟩) (l.length + 1) cap) (l ++ [c]).length (Lib.byteCells (l ++ [c])) := by
    rw [Lib.byteCells_append]
    simpa [Lib.byteCells] using hown'
  exact ⟨rfl, ⟨_, Bld.put hB hb2 hs hown2 hT⟩, ((hb1.alloc (by have := hb1.size; omega) _).grown hgrow (by have := hb1.size; simp; omega) (fun k hk => (hown.lt k hk).1)).setCell (p := ⟨g, off + 1, none⟩) hB _, ((hk1.alloc _).grown hgrow (Lib.ownsRowF_kind (hown.alloc _))).setCell ⟨g, off + 1, none⟩ rfl _⟩
end
end Go.Proofs.Ytffajokpfobalaa
