/- Items in order: what the library's sorting leaves. -/
import Derived.Test.YthalhidebkhclaaO5
import Derived.Shelf.SlSortCmp.Kit1
namespace Go.Proofs.Ythalhidebkhclaa
open Go.RowKit Go.Proofs.Ty Go.Sort Go.Lib
set_option linter.unusedVariables false
set_option maxRecDepth 1000000
set_option linter.unusedSimpArgs false
/-- Items of a row, as the library takes them. -/
abbrev Am (its : List Im) := {i : Im // i ∈ its}
def encA {its : List Im} (i : Am its) : Value := ptrI i.1.b
def arrA (its : List Im) : Array (Am its) := its.attach.toArray
theorem arrA_size (its : List Im) : (arrA its).size = its.length := by simp [arrA]
theorem one_encA {its : List Im} : OneCell (encA (its := its)) := fun _ => rfl
def cfA {its : List Im} (i j : Am its) : Int := cmpI i.1.e.pl j.1.e.pl
theorem cmpI_neg (x y : Int) : cmpI x y < 0 ↔ x < y := by
  unfold cmpI
  by_cases h1 : x < y
  · simp [h1]
  · by_cases h2 : y < x <;> simp [h1, h2]
theorem cmpI_zero (x y : Int) : cmpI x y = 0 ↔ x = y := by
  unfold cmpI
  by_cases h1 : x < y
  · simp [h1]; omega
  · by_cases h2 : y < x
    · simp [h1, h2]; omega
    · simp [h1, h2]; omega
theorem ltA {its : List Im} (i j : Am its) : ltOf cfA i j = decide (i.1.e.pl < j.1.e.pl) := by
  unfold ltOf cfA
  rw [Bool.eq_iff_iff]
  simp [cmpI_neg]
theorem swoA {its : List Im} : SWO (ltOf (cfA (its := its))) where
  irrefl x := by rw [ltA]; simp
  trans x y z h1 h2 := by rw [ltA] at *; simp at *; omega
  ntrans x y z h1 h2 := by rw [ltA] at *; simp at *; omega
theorem sortWorld_block {α : Type} [Inhabited α] (enc : α → Value) (w : World) (blk off m : Nat) (dk : Array α) (os : Array Obj) (b : Nat) (hb : b ≠ blk) (hl : b < w.heap.size) : (sortWorld enc w blk off m dk os).heap[b]? = w.heap[b]? := by
  unfold sortWorld
  rw [heap_grow_old]
  · simp only [putRow, mapBlock, Sort.ahead]
    simp [Array.getElem?_modify, Ne.symm hb]
  · simp only [putRow, mapBlock, Sort.ahead]
    simpa using hl
theorem sortWorld_size {α : Type} [Inhabited α] (enc : α → Value) (w : World) (blk off m : Nat) (dk : Array α) (os : Array Obj) : w.heap.size ≤ (sortWorld enc w blk off m dk os).heap.size := by
  simp [sortWorld, grow, putRow, mapBlock, Sort.ahead]
theorem sortWorld_row {its its' : List Im} [Inhabited (Am its)] (w : World) (R m : Nat) (dk : Array (Am its)) (os : Array Obj) (hR : w.heap[R]? = some (.cells (ptrs its).toArray 72 (0, 0))) (hd : dk.size = its.length) (he : its' = dk.toList.map (·.1)) :
    (sortWorld encA w R 0 m dk os).heap[R]? = some (.cells (ptrs its').toArray 72 (0, 0)) := by
  have hl := (Array.getElem?_eq_some_iff.1 hR).1
  unfold sortWorld
  rw [heap_grow_old]
  · simp only [putRow, mapBlock, Sort.ahead]
    simp only [Array.getElem?_modify, if_true, hR, Option.map_some]
    subst he
    have key : putCells encA 0 dk (ptrs its).toArray = (ptrs (dk.toList.map (·.1))).toArray := by
     apply Array.ext_getElem?
     intro k
     simp only [putCells, Array.getElem?_mapIdx, List.getElem?_toArray, ptrs, List.getElem?_map]
     by_cases hk : k < its.length
     · rw [List.getElem?_eq_getElem hk, Option.map_some, Option.map_some, if_pos ⟨Nat.zero_le _, by omega⟩]
       have hk2 : k < dk.toList.length := by simp; omega
       rw [List.getElem?_eq_getElem hk2]
       simp only [Option.map_some, Nat.sub_zero, encA]
       rw [getElem!_pos dk k (by omega)]
       rfl
     · rw [List.getElem?_eq_none (by omega), List.getElem?_eq_none (by simp; omega)]
       rfl
    show some (Obj.cells (putCells encA 0 dk (ptrs its).toArray) 72 (0, 0)) = _
    rw [key]
  · simp only [putRow, mapBlock, Sort.ahead]
    simpa using hl
theorem sortWorld_grown {α : Type} [Inhabited α] (enc : α → Value) (w : World) (blk off m : Nat) (dk : Array α) (os : Array Obj) : w.grownBy (sortWorld enc w blk off m dk os) (some blk) :=
  ⟨rfl, rfl, rfl, sortWorld_size enc w blk off m dk os, fun k hk hne => sortWorld_block enc w blk off m dk os k (fun e => hne (by rw [e])) hk⟩
theorem holdsA {its : List Im} [Inhabited (Am its)] {w : World} {R : Nat} (hR : w.heap[R]? = some (.cells (ptrs its).toArray 72 (0, 0))) : Holds encA w R 0 (arrA its) := by
  intro j hj
  rw [arrA_size] at hj
  refine ⟨?_, Lib.frozen_of_heap hR _⟩
  rw [Lib.cell_of_heap hR]
  simp only [Nat.zero_add, List.getElem?_toArray, ptrs, List.getElem?_map]
  rw [List.getElem?_eq_getElem hj, Option.map_some, getElem!_pos (arrA its) j (by rw [arrA_size]; exact hj)]
  simp [arrA, encA]
/-- A permutation of all of a row. -/
theorem perm_all {α : Type} [Inhabited α] {d d' : Array α} (h : PermIn 0 d.size d d') : d'.toList.Perm d.toList := by
  obtain ⟨h1, _, h3⟩ := h
  have e1 : d'.extract 0 d.size = d' := by rw [← h1]; simp
  have e2 : d.extract 0 d.size = d := by simp
  rw [e1, e2] at h3
  exact h3
theorem perm_its {its : List Im} {d' : Array (Am its)} (h : d'.toList.Perm (arrA its).toList) : (d'.toList.map (·.1)).Perm its := by
  have := h.map (fun i : Am its => i.1)
  simpa [arrA] using this
theorem sorted_its {its : List Im} [Inhabited (Am its)] {d' : Array (Am its)} (hs : SortedIn (ltOf cfA) 0 (arrA its).size d') (hsz : d'.size = (arrA its).size) (hn : ((d'.toList.map (·.1)).map (fun i : Im => i.e.pl)).Nodup) : (d'.toList.map (·.1)).Pairwise (fun x y => x.e.pl < y.e.pl) := by
  rw [List.pairwise_iff_getElem]
  intro i j hi hj hij
  simp only [List.length_map, Array.length_toList] at hi hj
  have h1 := hs i j (Nat.zero_le _) hij (by omega)
  rw [ltA, getElem!_pos d' i hi, getElem!_pos d' j hj] at h1
  simp only [List.getElem_map, Array.getElem_toList]
  have h2 : (d'[i]).1.e.pl ≠ (d'[j]).1.e.pl := by
    intro e
    have h3 := List.pairwise_iff_getElem.1 hn i j (by simpa using hi) (by simpa using hj) hij
    exact h3 (by simpa using e)
  simp at h1
  omega
end Go.Proofs.Ythalhidebkhclaa
