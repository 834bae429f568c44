/- Contracts: find. -/
import Derived.Test.YthalhidebkhclaaO8
namespace Go.Proofs.Ythalhidebkhclaa
open Go.RowKit Go.Proofs.Ty Go.Sort Go.Lib
set_option linter.unusedVariables false
set_option maxRecDepth 1000000
set_option linter.unusedSimpArgs false
/-- The item at a place. -/
def fnd (its : List Im) (ix sb : Nat) : Option Im := its.find? (fun i => i.e.ix == ix && i.e.sb == sb)
/-- The code that there is none. -/
def noc (its : List Im) (ix : Nat) : Nat := if its.any (fun i => i.e.ix == ix) then 101253137 else 100794368
theorem same_pl {e : En} {ix sb : Nat} (h1 : ix < 65536) (h2 : sb < 256) : (e.ix == ix && e.sb == sb) = decide (e.pl = ix * 256 + sb) := by
  have hs := e.hsb
  have hp : e.pl = e.ix * 256 + e.sb := rfl
  rw [Bool.eq_iff_iff, Bool.and_eq_true, beq_iff_eq, beq_iff_eq, decide_eq_true_iff, hp]
  generalize e.ix = a at *
  generalize e.sb = b at *
  constructor
  · rintro ⟨rfl, rfl⟩; rfl
  · intro h; omega
theorem fnd_pl (its : List Im) {ix sb : Nat} (h1 : ix < 65536) (h2 : sb < 256) : fnd its ix sb = its.find? (fun i => decide (i.e.pl = ix * 256 + sb)) := by
  unfold fnd
  congr 1
  funext i
  exact same_pl h1 h2
/-- How many stand ahead of a place, and what is there. -/
theorem count_find (its : List Im) (hs : its.Pairwise (fun a b => a.e.pl < b.e.pl)) (t : Nat) :
    (∀ i ∈ its, i.e.pl ≠ t) ∧ its.find? (fun i => decide (i.e.pl = t)) = none ∨ ∃ h : its.countP (fun i => decide (i.e.pl < t)) < its.length, its.find? (fun i => decide (i.e.pl = t)) = some its[its.countP (fun i => decide (i.e.pl < t))] ∧ (its[its.countP (fun i => decide (i.e.pl < t))]).e.pl = t := by
  induction its with
  | nil => left; simp
  | cons x r ih =>
    obtain ⟨h1, h2⟩ := List.pairwise_cons.1 hs
    by_cases hx : x.e.pl = t
    · right
      have h0 : r.countP (fun i => decide (i.e.pl < t)) = 0 := by
        rw [List.countP_eq_zero]
        intro y hy
        have := h1 y hy
        simp; omega
      have hc : (x :: r).countP (fun i => decide (i.e.pl < t)) = 0 := by
        rw [List.countP_cons_of_neg (by simp; omega), h0]
      refine ⟨by rw [hc]; simp, ?_, ?_⟩
      · rw [List.find?_cons_of_pos (by simpa using hx)]
        simp only [hc, List.getElem_cons_zero]
      · simp only [hc, List.getElem_cons_zero, hx]
    · by_cases hl : x.e.pl < t
      · have hc : (x :: r).countP (fun i => decide (i.e.pl < t)) = r.countP (fun i => decide (i.e.pl < t)) + 1 := List.countP_cons_of_pos (by simpa using hl)
        rcases ih h2 with ⟨h3, h4⟩ | ⟨h3, h4, h5⟩
        · left
          refine ⟨fun i hi => ?_, ?_⟩
          · rcases List.mem_cons.1 hi with rfl | hi
            · exact hx
            · exact h3 i hi
          · rw [List.find?_cons_of_neg (by simpa using hx), h4]
        · right
          refine ⟨by rw [hc]; simpa using h3, ?_, ?_⟩
          · rw [List.find?_cons_of_neg (by simpa using hx), h4]
            simp only [hc, List.getElem_cons_succ]
          · simp only [hc, List.getElem_cons_succ, h5]
      · left
        have h3 : ∀ i ∈ x :: r, i.e.pl ≠ t := by
          intro i hi
          rcases List.mem_cons.1 hi with rfl | hi
          · exact hx
          · have := h1 i hi; omega
        refine ⟨h3, ?_⟩
        rw [List.find?_eq_none]
        intro i hi
        simpa using h3 i hi
theorem count_le (its : List Im) (t : Nat) : its.countP (fun i => decide (i.e.pl < t)) ≤ its.length := List.countP_le_length
section
variable {D R : Nat} {its : List Im} {w x : World}
theorem Dct.lt (h : Dct D R its w) : D < w.heap.size ∧ R < w.heap.size := ⟨(Array.getElem?_eq_some_iff.1 h.head).1, (Array.getElem?_eq_some_iff.1 h.row).1⟩
theorem Dct.below (h : Dct D R its w) (hb : Below w.heap.size w x) : Dct D R its x :=
  ⟨(hb.block D h.lt.1).trans h.head, (hb.block R h.lt.2).trans h.row, fun i hi => (h.items i hi).below hb, h.apart, h.sorted, h.len⟩
theorem Dct.ne (h : Dct D R its w) : ∀ i ∈ its, i.b ≠ R ∧ i.b ≠ D := fun i hi => by
  have h1 := h.items i hi
  refine ⟨fun e => ?_, fun e => ?_⟩
  · have h2 := h.row
    rw [← e, show w.heap[i.b]? = _ from h1] at h2
    simp at h2
  · have h2 := h.head
    rw [← e, show w.heap[i.b]? = _ from h1] at h2
    simp at h2
theorem Dct.cell (h : Dct D R its w) : w.cell? ⟨D, 0, none⟩ = some (.slice (some ⟨R, 0, none⟩) its.length its.length) := Lib.cell_of_heap h.head 0
theorem Dct.at (h : Dct D R its w) (k : Nat) (hk : k < its.length) : w.cell? ⟨R, k, none⟩ = some (ptrI its[k].b) := by
  rw [Lib.cell_of_heap h.row]
  simp [ptrs, hk]
end
theorem below_sw {α : Type} [Inhabited α] {enc : α → Value} {w w' : World} {R : Nat} {d : Array α} (hH : Holds enc w R 0 d) (h : SW enc w R 0 d w') : Below w.heap.size w w' := by
  obtain ⟨n, os, rfl⟩ := h
  unfold sortWorld
  have e : putRow enc (Sort.ahead w n) R 0 d = Sort.ahead w n := putRow_self enc _ R 0 d hH
  rw [e]
  exact below_grown w n os
def cntP (its : List Im) (t : Nat) : Nat := its.countP (fun i => decide (i.e.pl < t))
def fndP (its : List Im) (t : Nat) : Option Im := its.find? (fun i => decide (i.e.pl = t))
theorem search_any {D R : Nat} {its : List Im} {w : World} (h : Dct D R its w) (t : Nat) :
    Calls Try.prog 39 #[.slice (some ⟨R, 0, none⟩) its.length its.length, .int .u32 t, .func (.func 40) #[] #[]] w fun e w' => e = .returned (.tuple #[.int .i64 (cntP its t), .bool (fndP its t).isSome]) ∧ Below w.heap.size w w' := by
  by_cases h0 : its = []
  · subst h0
    have hcon := Any.slices_BinarySearchFunc_none Try.searchL (some ⟨R, 0, none⟩) 0 (.int .u32 t) (.func (.func 40) #[] #[]) w
    change Calls Try.prog 39 _ _ _ at hcon
    refine hcon.mono ?_
    rintro e w' ⟨rfl, rfl⟩
    exact ⟨rfl, Below.refl _ _⟩
  · obtain ⟨i0, hi0⟩ := List.exists_mem_of_ne_nil its h0
    haveI : Inhabited (Am its) := ⟨⟨i0, hi0⟩⟩
    have hcmp : CmpLaysT Try.prog 40 #[] (encA (its := its)) (.int .u32 t) (fun i => cmpI i.1.e.pl t) R 0 (arrA its).size w := by
      intro m os dk hdk a
      have ha := (h.items a.1 a.2).same (sortWorld_block encA w R 0 m dk os a.1.b (h.ne _ a.2).1 (h.items a.1 a.2).lt)
      refine (find_cmp ha t).mono ?_
      rintro e w' ⟨rfl, n, rfl⟩
      exact ⟨rfl, n, #[], by rw [grow_empty]⟩
    have hget : ∀ k (hk : k < its.length), ((arrA its)[k]!).1 = its[k] := fun k hk => by
      rw [getElem!_pos (arrA its) k (by rw [arrA_size]; exact hk)]
      simp [arrA]
    have hcon := Any.slices_BinarySearchFunc Try.searchL encA one_encA (.int .u32 t) (fun i => cmpI i.1.e.pl t) 40 #[] R 0 its.length (arrA its) w enterF1 hcmp (holdsA h.row) h.lt.2 (by rw [arrA_size]; have := h.len; omega) (by
      intro a b hab hb hn
      rw [arrA_size] at hb
      simp only [cmpI_neg] at hn ⊢
      rw [hget b hb] at hn
      rw [hget a (by omega)]
      rcases Nat.lt_or_ge a b with hlt | hge
      · have := List.pairwise_iff_getElem.1 h.sorted a b (by omega) hb hlt
        omega
      · have : a = b := by omega
        subst this; exact hn)
    have hcnt : (arrA its).toList.countP (fun x : Am its => decide (cmpI x.1.e.pl t < 0)) = its.countP (fun i => decide (i.e.pl < t)) := by
      have e1 : (fun x : Am its => decide (cmpI x.1.e.pl t < 0)) = (fun x : Am its => (fun i : Im => decide (i.e.pl < t)) x.1) := by
        funext x
        simp [cmpI_neg]
      rw [e1]
      exact List.countP_attach (l := its) (p := fun i : Im => decide (i.e.pl < t))
    rw [hcnt, arrA_size] at hcon
    change Calls Try.prog 39 _ _ _ at hcon
    refine hcon.mono ?_
    rintro e w' ⟨rfl, hS⟩
    refine ⟨?_, below_sw (holdsA h.row) hS⟩
    unfold cntP fndP
    rcases count_find its h.sorted t with ⟨h1, h2⟩ | ⟨h1, h2, h3⟩
    · have hf : (decide (its.countP (fun i => decide (i.e.pl < t)) < its.length) && decide (cmpI (((arrA its)[its.countP (fun i => decide (i.e.pl < t))]!).1.e.pl) t = 0)) = false := by
        rw [Bool.and_eq_false_iff]
        by_cases hk : its.countP (fun i => decide (i.e.pl < t)) < its.length
        · right
          rw [hget _ hk, decide_eq_false]
          rw [cmpI_zero]
          have := h1 _ (List.getElem_mem hk)
          omega
        · left; exact decide_eq_false hk
      rw [hf, h2]; rfl
    · have hf : (decide (its.countP (fun i => decide (i.e.pl < t)) < its.length) && decide (cmpI (((arrA its)[its.countP (fun i => decide (i.e.pl < t))]!).1.e.pl) t = 0)) = true := by
        rw [Bool.and_eq_true]
        refine ⟨decide_eq_true h1, ?_⟩
        rw [hget _ h1, h3, decide_eq_true]
        rw [cmpI_zero]
      rw [hf, h2]; rfl
theorem contains_any {D R q : Nat} {its : List Im} {w : World} (h : Dct D R its w) (ix : Nat) (hq : w.cell? ⟨q, 0, none⟩ = some (.int .u16 ix)) (hl : q < w.heap.size) :
    Calls Try.prog 43 #[.slice (some ⟨R, 0, none⟩) its.length its.length, .func (.func 44) #[] #[.pointer (some ⟨q, 0, none⟩)]] w fun e w' => e = .returned (.bool (its.any (fun i => i.e.ix == ix))) ∧ Below w.heap.size w w' := by
  by_cases h0 : its = []
  · subst h0
    have hcon := AnyE.slices_ContainsFunc_empty Try.containsL (some ⟨R, 0, none⟩) 0 (.func (.func 44) #[] #[.pointer (some ⟨q, 0, none⟩)]) w
    change Calls Try.prog 43 _ _ _ at hcon
    refine hcon.mono ?_
    rintro e w' ⟨rfl, rfl⟩
    exact ⟨rfl, Below.refl _ _⟩
  · obtain ⟨i0, hi0⟩ := List.exists_mem_of_ne_nil its h0
    haveI : Inhabited (Am its) := ⟨⟨i0, hi0⟩⟩
    have hp : PredAt Try.prog 44 #[.pointer (some ⟨q, 0, none⟩)] (encA (its := its)) (fun i => decide ((i.1.e.ix : Int) = ix)) w := by
      intro W a hb
      have ha := (h.items a.1 a.2).below hb
      have hc : W.cell? ⟨q, 0, none⟩ = some (.int .u16 ix) := (hb.cell (p := ⟨q, 0, none⟩) hl).trans hq
      exact find_ix ha ix hc
    have hcon := AnyE.slices_ContainsFunc Try.containsL encA (fun i : Am its => decide ((i.1.e.ix : Int) = ix)) 44 #[.pointer (some ⟨q, 0, none⟩)] enterF2 R 0 its.length its.length its.attach w hp (by simp) (by have := h.len; omega) (by
      intro j hj
      have hj' : j < its.length := by simpa using hj
      rw [Nat.zero_add, h.at j hj', getElem!_pos its.attach j hj]
      simp [encA])
    change Calls Try.prog 43 _ _ _ at hcon
    refine hcon.mono ?_
    rintro e w' ⟨rfl, n, rfl⟩
    refine ⟨ret_bool ?_, ⟨rfl, rfl, rfl, Nat.le_refl _, fun _ _ => rfl⟩⟩
    rw [List.take_of_length_le (by simp), Bool.eq_iff_iff, List.any_eq_true, List.any_eq_true]
    constructor
    · rintro ⟨a, _, h2⟩
      exact ⟨a.1, a.2, by simp at h2 ⊢; omega⟩
    · rintro ⟨a, h1, h2⟩
      exact ⟨⟨a, h1⟩, by simp, by simp at h2 ⊢; omega⟩
theorem fnd_at {D R : Nat} {its : List Im} {w : World} (h : Dct D R its w) {ix sb : Nat} (h1 : ix < 65536) (h2 : sb < 256) {i : Im} (hf : fnd its ix sb = some i) : cntP its (ix * 256 + sb) < its.length ∧ (fndP its (ix * 256 + sb)).isSome = true ∧ w.cell? ⟨R, cntP its (ix * 256 + sb), none⟩ = some (ptrI i.b) := by
  rw [fnd_pl its h1 h2] at hf
  rcases count_find its h.sorted (ix * 256 + sb) with ⟨_, h4⟩ | ⟨h3, h4, h5⟩
  · rw [hf] at h4; cases h4
  · rw [hf] at h4
    injection h4 with h4
    refine ⟨h3, by unfold fndP; rw [hf]; rfl, ?_⟩
    have := h.at _ h3
    rw [← h4] at this
    exact this
theorem fnd_no {its : List Im} {ix sb : Nat} (h1 : ix < 65536) (h2 : sb < 256) (hf : fnd its ix sb = none) : (fndP its (ix * 256 + sb)).isSome = false := by
  rw [fnd_pl its h1 h2] at hf
  unfold fndP; rw [hf]; rfl
theorem load_its (x : World) (D k : Nat) (ao : Option Addr) (l c : Nat) (hc : x.cell? ⟨D, k, none⟩ = some (.slice ao l c)) : (loadVar 81 ⟨D, k, none⟩).run Try.prog x = .ok (.slice ao l c) x := by
  simp [go_sem, run_underlying Try.underlying81, hc]
set_option maxHeartbeats 4000000 in
theorem find_some {D R : Nat} {its : List Im} {w : World} (h : Dct D R its w) (ix sb : Nat) (h1 : ix < 65536) (h2 : sb < 256) {i : Im} (hf : fnd its ix sb = some i) :
    Calls Try.prog 25 #[.pointer (some ⟨D, 0, none⟩), .int .u16 ix, .int .u8 sb] w fun e w' => e = .returned (.tuple #[ptrI i.b, .int .u32 0]) ∧ Below w.heap.size w w' := by
  have hl := h.len
  have B0 : Below w.heap.size w (w.alloc (.cells #[.int .u16 ix] 45)) := (Below.refl _ _).alloc (Nat.le_refl _) _
  have h0 := h.below B0
  have hp := placeOf_any ix sb h1 h2
  have hq : (w.alloc (.cells #[.int .u16 ix] 45)).cell? ⟨w.heap.size, 0, none⟩ = some (.int .u16 ix) := cell_new w _ _
  have hS : ∀ x : Later (w.alloc (.cells #[.int .u16 ix] 45)), Calls Try.prog 39 #[.slice (some ⟨R, 0, none⟩) its.length its.length, .int .u32 (ix * 256 + sb : Nat), .func (.func 40) #[] #[]] x.now fun e w' => e = .returned (.tuple #[.int .i64 (cntP its (ix * 256 + sb)), .bool (fndP its (ix * 256 + sb)).isSome]) ∧ Below x.now.heap.size x.now w' := fun x => search_any (h0.below x.below) _
  have k0 : ∀ x : Later (w.alloc (.cells #[.int .u16 ix] 45)), x.now.cell? ⟨D, 0, none⟩ = some (.slice (some ⟨R, 0, none⟩) its.length its.length) := fun x => (h0.below x.below).cell
  have k1 : ∀ x : Later (w.alloc (.cells #[.int .u16 ix] 45)), x.now.cell? ⟨w.heap.size, 0, none⟩ = some (.int .u16 ix) := fun x => (x.below.cell (p := ⟨w.heap.size, 0, none⟩) (by rw [size_alloc]; exact Nat.lt_succ_self _)).trans hq
  have HA : Hid (∀ x : Later (w.alloc (.cells #[.int .u16 ix] 45)), x.now.cell? ⟨R, cntP its (ix * 256 + sb), none⟩ = some (ptrI i.b)) := fun x => (fnd_at (h0.below x.below) h1 h2 hf).2.2
  have hc := (fnd_at h h1 h2 hf).1
  rw [(fnd_at h h1 h2 hf).2.1] at hS
  clear h hf h0 hq
  generalize cntP its (ix * 256 + sb) = C at *
  generalize ((ix * 256 + sb : Nat) : Int) = PL at *
  generalize its.length = N at *
  unfold ptrI at *
  go_enter Try.func25, Try.ntmps25
  go_upto_region 1 with fail
  generalize w.alloc (.cells #[.int .u16 ix] 45) = W at *
  have hL := Later.some W
  refine wp_region_later (by kernel_rfl) (by kernel_rfl) ?_
  repeat (go_big_quiet_step (first | (go_at_call 34; with_reducible exact laterS (hp _)) | (go_at_call 39; with_reducible exact later (hS _))))
  refine wpQuiet_nil ?_
  rintro _ ⟨x1, rfl⟩
  have c0 := k0 x1
  have c1 := HA.out x1
  have BX := B0.trans (x1.below.mono B0.size)
  clear k0 k1 HA hS hL
  generalize x1.now = W1 at *
  clear x1
  go_wp2
  go_ret2
  exact ⟨rfl, BX⟩
set_option maxHeartbeats 4000000 in
theorem find_none {D R : Nat} {its : List Im} {w : World} (h : Dct D R its w) (ix sb : Nat) (h1 : ix < 65536) (h2 : sb < 256) (hf : fnd its ix sb = none) :
    Calls Try.prog 25 #[.pointer (some ⟨D, 0, none⟩), .int .u16 ix, .int .u8 sb] w fun e w' => e = .returned (.tuple #[.pointer none, .int .u32 (noc its ix)]) ∧ Below w.heap.size w w' := by
  have hl := h.len
  have B0 : Below w.heap.size w (w.alloc (.cells #[.int .u16 ix] 45)) := (Below.refl _ _).alloc (Nat.le_refl _) _
  have h0 := h.below B0
  have hp := placeOf_any ix sb h1 h2
  have hq : (w.alloc (.cells #[.int .u16 ix] 45)).cell? ⟨w.heap.size, 0, none⟩ = some (.int .u16 ix) := cell_new w _ _
  have hS : ∀ x : Later (w.alloc (.cells #[.int .u16 ix] 45)), Calls Try.prog 39 #[.slice (some ⟨R, 0, none⟩) its.length its.length, .int .u32 (ix * 256 + sb : Nat), .func (.func 40) #[] #[]] x.now fun e w' => e = .returned (.tuple #[.int .i64 (cntP its (ix * 256 + sb)), .bool (fndP its (ix * 256 + sb)).isSome]) ∧ Below x.now.heap.size x.now w' := fun x => search_any (h0.below x.below) _
  have k0 : ∀ x : Later (w.alloc (.cells #[.int .u16 ix] 45)), x.now.cell? ⟨D, 0, none⟩ = some (.slice (some ⟨R, 0, none⟩) its.length its.length) := fun x => (h0.below x.below).cell
  have k1 : ∀ x : Later (w.alloc (.cells #[.int .u16 ix] 45)), x.now.cell? ⟨w.heap.size, 0, none⟩ = some (.int .u16 ix) := fun x => (x.below.cell (p := ⟨w.heap.size, 0, none⟩) (by rw [size_alloc]; exact Nat.lt_succ_self _)).trans hq
  have HA : Hid (∀ x : Later (w.alloc (.cells #[.int .u16 ix] 45)), Calls Try.prog 43 #[.slice (some ⟨R, 0, none⟩) its.length its.length, .func (.func 44) #[] #[.pointer (some ⟨w.heap.size, 0, none⟩)]] x.now fun e w' => e = .returned (.bool (its.any (fun i => i.e.ix == ix))) ∧ Below x.now.heap.size x.now w') := fun x => contains_any (h0.below x.below) ix (k1 x) (by have := x.below.size; rw [size_alloc] at this; omega)
  rw [fnd_no h1 h2 hf] at hS
  have HN : Hid (noc its ix = if its.any (fun i => i.e.ix == ix) then 101253137 else 100794368) := rfl
  clear h hf h0 hq
  generalize noc its ix = NC at *
  generalize its.any (fun i => i.e.ix == ix) = AN at *
  generalize cntP its (ix * 256 + sb) = C at *
  generalize ((ix * 256 + sb : Nat) : Int) = PL at *
  generalize its.length = N at *
  go_enter Try.func25, Try.ntmps25
  go_upto_region 1 with fail
  generalize w.alloc (.cells #[.int .u16 ix] 45) = W at *
  have hL := Later.some W
  refine wp_region_later (by kernel_rfl) (by kernel_rfl) ?_
  repeat (go_big_quiet_step (first | (go_at_call 34; with_reducible exact laterS (hp _)) | (go_at_call 39; with_reducible exact later (hS _))))
  refine wpQuiet_nil ?_
  rintro _ ⟨x1, rfl⟩
  have c0 := k0 x1
  have hF := HA.out x1
  have BX := B0.trans (x1.below.mono B0.size)
  clear k0 k1 HA hS hL
  generalize x1.now = W1 at *
  clear x1
  go_wp2_with fail
  refine hF.mono ?_
  rintro e w2 ⟨rfl, b2⟩
  have B2 := BX.trans (b2.mono BX.size)
  clear BX b2 hF c0
  cases AN
  · have e1 := hidOf2 (show NC = 100794368 from HN.out)
    clear HN
    go_wp2
    go_ret2
    exact ⟨by rw [e1.out]; rfl, B2⟩
  · have e1 := hidOf2 (show NC = 101253137 from HN.out)
    clear HN
    go_wp2
    go_ret2
    exact ⟨by rw [e1.out]; rfl, B2⟩
end Go.Proofs.Ythalhidebkhclaa
