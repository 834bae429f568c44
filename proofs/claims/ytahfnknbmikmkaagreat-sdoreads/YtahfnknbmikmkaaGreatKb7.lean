/- Contracts: find. Contracts of the document's own: Size, Is, Signed, low, Wide. -/
import Derived.Test.YtahfnknbmikmkaaGreatKb5
import Derived.Test.YtahfnknbmikmkaaGreatKb3
namespace Go.Proofs.YtahfnknbmikmkaaGreat
open Go.RowKit Go.Proofs.Ty Go.Sort Go.Lib
set_option linter.unusedVariables false
set_option maxRecDepth 1000000
set_option linter.unusedSimpArgs false
/-- The item at a place. -/
def fnd (its : List Im) (ix sb : Nat) : Option Im := its.find? (fun i => i.e.ix == ix && i.e.sb == sb)
/-- The code that there is none. -/
def noc (its : List Im) (ix : Nat) : Nat := if its.any (fun i => i.e.ix == ix) then 101253137 else 100794368
theorem same_pl {e : En} {ix sb : Nat} (h1 : ix < 65536) (h2 : sb < 256) : (e.ix == ix && e.sb == sb) = decide (e.pl = ix * 256 + sb) := by
  have hs := e.hsb
  have hp : e.pl = e.ix * 256 + e.sb := rfl
  rw [Bool.eq_iff_iff, Bool.and_eq_true, beq_iff_eq, beq_iff_eq, decide_eq_true_iff, hp]
  generalize e.ix = a at *
  generalize e.sb = b at *
  constructor
  · rintro ⟨rfl, rfl⟩; rfl
  · intro h; omega
theorem fnd_pl (its : List Im) {ix sb : Nat} (h1 : ix < 65536) (h2 : sb < 256) : fnd its ix sb = its.find? (fun i => decide (i.e.pl = ix * 256 + sb)) := by
  unfold fnd
  congr 1
  funext i
  exact same_pl h1 h2
/-- How many stand ahead of a place, and what is there. -/
theorem count_find (its : List Im) (hs : its.Pairwise (fun a b => a.e.pl < b.e.pl)) (t : Nat) :
    (∀ i ∈ its, i.e.pl ≠ t) ∧ its.find? (fun i => decide (i.e.pl = t)) = none ∨ ∃ h : its.countP (fun i => decide (i.e.pl < t)) < its.length, its.find? (fun i => decide (i.e.pl = t)) = some its[its.countP (fun i => decide (i.e.pl < t))] ∧ (its[its.countP (fun i => decide (i.e.pl < t))]).e.pl = t := by
  induction its with
  | nil => left; simp
  | cons x r ih =>
    obtain ⟨h1, h2⟩ := List.pairwise_cons.1 hs
    by_cases hx : x.e.pl = t
    · right
      have h0 : r.countP (fun i => decide (i.e.pl < t)) = 0 := by
        rw [List.countP_eq_zero]
        intro y hy
        have := h1 y hy
        simp; omega
      have hc : (x :: r).countP (fun i => decide (i.e.pl < t)) = 0 := by
        rw [List.countP_cons_of_neg (by simp; omega), h0]
      refine ⟨by rw [hc]; simp, ?_, ?_⟩
      · rw [List.find?_cons_of_pos (by simpa using hx)]
        simp only [hc, List.getElem_cons_zero]
      · simp only [hc, List.getElem_cons_zero, hx]
    · by_cases hl : x.e.pl < t
      · have hc : (x :: r).countP (fun i => decide (i.e.pl < t)) = r.countP (fun i => decide (i.e.pl < t)) + 1 := List.countP_cons_of_pos (by simpa using hl)
        rcases ih h2 with ⟨h3, h4⟩ | ⟨h3, h4, h5⟩
        · left
          refine ⟨fun i hi => ?_, ?_⟩
          · rcases List.mem_cons.1 hi with rfl | hi
            · exact hx
            · exact h3 i hi
          · rw [List.find?_cons_of_neg (by simpa using hx), h4]
        · right
          refine ⟨by rw [hc]; simpa using h3, ?_, ?_⟩
          · rw [List.find?_cons_of_neg (by simpa using hx), h4]
            simp only [hc, List.getElem_cons_succ]
          · simp only [hc, List.getElem_cons_succ, h5]
      · left
        have h3 : ∀ i ∈ x :: r, i.e.pl ≠ t := by
          intro i hi
          rcases List.mem_cons.1 hi with rfl | hi
          · exact hx
          · have := h1 i hi; omega
        refine ⟨h3, ?_⟩
        rw [List.find?_eq_none]
        intro i hi
        simpa using h3 i hi
section
variable {D R : Nat} {its : List Im} {w x : World}
theorem Dct.lt (h : Dct D R its w) : D < w.heap.size ∧ R < w.heap.size := ⟨(Array.getElem?_eq_some_iff.1 h.head).1, (Array.getElem?_eq_some_iff.1 h.row).1⟩
theorem Dct.below (h : Dct D R its w) (hb : Below w.heap.size w x) : Dct D R its x :=
  ⟨(hb.block D h.lt.1).trans h.head, (hb.block R h.lt.2).trans h.row, fun i hi => (h.items i hi).below hb, h.apart, h.sorted, h.len⟩
theorem Dct.ne (h : Dct D R its w) : ∀ i ∈ its, i.b ≠ R ∧ i.b ≠ D := fun i hi => by
  have h1 := h.items i hi
  refine ⟨fun e => ?_, fun e => ?_⟩
  · have h2 := h.row
    rw [← e, show w.heap[i.b]? = _ from h1] at h2
    simp at h2
  · have h2 := h.head
    rw [← e, show w.heap[i.b]? = _ from h1] at h2
    simp at h2
theorem Dct.cell (h : Dct D R its w) : w.cell? ⟨D, 0, none⟩ = some (.slice (some ⟨R, 0, none⟩) its.length its.length) := Lib.cell_of_heap h.head 0
theorem Dct.at (h : Dct D R its w) (k : Nat) (hk : k < its.length) : w.cell? ⟨R, k, none⟩ = some (ptrI its[k].b) := by
  rw [Lib.cell_of_heap h.row]
  simp [ptrs, hk]
end
theorem below_sw {α : Type} [Inhabited α] {enc : α → Value} {w w' : World} {R : Nat} {d : Array α} (hH : Holds enc w R 0 d) (h : SW enc w R 0 d w') : Below w.heap.size w w' := by
  obtain ⟨n, os, rfl⟩ := h
  unfold sortWorld
  have e : putRow enc (Sort.ahead w n) R 0 d = Sort.ahead w n := putRow_self enc _ R 0 d hH
  rw [e]
  exact below_grown w n os
def cntP (its : List Im) (t : Nat) : Nat := its.countP (fun i => decide (i.e.pl < t))
def fndP (its : List Im) (t : Nat) : Option Im := its.find? (fun i => decide (i.e.pl = t))
theorem search_any {D R : Nat} {its : List Im} {w : World} (h : Dct D R its w) (t : Nat) :
    Calls Tryz.prog 73 #[.slice (some ⟨R, 0, none⟩) its.length its.length, .int .u32 t, .func (.func 75) #[] #[]] w fun e w' => e = .returned (.tuple #[.int .i64 (cntP its t), .bool (fndP its t).isSome]) ∧ Below w.heap.size w w' := by
  by_cases h0 : its = []
  · subst h0
    have hcon := Any.slices_BinarySearchFunc_none Tryz.searchL (some ⟨R, 0, none⟩) 0 (.int .u32 t) (.func (.func 75) #[] #[]) w
    change Calls Tryz.prog 73 _ _ _ at hcon
    refine hcon.mono ?_
    rintro e w' ⟨rfl, rfl⟩
    exact ⟨rfl, Below.refl _ _⟩
  · obtain ⟨i0, hi0⟩ := List.exists_mem_of_ne_nil its h0
    haveI : Inhabited (Am its) := ⟨⟨i0, hi0⟩⟩
    have hcmp : CmpLaysT Tryz.prog 75 #[] (encA (its := its)) (.int .u32 t) (fun i => cmpI i.1.e.pl t) R 0 (arrA its).size w := by
      intro m os dk hdk a
      have ha := (h.items a.1 a.2).same (sortWorld_block encA w R 0 m dk os a.1.b (h.ne _ a.2).1 (h.items a.1 a.2).lt)
      refine (find_cmp ha t).mono ?_
      rintro e w' ⟨rfl, n, rfl⟩
      exact ⟨rfl, n, #[], by rw [grow_empty]⟩
    have hget : ∀ k (hk : k < its.length), ((arrA its)[k]!).1 = its[k] := fun k hk => by
      rw [getElem!_pos (arrA its) k (by rw [arrA_size]; exact hk)]
      simp [arrA]
    have hcon := Any.slices_BinarySearchFunc Tryz.searchL encA one_encA (.int .u32 t) (fun i => cmpI i.1.e.pl t) 75 #[] R 0 its.length (arrA its) w enterF1 hcmp (holdsA h.row) h.lt.2 (by rw [arrA_size]; have := h.len; omega) (by
      intro a b hab hb hn
      rw [arrA_size] at hb
      simp only [cmpI_neg] at hn ⊢
      rw [hget b hb] at hn
      rw [hget a (by omega)]
      rcases Nat.lt_or_ge a b with hlt | hge
      · have := List.pairwise_iff_getElem.1 h.sorted a b (by omega) hb hlt
        omega
      · have : a = b := by omega
        subst this; exact hn)
    have hcnt : (arrA its).toList.countP (fun x : Am its => decide (cmpI x.1.e.pl t < 0)) = its.countP (fun i => decide (i.e.pl < t)) := by
      have e1 : (fun x : Am its => decide (cmpI x.1.e.pl t < 0)) = (fun x : Am its => (fun i : Im => decide (i.e.pl < t)) x.1) := by
        funext x
        simp [cmpI_neg]
      rw [e1]
      exact List.countP_attach (l := its) (p := fun i : Im => decide (i.e.pl < t))
    rw [hcnt, arrA_size] at hcon
    change Calls Tryz.prog 73 _ _ _ at hcon
    refine hcon.mono ?_
    rintro e w' ⟨rfl, hS⟩
    refine ⟨?_, below_sw (holdsA h.row) hS⟩
    unfold cntP fndP
    rcases count_find its h.sorted t with ⟨h1, h2⟩ | ⟨h1, h2, h3⟩
    · have hf : (decide (its.countP (fun i => decide (i.e.pl < t)) < its.length) && decide (cmpI (((arrA its)[its.countP (fun i => decide (i.e.pl < t))]!).1.e.pl) t = 0)) = false := by
        rw [Bool.and_eq_false_iff]
        by_cases hk : its.countP (fun i => decide (i.e.pl < t)) < its.length
        · right
          rw [hget _ hk, decide_eq_false]
          rw [cmpI_zero]
          have := h1 _ (List.getElem_mem hk)
          omega
        · left; exact decide_eq_false hk
      rw [hf, h2]; rfl
    · have hf : (decide (its.countP (fun i => decide (i.e.pl < t)) < its.length) && decide (cmpI (((arrA its)[its.countP (fun i => decide (i.e.pl < t))]!).1.e.pl) t = 0)) = true := by
        rw [Bool.and_eq_true]
        refine ⟨decide_eq_true h1, ?_⟩
        rw [hget _ h1, h3, decide_eq_true]
        rw [cmpI_zero]
      rw [hf, h2]; rfl
theorem contains_any {D R q : Nat} {its : List Im} {w : World} (h : Dct D R its w) (ix : Nat) (hq : w.cell? ⟨q, 0, none⟩ = some (.int .u16 ix)) (hl : q < w.heap.size) :
    Calls Tryz.prog 78 #[.slice (some ⟨R, 0, none⟩) its.length its.length, .func (.func 79) #[] #[.pointer (some ⟨q, 0, none⟩)]] w fun e w' => e = .returned (.bool (its.any (fun i => i.e.ix == ix))) ∧ Below w.heap.size w w' := by
  by_cases h0 : its = []
  · subst h0
    have hcon := AnyE.slices_ContainsFunc_empty Tryz.containsL (some ⟨R, 0, none⟩) 0 (.func (.func 79) #[] #[.pointer (some ⟨q, 0, none⟩)]) w
    change Calls Tryz.prog 78 _ _ _ at hcon
    refine hcon.mono ?_
    rintro e w' ⟨rfl, rfl⟩
    exact ⟨rfl, Below.refl _ _⟩
  · obtain ⟨i0, hi0⟩ := List.exists_mem_of_ne_nil its h0
    haveI : Inhabited (Am its) := ⟨⟨i0, hi0⟩⟩
    have hp : PredAt Tryz.prog 79 #[.pointer (some ⟨q, 0, none⟩)] (encA (its := its)) (fun i => decide ((i.1.e.ix : Int) = ix)) w := by
      intro W a hb
      have ha := (h.items a.1 a.2).below hb
      have hc : W.cell? ⟨q, 0, none⟩ = some (.int .u16 ix) := (hb.cell (p := ⟨q, 0, none⟩) hl).trans hq
      exact find_ix ha ix hc
    have hcon := AnyE.slices_ContainsFunc Tryz.containsL encA (fun i : Am its => decide ((i.1.e.ix : Int) = ix)) 79 #[.pointer (some ⟨q, 0, none⟩)] enterF2 R 0 its.length its.length its.attach w hp (by simp) (by have := h.len; omega) (by
      intro j hj
      have hj' : j < its.length := by simpa using hj
      rw [Nat.zero_add, h.at j hj', getElem!_pos its.attach j hj]
      simp [encA])
    change Calls Tryz.prog 78 _ _ _ at hcon
    refine hcon.mono ?_
    rintro e w' ⟨rfl, n, rfl⟩
    refine ⟨ret_bool ?_, ⟨rfl, rfl, rfl, Nat.le_refl _, fun _ _ => rfl⟩⟩
    rw [List.take_of_length_le (by simp), Bool.eq_iff_iff, List.any_eq_true, List.any_eq_true]
    constructor
    · rintro ⟨a, _, h2⟩
      exact ⟨a.1, a.2, by simp at h2 ⊢; omega⟩
    · rintro ⟨a, h1, h2⟩
      exact ⟨⟨a, h1⟩, by simp, by simp at h2 ⊢; omega⟩
theorem fnd_at {D R : Nat} {its : List Im} {w : World} (h : Dct D R its w) {ix sb : Nat} (h1 : ix < 65536) (h2 : sb < 256) {i : Im} (hf : fnd its ix sb = some i) : cntP its (ix * 256 + sb) < its.length ∧ (fndP its (ix * 256 + sb)).isSome = true ∧ w.cell? ⟨R, cntP its (ix * 256 + sb), none⟩ = some (ptrI i.b) := by
  rw [fnd_pl its h1 h2] at hf
  rcases count_find its h.sorted (ix * 256 + sb) with ⟨_, h4⟩ | ⟨h3, h4, h5⟩
  · rw [hf] at h4; cases h4
  · rw [hf] at h4
    injection h4 with h4
    refine ⟨h3, by unfold fndP; rw [hf]; rfl, ?_⟩
    have := h.at _ h3
    rw [← h4] at this
    exact this
theorem fnd_no {its : List Im} {ix sb : Nat} (h1 : ix < 65536) (h2 : sb < 256) (hf : fnd its ix sb = none) : (fndP its (ix * 256 + sb)).isSome = false := by
  rw [fnd_pl its h1 h2] at hf
  unfold fndP; rw [hf]; rfl
set_option maxHeartbeats 4000000 in
theorem find_some {D R : Nat} {its : List Im} {w : World} (h : Dct D R its w) (ix sb : Nat) (h1 : ix < 65536) (h2 : sb < 256) {i : Im} (hf : fnd its ix sb = some i) :
    Calls Tryz.prog 42 #[.pointer (some ⟨D, 0, none⟩), .int .u16 ix, .int .u8 sb] w fun e w' => e = .returned (.tuple #[ptrI i.b, .int .u32 0]) ∧ Below w.heap.size w w' := by
  have hl := h.len
  have B0 : Below w.heap.size w (w.alloc (.cells #[.int .u16 ix] 43)) := (Below.refl _ _).alloc (Nat.le_refl _) _
  have h0 := h.below B0
  have hp := placeOf_any ix sb h1 h2
  have hq : (w.alloc (.cells #[.int .u16 ix] 43)).cell? ⟨w.heap.size, 0, none⟩ = some (.int .u16 ix) := cell_new w _ _
  have hS : ∀ x : Later (w.alloc (.cells #[.int .u16 ix] 43)), Calls Tryz.prog 73 #[.slice (some ⟨R, 0, none⟩) its.length its.length, .int .u32 (ix * 256 + sb : Nat), .func (.func 75) #[] #[]] x.now fun e w' => e = .returned (.tuple #[.int .i64 (cntP its (ix * 256 + sb)), .bool (fndP its (ix * 256 + sb)).isSome]) ∧ Below x.now.heap.size x.now w' := fun x => search_any (h0.below x.below) _
  have k0 : ∀ x : Later (w.alloc (.cells #[.int .u16 ix] 43)), x.now.cell? ⟨D, 0, none⟩ = some (.slice (some ⟨R, 0, none⟩) its.length its.length) := fun x => (h0.below x.below).cell
  have k1 : ∀ x : Later (w.alloc (.cells #[.int .u16 ix] 43)), x.now.cell? ⟨w.heap.size, 0, none⟩ = some (.int .u16 ix) := fun x => (x.below.cell (p := ⟨w.heap.size, 0, none⟩) (by rw [size_alloc]; exact Nat.lt_succ_self _)).trans hq
  have HA : Hid (∀ x : Later (w.alloc (.cells #[.int .u16 ix] 43)), x.now.cell? ⟨R, cntP its (ix * 256 + sb), none⟩ = some (ptrI i.b)) := fun x => (fnd_at (h0.below x.below) h1 h2 hf).2.2
  have hc := (fnd_at h h1 h2 hf).1
  rw [(fnd_at h h1 h2 hf).2.1] at hS
  clear h hf h0 hq
  generalize cntP its (ix * 256 + sb) = C at *
  generalize ((ix * 256 + sb : Nat) : Int) = PL at *
  generalize its.length = N at *
  unfold ptrI at *
  go_enter Tryz.func42, Tryz.ntmps42
  go_upto_region 1 with fail
  generalize w.alloc (.cells #[.int .u16 ix] 43) = W at *
  have hL := Later.some W
  refine wp_region_later (by kernel_rfl) (by kernel_rfl) ?_
  repeat (go_big_quiet_step (first | (go_at_call 74; with_reducible exact laterS (hp _)) | (go_at_call 73; with_reducible exact later (hS _))))
  refine wpQuiet_nil ?_
  rintro _ ⟨x1, rfl⟩
  have c0 := k0 x1
  have c1 := HA.out x1
  have BX := B0.trans (x1.below.mono B0.size)
  clear k0 k1 HA hS hL
  generalize x1.now = W1 at *
  clear x1
  go_wp2
  go_ret2
  exact ⟨rfl, BX⟩
set_option maxHeartbeats 4000000 in
theorem find_none {D R : Nat} {its : List Im} {w : World} (h : Dct D R its w) (ix sb : Nat) (h1 : ix < 65536) (h2 : sb < 256) (hf : fnd its ix sb = none) :
    Calls Tryz.prog 42 #[.pointer (some ⟨D, 0, none⟩), .int .u16 ix, .int .u8 sb] w fun e w' => e = .returned (.tuple #[.pointer none, .int .u32 (noc its ix)]) ∧ Below w.heap.size w w' := by
  have hl := h.len
  have B0 : Below w.heap.size w (w.alloc (.cells #[.int .u16 ix] 43)) := (Below.refl _ _).alloc (Nat.le_refl _) _
  have h0 := h.below B0
  have hp := placeOf_any ix sb h1 h2
  have hq : (w.alloc (.cells #[.int .u16 ix] 43)).cell? ⟨w.heap.size, 0, none⟩ = some (.int .u16 ix) := cell_new w _ _
  have hS : ∀ x : Later (w.alloc (.cells #[.int .u16 ix] 43)), Calls Tryz.prog 73 #[.slice (some ⟨R, 0, none⟩) its.length its.length, .int .u32 (ix * 256 + sb : Nat), .func (.func 75) #[] #[]] x.now fun e w' => e = .returned (.tuple #[.int .i64 (cntP its (ix * 256 + sb)), .bool (fndP its (ix * 256 + sb)).isSome]) ∧ Below x.now.heap.size x.now w' := fun x => search_any (h0.below x.below) _
  have k0 : ∀ x : Later (w.alloc (.cells #[.int .u16 ix] 43)), x.now.cell? ⟨D, 0, none⟩ = some (.slice (some ⟨R, 0, none⟩) its.length its.length) := fun x => (h0.below x.below).cell
  have k1 : ∀ x : Later (w.alloc (.cells #[.int .u16 ix] 43)), x.now.cell? ⟨w.heap.size, 0, none⟩ = some (.int .u16 ix) := fun x => (x.below.cell (p := ⟨w.heap.size, 0, none⟩) (by rw [size_alloc]; exact Nat.lt_succ_self _)).trans hq
  have HA : Hid (∀ x : Later (w.alloc (.cells #[.int .u16 ix] 43)), Calls Tryz.prog 78 #[.slice (some ⟨R, 0, none⟩) its.length its.length, .func (.func 79) #[] #[.pointer (some ⟨w.heap.size, 0, none⟩)]] x.now fun e w' => e = .returned (.bool (its.any (fun i => i.e.ix == ix))) ∧ Below x.now.heap.size x.now w') := fun x => contains_any (h0.below x.below) ix (k1 x) (by have := x.below.size; rw [size_alloc] at this; omega)
  rw [fnd_no h1 h2 hf] at hS
  have HN : Hid (noc its ix = if its.any (fun i => i.e.ix == ix) then 101253137 else 100794368) := rfl
  clear h hf h0 hq
  generalize noc its ix = NC at *
  generalize its.any (fun i => i.e.ix == ix) = AN at *
  generalize cntP its (ix * 256 + sb) = C at *
  generalize ((ix * 256 + sb : Nat) : Int) = PL at *
  generalize its.length = N at *
  go_enter Tryz.func42, Tryz.ntmps42
  go_upto_region 1 with fail
  generalize w.alloc (.cells #[.int .u16 ix] 43) = W at *
  have hL := Later.some W
  refine wp_region_later (by kernel_rfl) (by kernel_rfl) ?_
  repeat (go_big_quiet_step (first | (go_at_call 74; with_reducible exact laterS (hp _)) | (go_at_call 73; with_reducible exact later (hS _))))
  refine wpQuiet_nil ?_
  rintro _ ⟨x1, rfl⟩
  have c0 := k0 x1
  have hF := HA.out x1
  have BX := B0.trans (x1.below.mono B0.size)
  clear k0 k1 HA hS hL
  generalize x1.now = W1 at *
  clear x1
  go_wp2_with fail
  refine hF.mono ?_
  rintro e w2 ⟨rfl, b2⟩
  have B2 := BX.trans (b2.mono BX.size)
  clear BX b2 hF c0
  cases AN
  · have e1 := hidOf2 (show NC = 100794368 from HN.out)
    clear HN
    go_wp2
    go_ret2
    exact ⟨by rw [e1.out]; rfl, B2⟩
  · have e1 := hidOf2 (show NC = 101253137 from HN.out)
    clear HN
    go_wp2
    go_ret2
    exact ⟨by rw [e1.out]; rfl, B2⟩
end Go.Proofs.YtahfnknbmikmkaaGreat
namespace Go.Proofs.YtahfnknbmikmkaaGreat
open Go.RowKit Go.Proofs.Ty
set_option linter.unusedVariables false
set_option maxRecDepth 1000000

set_option maxHeartbeats 1000000 in
theorem r7Size_any (t : Int) (w : World) :
    Calls Tryz.prog 85 #[.int .i64 t] w fun e w' => e = .returned (.int .i64 (siz t)) ∧ w' = w := by
  go_enter Tryz.func85, Tryz.ntmps85
  go_wp2
  all_goals go_ret
  all_goals exact ⟨ret_int (by simp_all [siz]), rfl⟩
set_option maxHeartbeats 1000000 in
theorem r7Is_any (t : Int) (w : World) :
    Calls Tryz.prog 84 #[.int .i64 t] w fun e w' => e = .returned (.bool (kind t != 0)) ∧ w' = w := by
  have hS := r7Size_any t
  have hz := siz_zero t
  have HB : Hid ((kind t != 0) = (decide (0 < siz t) || t == 9 || t == 10 || t == 15)) := by
    show (kind t != 0) = _
    unfold kind siz
    (repeat' split) <;> simp_all <;> omega
  generalize (kind t != 0) = B at *
  clear hz
  by_cases hz : 0 < siz t
  · have dz : decide (0 < siz t) = true := by simpa using hz
    have e1 := hidOf (show B = true by rw [HB.out]; simp [hz])
    clear HB
    generalize siz t = z at *
    go_enter Tryz.func84, Tryz.ntmps84
    go_wp2_with (go_at_call 85; refine (hS _).mono ?_; rintro e w1 ⟨rfl, rfl⟩)
    go_ret
    exact ⟨ret_bool (by rw [e1.out]), rfl⟩
  · have h0 : siz t = 0 := by omega
    rw [h0] at hS
    have e1 := hidOf (show B = (t == 9 || t == 10 || t == 15) by rw [HB.out, h0]; simp)
    clear HB h0 hz
    by_cases h9 : t = 9
    · subst h9
      go_enter Tryz.func84, Tryz.ntmps84
      go_wp2_with (go_at_call 85; refine (hS _).mono ?_; rintro e w1 ⟨rfl, rfl⟩)
      go_ret
      exact ⟨ret_bool (by rw [e1.out]; rfl), rfl⟩
    · have d9 : (t == 9) = false := by simpa using h9
      by_cases h10 : t = 10
      · subst h10
        go_enter Tryz.func84, Tryz.ntmps84
        go_wp2_with (go_at_call 85; refine (hS _).mono ?_; rintro e w1 ⟨rfl, rfl⟩)
        go_ret
        exact ⟨ret_bool (by rw [e1.out]; rfl), rfl⟩
      · have d10 : (t == 10) = false := by simpa using h10
        go_enter Tryz.func84, Tryz.ntmps84
        go_wp2_with (go_at_call 85; refine (hS _).mono ?_; rintro e w1 ⟨rfl, rfl⟩)
        go_ret
        exact ⟨ret_bool (by rw [e1.out, d9, d10]; simp), rfl⟩
set_option maxHeartbeats 1000000 in
theorem r7Signed_any (t : Int) (w : World) :
    Calls Tryz.prog 117 #[.int .i64 t] w fun e w' => e = .returned (.bool (kind t == 2)) ∧ w' = w := by
  have HB : Hid ((kind t == 2) = (t == 2 || t == 3 || t == 4 || t == 21)) := by
    show (kind t == 2) = _
    unfold kind
    (repeat' split) <;> simp_all <;> omega
  generalize (kind t == 2) = B at *
  by_cases h2 : t = 2
  · subst h2
    go_enter Tryz.func117, Tryz.ntmps117
    go_wp2
    go_ret
    exact ⟨ret_bool (by rw [HB.out]; rfl), rfl⟩
  · have d2 : (t == 2) = false := by simpa using h2
    by_cases h3 : t = 3
    · subst h3
      go_enter Tryz.func117, Tryz.ntmps117
      go_wp2
      go_ret
      exact ⟨ret_bool (by rw [HB.out]; rfl), rfl⟩
    · have d3 : (t == 3) = false := by simpa using h3
      by_cases h4 : t = 4
      · subst h4
        go_enter Tryz.func117, Tryz.ntmps117
        go_wp2
        go_ret
        exact ⟨ret_bool (by rw [HB.out]; rfl), rfl⟩
      · have d4 : (t == 4) = false := by simpa using h4
        go_enter Tryz.func117, Tryz.ntmps117
        go_wp2
        go_ret
        exact ⟨ret_bool (by rw [HB.out, d2, d3, d4]; simp), rfl⟩
set_option maxHeartbeats 1000000 in
theorem r7low_any (n z : Nat) (hz : z ≤ 8) (w : World) :
    Calls Tryz.prog 87 #[.int .u64 n, .int .i64 z] w fun e w' => ∃ x, e = .returned x ∧ Bytes w' x (lowL n z) ∧ Below w.heap.size w w' := by
  have hown0 := own_empty w
  go_enter Tryz.func87, Tryz.ntmps87
  go_wp2
  go_loopw [5, 6] (fun v i wr => ∃ k : Nat, k ≤ z ∧ i = .int .i64 k ∧ wr.ownsRow w.heap.size 5 1 v (lowL n k).length (Lib.byteCells (lowL n k)) ∧ Below w.heap.size w wr) (fun _ i _ => z - (intOf i).toNat)
  case atStart => exact ⟨0, Nat.zero_le _, rfl, hown0, (Below.refl _ _).alloc (Nat.le_refl _) _⟩
  case round =>
    obtain ⟨k, hk, rfl, hown, hb⟩ := hrel
    by_cases hkz : k < z
    · have hsn := hidOf (lowL_snoc n k)
      have hlen := lowL_length n k
      have szw := hb.size
      have hcb := byte_at n k
      rw [Nat.mul_comm] at hcb
      have hcell := cell_new wr (.int .u8 (UInt8.ofNat (n / 256 ^ k)).toNat) 5
      have hown2 := ownsRow_alloc hown (.cells #[.int .u8 (UInt8.ofNat (n / 256 ^ k)).toNat] 5)
      have hlt := own_lt hown
      generalize UInt8.ofNat (n / 256 ^ k) = c at *
      generalize lowL n k = acc at *
      go_wp2_with (at_builtin; refine append_one rfl _ _ rfl w.heap.size _ acc rfl hown2 ⟨wr.heap.size, 0, none⟩ c rfl hcell (by omega) (by rw [size_alloc]; omega) ?_)
      intro v' w1 o1 g1
      have b1 : Below w.heap.size w w1 := (hb.alloc szw _).grown g1 (by rw [size_alloc]; omega) hlt
      rw [← hsn.out] at o1
      clear hown2 g1 hcell
      go_wp2
      go_roundw
      case rel => exact ⟨k + 1, by omega, by go_num, by rw [lowL_length]; exact o1, b1⟩
      case measure => simp [intOf]; omega
    · obtain rfl : k = z := by omega
      go_wp2
      go_ret
      exact ⟨_, rfl, bytes_of_own hown, hb⟩
/-- A number of at most eight bytes, with its sign. -/
def wideN (sg : Bool) (l : List UInt8) : Nat := if sg = true ∧ 0 < l.length ∧ 128 ≤ (l.getLast?.getD 0).toNat then joinL l + (18446744073709551616 - 256 ^ l.length) else joinL l
theorem fill_step (J m k : Nat) (hJ : J < 256 ^ m) (hm : m ≤ k) (hk : k < 8) :
    bits BinOp.or IntKind.u64 (((J + (256 ^ k - 256 ^ m)) : Nat) : Int) (IntKind.u64.wrap (255 * 2 ^ (8 * k))) = (((J + (256 ^ (k + 1) - 256 ^ m)) : Nat) : Int) := by
  have h1 : 256 ^ m ≤ 256 ^ k := Nat.pow_le_pow_right (by omega) hm
  have hp : 256 ^ k ≤ 256 ^ 7 := Nat.pow_le_pow_right (by omega) (by omega)
  have e7 : (256 : Nat) ^ 7 = 72057594037927936 := by decide
  have e : ((255 : Int) * 2 ^ (8 * k)) = ((255 * 256 ^ k : Nat) : Int) := by rw [Nat.mul_comm, two8i]; simp
  have ew : IntKind.u64.wrap ((255 * 256 ^ k : Nat) : Int) = ((255 * 256 ^ k : Nat) : Int) := by
    rw [wrapU]
    omega
  rw [e, ew, u64_or_nat _ _ (by omega) (by omega), Nat.or_comm, nat_join (k * 8) _ _ (by rw [two8]; exact Nat.mul_mod_left _ _) (by rw [two8]; omega), Nat.pow_succ]
  omega
set_option maxHeartbeats 1000000 in
theorem r7Wide_v (t : Int) (x : Value) (l : List UInt8) (w : World) (h8 : l.length ≤ 8) (hB : Bytes w x l) :
    Calls Tryz.prog 86 #[.int .i64 t, x] w fun e w' => e = .returned (.int .u64 (wideN (kind t == 2) l)) ∧ w' = w := by
  obtain ⟨ao, cap, rfl, h0, hc⟩ := hB
  have HS := hidOf (join_step l)
  have hG := r7Signed_any t
  have HW : Hid (wideN (kind t == 2) l = if (kind t == 2) = true ∧ 0 < l.length ∧ 128 ≤ (l.getLast?.getD 0).toNat then joinL l + (18446744073709551616 - 256 ^ l.length) else joinL l) := rfl
  have hJl := joinL_lt l
  generalize wideN (kind t == 2) l = V at *
  generalize (kind t == 2) = sg at *
  go_enter Tryz.func86, Tryz.ntmps86
  go_wp2
  go_loop [5, 6] (fun n i => ∃ k : Nat, k ≤ l.length ∧ i = .int .i64 k ∧ n = .int .u64 (joinL (l.take k))) (fun _ i => l.length - (intOf i).toNat)
  case atStart => exact ⟨0, Nat.zero_le _, rfl, rfl⟩
  case round =>
    obtain ⟨k, hk, rfl, rfl⟩ := hrel
    by_cases hkl : k < l.length
    · obtain ⟨b, off, rfl, hlt, hcell⟩ := hc k hkl
      have H1 := HS.out k hkl h8
      rw [Nat.mul_comm] at H1
      have H2 := hidOf H1
      clear H1
      have hk8 : k < 8 := by omega
      have dk : decide (k < 8) = true := by simpa using hk8
      have di : decide ((k : Int) < 8) = true := by simp; omega
      have hcl := l[k].toNat_lt
      generalize hJ : joinL (l.take k) = J at *
      go_wp2
      go_round
      case rel => exact ⟨k + 1, by omega, by go_num, val_int (by exact H2.out)⟩
      case measure => simp [intOf]; omega
    · obtain rfl : k = l.length := by omega
      rw [List.take_of_length_le (Nat.le_refl _)]
      have dk : decide ((l.length : Int) < (l.length : Int)) = false := by simp
      by_cases hs : sg = true
      · subst hs
        by_cases hl0 : 0 < l.length
        · obtain ⟨b, off, rfl, hlt, hcell⟩ := hc (l.length - 1) (by omega)
          have hlast : l.getLast?.getD 0 = l[l.length - 1] := by
            rw [List.getLast?_eq_getElem?, List.getElem?_eq_getElem (by omega)]
            rfl
          rw [hlast] at HW
          by_cases h128 : 128 ≤ l[l.length - 1].toNat
          · have e1 := hidOf (show V = joinL l + (18446744073709551616 - 256 ^ l.length) by rw [HW.out, if_pos ⟨rfl, hl0, h128⟩])
            have d1 : decide ((128 : Int) ≤ (l[l.length - 1].toNat : Int)) = true := by simp; omega
            clear HW HS
            go_wp2_with (go_at_call 117; refine (hG _).mono ?_; rintro e w1 ⟨rfl, rfl⟩)
            go_loop [5, 7] (fun n i => ∃ k : Nat, l.length ≤ k ∧ k ≤ 8 ∧ i = .int .i64 k ∧ n = .int .u64 ((joinL l + (256 ^ k - 256 ^ l.length) : Nat))) (fun _ i => 8 - (intOf i).toNat)
            case atStart => exact ⟨l.length, Nat.le_refl _, h8, rfl, val_int (by rw [Nat.sub_self]; rfl)⟩
            case round =>
              obtain ⟨k, hk1, hk2, rfl, rfl⟩ := hrel
              by_cases hk8 : k < 8
              · have H1 := hidOf (fill_step (joinL l) l.length k hJl hk1 hk8)
                have dk8 : decide ((k : Int) < 8) = true := by simp; omega
                generalize joinL l + (256 ^ k - 256 ^ l.length) = J at *
                go_wp2
                go_round
                case rel => exact ⟨k + 1, by omega, by omega, by go_num, val_int (by exact H1.out)⟩
                case measure => simp [intOf]; omega
              · have dk8 : decide ((k : Int) < 8) = false := by simp; omega
                obtain rfl : k = 8 := by omega
                go_wp2
                go_ret
                exact ⟨ret_int (by rw [e1.out]; rfl), rfl⟩
          · have e1 := hidOf (show V = joinL l by rw [HW.out, if_neg (fun h => h128 h.2.2)])
            have d1 : decide ((128 : Int) ≤ (l[l.length - 1].toNat : Int)) = false := by simp; omega
            go_wp2_with (go_at_call 117; refine (hG _).mono ?_; rintro e w1 ⟨rfl, rfl⟩)
            go_ret
            exact ⟨ret_int (by rw [e1.out]), rfl⟩
        · have e1 := hidOf (show V = joinL l by rw [HW.out, if_neg (fun h => hl0 h.2.1)])
          have d0 : decide ((0 : Int) < (l.length : Int)) = false := decide_eq_false (by omega)
          have hl0' : l.length = 0 := by omega
          have d0' : decide (0 < l.length) = false := decide_eq_false (by omega)
          clear HW HS
          go_wp2_with (go_at_call 117; refine (hG _).mono ?_; rintro e w1 ⟨rfl, rfl⟩)
          go_ret
          exact ⟨ret_int (by rw [e1.out]), rfl⟩
      · have hs : sg = false := by simpa using hs
        subst hs
        have e1 := hidOf (show V = joinL l by rw [HW.out]; simp)
        clear HW
        go_wp2_with (go_at_call 117; refine (hG _).mono ?_; rintro e w1 ⟨rfl, rfl⟩)
        go_ret
        exact ⟨ret_int (by rw [e1.out]), rfl⟩
end Go.Proofs.YtahfnknbmikmkaaGreat
