/- Slots cut in two. -/
import Derived.Test.YthalhidebkhclaaXb1
import Derived.Laws.CopyRow
import Derived.Laws.MakeOwn
import Derived.Test.YthalhidebkhclaaO15
namespace Go.Proofs.Ythalhidebkhclaa
open Go.RowKit Go.Shelf Go.Proofs.Ty
set_option linter.unusedVariables false
set_option maxRecDepth 1000000
set_option linter.unusedSimpArgs false
theorem ck_all {its : List Im} {inn : Bool} {L : List Sl} (h : ckC its inn L = 0) (k : Nat) (hk : k < L.length) : refC its (L.getD k Sl.nul) inn = 0 ∧ en L (k + 1) ≤ 64 := by
  have h1 : ck1 its inn L k = 0 := by
    unfold ckC at h
    cases hf : ((List.range L.length).map (ck1 its inn L)).find? (fun c => decide (c ≠ 0)) with
    | none =>
      have := List.find?_eq_none.1 hf (ck1 its inn L k) (List.mem_map.2 ⟨k, by simpa using hk, rfl⟩)
      simpa using this
    | some c =>
      have := List.find?_some hf
      rw [hf] at h
      simp at h this
      exact absurd h this
  unfold ck1 at h1
  by_cases h2 : refC its (L.getD k Sl.nul) inn = 0
  · rw [if_neg (by simpa using h2)] at h1
    refine ⟨h2, ?_⟩
    by_cases h3 : 64 < en L (k + 1)
    · rw [if_pos h3] at h1
      cases h1
    · omega
  · rw [if_pos h2] at h1
    exact absurd h1 h2
/-- What is known of a slot that can be. -/
theorem ref_zero {its : List Im} {s : Sl} {inn : Bool} (h : refC its s inn = 0) : ∃ im, fnd its s.ix s.sb = some im ∧ im.e.mp = true ∧ s.bt = (siz im.e.df.t : Int) * 8 ∧ opn im.e.ac inn = true := by
  unfold refC at h
  cases hf : fnd its s.ix s.sb with
  | none =>
    rw [hf] at h
    simp only at h
    unfold wc at h
    rw [hf] at h
    exact absurd h (noc_ne _ _)
  | some im =>
    rw [hf] at h
    simp only at h
    refine ⟨im, rfl, ?_⟩
    split at h
    · cases h
    · rename_i hn
      simp at hn
      refine ⟨?_, ?_, ?_⟩
      all_goals first | exact hn.1 | exact hn.2.1 | exact hn.2.2
/-- Whole bytes. -/
def off (L : List Sl) (k : Nat) : Nat := (en L k).toNat / 8
theorem en_off {its : List Im} {inn : Bool} {L : List Sl} (h : ckC its inn L = 0) : ∀ k, k ≤ L.length → en L k = 8 * (off L k : Int) ∧ off L k ≤ 8 ∧ (∀ j, k = j + 1 → en L k = en L j + (L.getD j Sl.nul).bt ∧ off L j ≤ off L k) := by
  intro k
  induction k with
  | zero => intro _; exact ⟨by simp [en, off], by simp [en, off], fun j e => by cases e⟩
  | succ k ih =>
    intro hk
    obtain ⟨h1, h2, _⟩ := ih (by omega)
    obtain ⟨h3, h4⟩ := ck_all h k (by omega)
    obtain ⟨im, _, _, hb, _⟩ := ref_zero h3
    have hs : siz im.e.df.t ≤ 8 := by unfold siz; split <;> (try omega); split <;> (try omega); split <;> (try omega); split <;> omega
    have he : en L (k + 1) = en L k + (L.getD k Sl.nul).bt := by
      show wrap64 _ = _
      rw [hb, h1]
      simp only [wrap64]
      omega
    rw [hb, h1] at he
    have ho : off L (k + 1) = off L k + siz im.e.df.t := by
      have e1 : off L (k + 1) = (en L (k + 1)).toNat / 8 := rfl
      rw [e1, he]
      omega
    refine ⟨by rw [he, ho]; omega, by rw [he] at h4; omega, fun j e => ?_⟩
    obtain rfl : k = j := by omega
    exact ⟨by rw [he, hb, h1], by omega⟩
/-- The entries that may be mapped are numbers. -/
def Mn (its : List Im) : Prop := ∀ im ∈ its, im.e.mp = true → 0 < siz im.e.df.t
theorem off_more {its : List Im} {inn : Bool} {L : List Sl} (hm : Mn its) (h : ckC its inn L = 0) : ∀ k, k ≤ L.length → k ≤ off L k := by
  intro k
  induction k with
  | zero => intro _; exact Nat.zero_le _
  | succ k ih =>
    intro hk
    have h0 := ih (by omega)
    obtain ⟨h1, _, _⟩ := en_off h k (by omega)
    obtain ⟨h2, _, h3⟩ := en_off h (k + 1) hk
    obtain ⟨h4, _⟩ := h3 k rfl
    obtain ⟨im, hf, hmp, hb, _⟩ := ref_zero (ck_all h k (by omega)).1
    have := hm im (fnd_mem hf) hmp
    rw [hb] at h4
    omega
theorem few {its : List Im} {inn : Bool} {L : List Sl} (hm : Mn its) (h : ckC its inn L = 0) : L.length ≤ 8 := Nat.le_trans (off_more hm h _ (Nat.le_refl _)) (en_off h _ (Nat.le_refl _)).2.1
theorem siz_le (t : Int) : siz t ≤ 8 := by unfold siz; split <;> (try omega); split <;> (try omega); split <;> (try omega); split <;> omega
theorem sz_off {its : List Im} {inn : Bool} {L : List Sl} (hm : Mn its) (h : ckC its inn L = 0) : szC L = off L L.length := by
  have h8 := few hm h
  unfold szC
  rw [if_neg (by omega), if_pos]
  · obtain ⟨h1, _, _⟩ := en_off h L.length (Nat.le_refl _)
    rw [h1]
    omega
  · intro k hk
    obtain ⟨im, _, _, hb, _⟩ := ref_zero (ck_all h k (by simpa using hk)).1
    have := siz_le im.e.df.t
    unfold gdS
    rw [hb]
    omega
/-- What pieces asks. -/
theorem off_ask {its : List Im} {inn : Bool} {L : List Sl} (h : ckC its inn L = 0) (k : Nat) (hk : k < L.length) : en L (k + 1) = 8 * (off L (k + 1) : Int) ∧ en L (k + 1) - (L.getD k Sl.nul).bt = 8 * (off L k : Int) ∧ off L k ≤ off L (k + 1) ∧ off L (k + 1) ≤ 8 := by
  obtain ⟨h1, _, _⟩ := en_off h k (by omega)
  obtain ⟨h2, h8, h3⟩ := en_off h (k + 1) hk
  obtain ⟨h4, h5⟩ := h3 k rfl
  exact ⟨h2, by omega, h5, h8⟩
theorem off_mono {its : List Im} {inn : Bool} {L : List Sl} (h : ckC its inn L = 0) : ∀ d k, k + d ≤ L.length → off L k ≤ off L (k + d)
  | 0, k, _ => Nat.le_refl _
  | d + 1, k, hk => Nat.le_trans (off_mono h d k (by omega)) ((off_ask h (k + d) (by omega)).2.2.1)
end Go.Proofs.Ythalhidebkhclaa
namespace Go.Proofs.Ythalhidebkhclaa
open Go.RowKit Go.Shelf Go.Proofs.Ty
set_option linter.unusedVariables false
set_option maxRecDepth 1000000
set_option linter.unusedSimpArgs false
/-- A block of bytes. -/
def Bk (g : Nat) (bs : List UInt8) (w : World) : Prop := w.heap[g]? = some (.cells (Lib.byteCells bs).toArray 5 (0, 0))
/-- Bytes with others laid over them. -/
def lay13 (bs : List UInt8) (o : Nat) (l : List UInt8) : List UInt8 := bs.take o ++ l ++ bs.drop (o + l.length)
theorem lay13_len (bs : List UInt8) (o : Nat) (l : List UInt8) (h : o + l.length ≤ bs.length) : (lay13 bs o l).length = bs.length := by
  unfold lay13
  simp
  omega
theorem add_off13 (b off j : Nat) : (⟨b, off, none⟩ : Addr).add j = ⟨b, off + j, none⟩ := by
  unfold Addr.add
  split
  · rename_i h; subst h; rfl
  · rfl
theorem byteCells_one13 (l : List UInt8) (v : Value) (hv : v ∈ Lib.byteCells l) : v.oneCell' = true := by
  simp only [Lib.byteCells, List.mem_map] at hv
  obtain ⟨x, _, rfl⟩ := hv
  rfl
theorem Kp.row1 (w : World) (g : Nat) (A : Array Value) : Kp [g] w (w.setRow g A) :=
  ⟨rfl, rfl, rfl, by simp, fun k hk hn => setRow_other _ _ _ _ (by simpa using hn)⟩
theorem copyP (w : World) (g o dc : Nat) (bs : List UInt8) (hg : Bk g bs w) (u : Value) (l : List UInt8) (hB : Bytes w u l) (h1 : 0 < l.length) (hfit : o + l.length ≤ bs.length) :
    ∃ w', (∀ ty, (Builtin.copy_ #[24, 24] ty #[.slice (some ⟨g, o, none⟩) l.length dc, u]).run Try.prog w = .ok (.int .i64 (l.length : Nat)) w') ∧ Bk g (lay13 bs o l) w' ∧ Kp [g] w w' := by
  obtain ⟨ao, cp, rfl, h0, hc⟩ := hB
  have hi1 : (Try.prog.info? 5).map (·.size) = some 1 := by kernel_rfl
  obtain ⟨b0, off0, rfl, _, _⟩ := hc 0 h1
  have hcs : (Lib.byteCells l).length = l.length := Lib.byteCells_length l
  have hbs : (Lib.byteCells bs).length = bs.length := Lib.byteCells_length bs
  refine ⟨_, fun ty => ?_, ?_, Kp.row1 w g (((Lib.byteCells bs).toArray.toList.take o ++ Lib.byteCells l ++ (Lib.byteCells bs).toArray.toList.drop (o + (Lib.byteCells l).length)).toArray)⟩
  · have := run_copy_row (P := Try.prog) w 24 24 ty 5 g o l.length dc ⟨b0, off0, none⟩ l.length cp (Lib.byteCells bs).toArray 5 (Lib.byteCells l) Try.underlying24 hi1 hg (by rw [hcs]; simp) (fun j v hv => by
      have hj : j < l.length := by have := (List.getElem?_eq_some_iff.1 hv).1; rwa [hcs] at this
      obtain ⟨b, off, ha, _, hcell⟩ := hc j hj
      injection ha with ha
      injection ha with e1 e2
      subst e1 e2
      rw [add_off13, hcell]
      have hv2 : (Lib.byteCells l)[j]? = some (.int .u8 (l[j].toNat : Int)) := by simp [Lib.byteCells, hj]
      exact (hv2.symm.trans hv)) (by simp [hcs, hbs]; omega) (fun v hv => byteCells_one13 _ v hv)
    rw [this, hcs]
    rfl
  · have e : (Lib.byteCells (lay13 bs o l)).toArray = ((Lib.byteCells bs).toArray.toList.take o ++ Lib.byteCells l ++ (Lib.byteCells bs).toArray.toList.drop (o + (Lib.byteCells l).length)).toArray := by
      unfold lay13
      simp [Lib.byteCells, List.map_take, List.map_drop]
    unfold Bk
    rw [e]
    exact setRow_heap w g _ _ _ _ hg
end Go.Proofs.Ythalhidebkhclaa
namespace Go.Proofs.Ythalhidebkhclaa
open Go.RowKit Go.Shelf Go.Proofs.Ty
set_option linter.unusedVariables false
set_option maxRecDepth 1000000
set_option linter.unusedSimpArgs false
attribute [local go_sem] Oper.semAt_some
/-- The bytes of a slot's entry. -/
def encL (its : List Im) (L : List Sl) (k : Nat) : List UInt8 := (getV its (L.getD k Sl.nul).ix (L.getD k Sl.nul).sb).enc
/-- The bytes when k slots are told. -/
def pkB (its : List Im) (L : List Sl) : Nat → List UInt8
  | 0 => List.replicate (off L L.length) 0
  | k + 1 => lay13 (pkB its L k) (off L k) (encL its L k)
/-- Values of numbers have the bytes of their types. -/
def Vn (its : List Im) : Prop := ∀ im ∈ its, im.e.mp = true → im.v.enc.length = siz im.e.df.t
theorem encL_len {its : List Im} {inn : Bool} {L : List Sl} (hv : Vn its) (h : ckC its inn L = 0) (k : Nat) (hk : k < L.length) : (encL its L k).length = off L (k + 1) - off L k := by
  obtain ⟨h1, h2, h3, h4⟩ := off_ask h k hk
  obtain ⟨im, hf, hmp, hb, _⟩ := ref_zero (ck_all h k hk).1
  have e := hv im (fnd_mem hf) hmp
  unfold encL getV
  rw [hf]
  show im.v.enc.length = _
  rw [e]
  omega
theorem pkB_len {its : List Im} {inn : Bool} {L : List Sl} (hv : Vn its) (h : ckC its inn L = 0) : ∀ k, k ≤ L.length → (pkB its L k).length = off L L.length
  | 0, _ => by simp [pkB]
  | k + 1, hk => by
    have e := pkB_len hv h k (by omega)
    have e2 := encL_len hv h k hk
    have e3 := off_mono h (L.length - (k + 1)) (k + 1) (by omega)
    have e4 := (off_ask h k hk).2.2.1
    rw [show k + 1 + (L.length - (k + 1)) = L.length by omega] at e3
    unfold pkB
    rw [lay13_len _ _ _ (by omega), e]
theorem slice13 (g n lo hi : Nat) (h1 : lo < hi) (h2 : hi ≤ n) (W : World) : (Instr.sliceAt 24 (.slice (some ⟨g, 0, none⟩) n n) (some (.int .i64 lo)) (some (.int .i64 hi)) none).run Try.prog W = .ok (.slice (some ⟨g, lo, none⟩) (hi - lo) (n - lo)) W := by
  obtain ⟨i0, hi0, hz0, hz1, hz2⟩ := info_parts info5
  have a0 : (0 : Int) ≤ (lo : Int) := by omega
  have a1 : (lo : Int) ≤ (hi : Int) := by omega
  have a2 : (hi : Int) ≤ (n : Int) := by omega
  have a3 : ¬ n = lo := by omega
  by_cases h0 : lo = 0
  · subst h0
    simp [Instr.sliceAt, run_underlying Try.underlying24, go_sem, sizeOf, typeInfo, hi0, hz1, Addr.add, a2]
  · simp [Instr.sliceAt, run_underlying Try.underlying24, go_sem, sizeOf, typeInfo, hi0, hz1, Addr.add, a0, a1, a2, a3, h0]
set_option maxRecDepth 100000 in
set_option maxHeartbeats 8000000 in
theorem pdPack_bad {D R : Nat} {its : List Im} {w : World} (h : Dct D R its w) (v : Value) (L : List Sl) (hWd : Wide 3 slC w v L) (hL : L.length ≤ 8796093022000) (hc : ckC its false L ≠ 0) :
    Calls Try.prog 10 #[.pointer (some ⟨D, 0, none⟩), v] w fun e w' => e = .returned (.tuple #[.slice none 0 0, .int .i64 1]) ∧ Below w.heap.size w w' := by
  obtain ⟨ao, cap, hv⟩ := hWd.shape
  obtain ⟨N, hN⟩ : ∃ N, L.length = N := ⟨_, rfl⟩
  rw [hN] at hv
  subst hv
  obtain ⟨q, hq⟩ : ∃ q, w.heap.size = q := ⟨_, rfl⟩
  obtain ⟨w1, hw1⟩ : ∃ x, w.alloc (.cells #[.pointer (some ⟨D, 0, none⟩)] 31) = x := ⟨_, rfl⟩
  have s1 : w1.heap.size = q + 1 := by rw [← hw1, size_alloc, hq]
  have b1 : Below w.heap.size w w1 := by rw [← hw1]; exact (Below.refl _ w).alloc (Nat.le_refl _) _
  have x1 : w1.heap[q]? = some (.cells #[.pointer (some ⟨D, 0, none⟩)] 31 (0, 0)) := by rw [← hw1, ← hq]; exact heap_alloc_new w _
  have c1 : w1.cell? ⟨q, 0, none⟩ = some (.pointer (some ⟨D, 0, none⟩)) := Lib.cell_of_heap x1 0
  have hCk := pdCheck_any (h.below b1) (.slice ao N cap) L (hWd.same b1.size (fun b _ hl => b1.block b hl)) hL false
  obtain ⟨cc, hcc⟩ : ∃ c, ckC its false L = c := ⟨_, rfl⟩
  rw [hcc] at hCk hc
  have d1 : ((cc : Int) != 0) = true := by simp; omega
  have HB1 := hidOf b1
  clear hcc h hWd b1 x1 hN
  refine (callsIn_wide (n := 4)).1 ?_
  refine callsIn_of_wp_marks Try.func10 rfl trivial ?_ rfl
  simp only [Try.ntmps10, List.size_toArray, List.length_cons, List.length_nil, Nat.reduceAdd, Nat.reduceSub, Array.replicate_succ, Array.replicate_zero, List.push_toArray, List.append_toArray, List.nil_append, List.cons_append]
  gi_wp2_with (refine ⟨trivial, ?_⟩; gi_at_call 18; refine (callsIn_wide.2 hCk).mono ?_; rintro e X3 ⟨rfl, b3⟩; have HB3 := hidOf b3; clear b3)
  refine ⟨.tuple #[.slice none 0 0, .int .i64 1], by simp [Go.results, Try.results10, go_sem], rfl, ?_⟩
  exact HB1.out.trans (HB3.out.mono HB1.out.size)
theorem made13 (n : Nat) (hn : n ≤ 8) : madeCells #[.int .u8 0] n = (Lib.byteCells (List.replicate n 0)).toArray := by
  apply Array.ext
  · simp [size_madeCells, Lib.byteCells]
  · intro i h1 h2
    simp [madeCells, Nat.mod_one, Lib.byteCells]
theorem makeB (n : Nat) (hn : n ≤ 8) (W : World) : (Instr.makeSlice 24 (.int .i64 (n : Int)) (.int .i64 (n : Int))).run Try.prog W = .ok (.slice (some ⟨W.heap.size, 0, none⟩) n n) (W.alloc (.cells (Lib.byteCells (List.replicate n 0)).toArray 5)) := by
  obtain ⟨i0, hi0, hz0, hz1, hz2⟩ := info_parts info5
  have := run_make (P := Try.prog) W 24 5 i0 (.int .u8 0) Try.underlying24 hi0 hz0 .i64 .i64 n n (by omega) (Int.le_refl _) (by rw [hz2]; omega) (by omega)
  rw [hz1, Int.toNat_natCast, Nat.mul_one] at this
  rw [this, show (Value.int .u8 0).cells = #[.int .u8 0] from rfl, made13 n hn]
theorem off_lt {its : List Im} {inn : Bool} {L : List Sl} (hm : Mn its) (h : ckC its inn L = 0) (k : Nat) (hk : k < L.length) : off L k < off L (k + 1) := by
  obtain ⟨h1, h2, _, _⟩ := off_ask h k hk
  obtain ⟨im, hf, hmp, hb, _⟩ := ref_zero (ck_all h k hk).1
  have := hm im (fnd_mem hf) hmp
  omega
/-- What stands between two rounds of Pack. -/
structure Pk (w : World) (q D g : Nat) (bs : List UInt8) (W : World) : Prop where
  b0 : W.heap[q]? = some (.cells #[.pointer (some ⟨D, 0, none⟩)] 31 (0, 0))
  bk : Bk g bs W
  old : Below w.heap.size w W
  sz : g + 3 ≤ W.heap.size
theorem Pk.grown {w A W : World} {q D g B : Nat} {bs : List UInt8} {row : Option Nat} (h : Pk w q D g bs A) (hB : w.heap.size ≤ B) (hg : A.grownBy W row) (hr : ∀ r, row = some r → B ≤ r ∧ ∃ o : Obj, A.heap[r]? = some o ∧ o.isCells = false) : Pk w q D g bs W := by
  have hr2 := fun r e => (hr r e).2
  exact ⟨(grown_cells h.b0 hg hr2).trans h.b0, (grown_cells h.bk hg hr2).trans h.bk, below_grown h.old hB hg (fun r e => (hr r e).1), Nat.le_trans h.sz hg.size⟩
theorem Pk.below {w A W : World} {q D g : Nat} {bs : List UInt8} (h : Pk w q D g bs A) (hb : Below A.heap.size A W) : Pk w q D g bs W :=
  ⟨(hb.block q (Array.getElem?_eq_some_iff.1 h.b0).1).trans h.b0, (hb.block g (Array.getElem?_eq_some_iff.1 h.bk).1).trans h.bk, h.old.trans (hb.mono h.old.size), Nat.le_trans h.sz hb.size⟩
set_option maxRecDepth 100000 in
set_option maxHeartbeats 8000000 in
theorem pdPack_ok {D R : Nat} {its : List Im} {w : World} (h : Dct D R its w) (v : Value) (L : List Sl) (hWd : Wide 3 slC w v L) (hL : L.length ≤ 8796093022000) (hc : ckC its false L = 0) (hm : Mn its) (hvn : Vn its) :
    Calls Try.prog 10 #[.pointer (some ⟨D, 0, none⟩), v] w fun e w' => ∃ g, e = .returned (.tuple #[.slice (some ⟨g, 0, none⟩) (szC L) (szC L), .int .i64 0]) ∧ Below w.heap.size w w' ∧ w.heap.size ≤ g ∧ Bk g (pkB its L L.length) w' := by
  obtain ⟨ao, cap, hv⟩ := hWd.shape
  obtain ⟨N, hN⟩ : ∃ N, L.length = N := ⟨_, rfl⟩
  rw [hN] at hv
  subst hv
  obtain ⟨q, hq⟩ : ∃ q, w.heap.size = q := ⟨_, rfl⟩
  obtain ⟨w1, hw1⟩ : ∃ x, w.alloc (.cells #[.pointer (some ⟨D, 0, none⟩)] 31) = x := ⟨_, rfl⟩
  have s1 : w1.heap.size = q + 1 := by rw [← hw1, size_alloc, hq]
  have b1 : Below w.heap.size w w1 := by rw [← hw1]; exact (Below.refl _ w).alloc (Nat.le_refl _) _
  have x1 : w1.heap[q]? = some (.cells #[.pointer (some ⟨D, 0, none⟩)] 31 (0, 0)) := by rw [← hw1, ← hq]; exact heap_alloc_new w _
  have c1 : w1.cell? ⟨q, 0, none⟩ = some (.pointer (some ⟨D, 0, none⟩)) := Lib.cell_of_heap x1 0
  have hCk := pdCheck_any (h.below b1) (.slice ao N cap) L (hWd.same b1.size (fun b _ hl => b1.block b hl)) hL false
  rw [hc] at hCk
  have hSz : ∀ X, Below w.heap.size w X → Calls Try.prog 14 #[.slice ao N cap] X fun e w' => e = .returned (.int .i64 (szC L : Nat)) ∧ Below X.heap.size X w' := fun X hX => pdSize_any (.slice ao N cap) L (hWd.same hX.size (fun b _ hl => hX.block b hl)) hL
  have HSZ := hidOf hSz
  have hs8 : szC L ≤ 8 := by rw [sz_off hm hc]; exact (en_off hc _ (Nat.le_refl _)).2.1
  obtain ⟨m, hm1⟩ : ∃ m, szC L = m := ⟨_, rfl⟩
  rw [hm1] at hs8 ⊢
  have HM := hidOf hm1
  have HC := hidOf hc
  have HB1 := hidOf b1
  have HX1 := hidOf x1
  have HD := hidOf h
  have HWD := hidOf hWd
  have HN := hidOf hN
  have HMN := hidOf hm
  have HVN := hidOf hvn
  clear h hWd b1 x1 hN hc hm hvn hSz hm1
  refine (callsIn_wide (n := 4)).1 ?_
  refine callsIn_of_wp_marks Try.func10 rfl trivial ?_ rfl
  simp only [Try.ntmps10, List.size_toArray, List.length_cons, List.length_nil, Nat.reduceAdd, Nat.reduceSub, Array.replicate_succ, Array.replicate_zero, List.push_toArray, List.append_toArray, List.nil_append, List.cons_append]
  gi_wp2_with (refine ⟨trivial, ?_⟩; first | (gi_at_call 18; refine (callsIn_wide.2 hCk).mono ?_; rintro e X3 ⟨rfl, b3⟩; have HB3 := hidOf (HB1.out.trans (b3.mono HB1.out.size)); have HQ3 := hidOf ((b3.block q (by omega)).trans HX1.out); have hS3 := HSZ.out X3 HB3.out; clear b3) | (gi_at_call 14; refine (callsIn_wide.2 hS3).mono ?_; rw [HM.out]; rintro e X4 ⟨rfl, b4⟩; have HB4 := hidOf (HB3.out.trans (b4.mono HB3.out.size)); have HQ4 := hidOf ((b4.block q (Array.getElem?_eq_some_iff.1 HQ3.out).1).trans HQ3.out); have hmk := makeB m hs8 X4; clear b4) | (gi_at_call 19; refine (pieces_in Fence.wide 3 trivial rfl _ _ _ _ _ _ _).mono ?_; rintro e w' ⟨rfl, rfl⟩))
  have s4 := HB4.out.size
  obtain ⟨g, hg⟩ : ∃ g, X4.heap.size = g := ⟨_, rfl⟩
  rw [hg] at s4
  obtain ⟨v1, hv1⟩ : ∃ x, X4.alloc (.cells (Lib.byteCells (List.replicate m 0)).toArray 5) = x := ⟨_, rfl⟩
  obtain ⟨v2, hv2⟩ : ∃ x, v1.alloc (.cells #[.slice ao N cap] 23) = x := ⟨_, rfl⟩
  obtain ⟨w5, hw5⟩ : ∃ x, v2.alloc (.cells #[.slice (some ⟨g, 0, none⟩) m m] 24) = x := ⟨_, rfl⟩
  rw [hg, hv1, hv2, hw5]
  have sv1 : v1.heap.size = g + 1 := by rw [← hv1, size_alloc, hg]
  have sv2 : v2.heap.size = g + 2 := by rw [← hv2, size_alloc, sv1]
  have s5 : w5.heap.size = g + 3 := by rw [← hw5, size_alloc, sv2]
  have bv1 : Below X4.heap.size X4 v1 := by rw [← hv1]; exact (Below.refl _ _).alloc (Nat.le_refl _) _
  have bv2 : Below v1.heap.size v1 v2 := by rw [← hv2]; exact (Below.refl _ _).alloc (Nat.le_refl _) _
  have bv3 : Below v2.heap.size v2 w5 := by rw [← hw5]; exact (Below.refl _ _).alloc (Nat.le_refl _) _
  have C5 : Below X4.heap.size X4 w5 := (bv1.trans (bv2.mono bv1.size)).trans (bv3.mono (bv1.trans (bv2.mono bv1.size)).size)
  have B5 : Below w.heap.size w w5 := HB4.out.trans (C5.mono HB4.out.size)
  have hqX := (Array.getElem?_eq_some_iff.1 HQ4.out).1
  have y0 : w5.heap[q]? = some (.cells #[.pointer (some ⟨D, 0, none⟩)] 31 (0, 0)) := (C5.block q hqX).trans HQ4.out
  have y1 : Bk g (List.replicate m 0) w5 := (bv3.block g (by omega)).trans ((bv2.block g (by omega)).trans (by rw [← hv1, ← hg]; exact heap_alloc_new X4 _))
  have y2 : w5.heap[g + 1]? = some (.cells #[.slice ao N cap] 23 (0, 0)) := (bv3.block (g + 1) (by omega)).trans (by rw [← hv2, ← sv1]; exact heap_alloc_new v1 _)
  have y3 : w5.heap[g + 2]? = some (.cells #[.slice (some ⟨g, 0, none⟩) m m] 24 (0, 0)) := by rw [← hw5, ← sv2]; exact heap_alloc_new v2 _
  have hNL := HN.out
  have hmo : m = off L L.length := by rw [← HM.out]; exact sz_off HMN.out HC.out
  have hle : ∀ k, k < N → off L (k + 1) ≤ m := fun k hk => by
    have := off_mono HC.out (L.length - (k + 1)) (k + 1) (by omega)
    rw [show k + 1 + (L.length - (k + 1)) = L.length by omega] at this
    omega
  have hseq := pieces_seqN (g + 1) (g + 2) ao (some ⟨g, 0, none⟩) N cap m m L hNL hL (off L) (fun k => .slice (some ⟨g, off L k, none⟩) (off L (k + 1) - off L k) (m - off L k)) w5 y2 y3 (HWD.out.same B5.size (fun b _ hl => B5.block b hl)) (fun k hk => off_ask HC.out k (by omega)) (fun k hk W => slice13 g m (off L k) (off L (k + 1)) (off_lt HMN.out HC.out k (by omega)) (hle k hk) W)
  have hOB : ∀ b, (Value.slice ao N cap).ownBlock = some b → 0 < L.length → b < q := fun b hb h0 => by
    obtain ⟨ao', cap', he, _, hc⟩ := HWD.out
    injection he with he
    obtain ⟨b', off, ha, hlt, _⟩ := hc 0 h0
    rw [he, ha] at hb
    simp [Value.ownBlock] at hb
    omega
  have hBl : ∀ b ∈ bks (g + 2) (.slice ao N cap) L.length, b < g + 3 ∧ b ≠ g := fun b hb => by
    unfold bks at hb
    simp only [List.mem_cons] at hb
    rcases hb with rfl | hb
    · omega
    · split at hb
      · have := hOB b (by simpa using hb) (by assumption)
        omega
      · cases hb
  refine rf_over (gf := 36) (lb := #[.pointer (some ⟨g + 1, 0, none⟩), .pointer (some ⟨g + 2, 0, none⟩)]) rfl (enters_of Try.func36 (by kernel_rfl) rfl) hseq (fun _ => rfl) (fun b hb => by rw [s5]; exact (hBl b hb).1)
    (fun k X => Pk w q D g (pkB its L k) X) (fun _ _ => False) ?hI ?hIx ?h0 ?round ?done ?stop
  case hI => exact fun k A B row hs hg hr => hs.grown (B := w5.heap.size) (by omega) hg hr
  case hIx => exact fun k A B row hs hg hr => hs
  case h0 => exact ⟨y0, by show Bk g (List.replicate (off L L.length) 0) w5; rw [← hmo]; exact y1, B5, by omega⟩
  case round =>
    rintro l' k X hP hk hl hlX
    obtain ⟨s, hs⟩ : ∃ s, L.getD k Sl.nul = s := ⟨_, rfl⟩
    obtain ⟨X1, hX1⟩ : ∃ x, X.alloc (.cells #[.int .u16 (s.ix : Int), .int .u8 (s.sb : Int), .int .i64 s.bt] 47) = x := ⟨_, rfl⟩
    have b9 : Below X.heap.size X X1 := by rw [← hX1]; exact (Below.refl _ _).alloc (Nat.le_refl _) _
    have hz : Sb X.heap.size s X1 := by rw [← hX1]; exact heap_alloc_new X _
    have sX1 : X1.heap.size = X.heap.size + 1 := by rw [← hX1, size_alloc]
    have hXs : g + 3 < X.heap.size := by omega
    obtain ⟨o1, ho1⟩ : ∃ o, off L k = o := ⟨_, rfl⟩
    obtain ⟨o2, ho2⟩ : ∃ o, off L (k + 1) - off L k = o := ⟨_, rfl⟩
    have hln : (encL its L k).length = o2 := by rw [← ho2]; exact encL_len HVN.out HC.out k (by omega)
    have ho2p : 0 < o2 := by have := off_lt HMN.out HC.out k (by omega); omega
    have hfit : o1 + o2 ≤ (pkB its L k).length := by
      rw [pkB_len HVN.out HC.out k (by omega), ← hmo]
      have := hle k hk
      omega
    refine ⟨fun a1 V => a1 = { tmps := #[.pointer (some ⟨D, 0, none⟩), .slice ao N cap, .pointer (some ⟨q, 0, none⟩), undef, .slice none 0 0, .int .i64 0, .slice (some ⟨g, 0, none⟩) m m, .pointer (some ⟨X.heap.size, 0, none⟩), .slice (some ⟨g, o1, none⟩) o2 (m - o1), .pointer (some ⟨D, 0, none⟩), .slice ao N cap, .int .u32 0, .bool false, .slice ao N cap, .int .i64 (m : Int), .slice (some ⟨g, 0, none⟩) m m, .slice ao N cap, .slice (some ⟨g, 0, none⟩) m m, .func (.func 36) #[] #[.pointer (some ⟨g + 1, 0, none⟩), .pointer (some ⟨g + 2, 0, none⟩)], .agg s.arr, .slice (some ⟨g, o1, none⟩) o2 (m - o1), undef, undef, undef, undef, undef, undef], defers := [] } ∧ V = X1, ?_, ?_⟩
    · have HF : Hid (Ka (bks (g + 2) (.slice ao N cap) L.length) w5.heap.size X X1) := Ka.below b9 (fun b hb => by have := hBl b hb; omega)
      simp only [pcV]
      rw [hs, ho2, ho1]
      simp only [Sl.arr, slC]
      clear hz b9 hP hseq hmk hCk hS3 y0 y1 y2 y3 hmo hle hfit hln ho1 ho2
      gi_wp2
      refine ⟨HF.out, ?_, ?_⟩ <;> first | trivial | rfl
    · rintro a1 V Y ⟨rfl, hV⟩ ⟨r, r', hr, hYe⟩
      rw [hV] at hr hYe
      have sY : Y.heap.size = X.heap.size + 1 := by rw [hYe]; simpa [World.putObj] using sX1
      have PX := hP.below b9
      have PY : Pk w q D g (pkB its L k) Y := by
        rw [hYe]
        exact PX.grown (B := w5.heap.size) (by omega) (grownBy_putObj' X1 l' _) (fun r0 e => by cases e; exact ⟨hl, _, hr, rfl⟩)
      have zY : Sb X.heap.size s Y := by rw [hYe]; exact (World.putObj_heap_other (by omega)).trans hz
      have y5 : Y.cell? ⟨q, 0, none⟩ = some (.pointer (some ⟨D, 0, none⟩)) := Lib.cell_of_heap PY.b0 0
      have z0 := zY.c0
      have z1 := zY.c1
      have z2 := zY.c2
      have hV5 : Calls Try.prog 22 #[.pointer (some ⟨D, 0, none⟩), .agg #[.int .u16 (s.ix : Int), .int .u8 (s.sb : Int), .int .i64 s.bt]] Y fun e w' => ∃ x, e = .returned x ∧ Bytes w' x (encL its L k) ∧ Below Y.heap.size Y w' ∧ (∀ b, x.ownBlock = some b → Y.heap.size ≤ b) := by
        unfold encL
        rw [hs]
        exact valueOf_any (HD.out.below PY.old) s
      have HPY := hidOf PY
      have HBLe := hidOf hBl
      have HFI := hidOf hfit
      have HLN := hidOf hln
      have HS5 := hidOf s5
      have HO1 := hidOf ho1
      clear hz b9 hP hseq hmk hCk hS3 y0 y1 y2 y3 PX PY zY hr hYe hs ho1 ho2 hfit hBl hle hmo hOB hln s5
      gi_wp2_with (refine ⟨trivial, ?_⟩; gi_at_call 22; refine (CallsIn.inRound l' (callsIn_wide.2 hV5)).mono ?_; rintro e X5 ⟨x, rfl, hBx, b5, hfr⟩; have HP5 := hidOf (HPY.out.below b5); obtain ⟨W6, hcp, hbk, hkp⟩ := copyP X5 g o1 (m - o1) _ HP5.out.bk x _ hBx (by rw [HLN.out]; exact ho2p) (by rw [HLN.out]; exact HFI.out); rw [HLN.out] at hcp; obtain ⟨xa, xc, hx, hxx⟩ := hBx; rw [HLN.out] at hx; subst hx; have hcp2 := hcp 3; have HK := hidOf (And.intro b5 (And.intro hbk hkp)); clear b5 hbk hkp hcp hxx hfr)
      obtain ⟨b5, hbk, hkp⟩ := HK.out
      have hs5 := HS5.out
      have hPs := HP5.out.sz
      have hb5s := b5.size
      refine ⟨⟨fun b hb => ?_, Nat.le_trans b5.size hkp.size, fun j h1 h2 => ?_⟩, ⟨?_, ?_, ?_, ?_⟩⟩
      · have hb2 := HBLe.out b hb
        exact (hkp.block b (by omega) (by simpa using hb2.2)).trans (b5.block b (by omega))
      · exact (hkp.block j (by omega) (by simp; omega)).trans (b5.block j h2)
      · exact (hkp.block q (by omega) (by simp; omega)).trans HP5.out.b0
      · show Bk g (lay13 (pkB its L k) (off L k) (encL its L k)) W6
        rw [HO1.out]
        exact hbk
      · exact hkp.below HP5.out.old HP5.out.old.size (fun b hb => by simp at hb; omega)
      · exact Nat.le_trans hPs hkp.size
  case done =>
    rintro DD X hD hP hK
    have hgD : DD ≠ g := by intro e; rw [e, hP.bk] at hK; cases hK
    have hP2 := hP.grown (B := w5.heap.size) (by omega) (grownBy_putObj' X DD (.deferred none)) (fun r0 e => by cases e; exact ⟨hD, _, hK, rfl⟩)
    have HP2 := hidOf hP2
    clear hP hP2 hseq hmk hCk hS3 y0 y1 y2 y3 hmo hle hBl hOB
    gi_wp2
    refine ⟨by simp, .inl ⟨_, _, rfl, run_takeDeferred hK, ?_⟩⟩
    refine ⟨.tuple #[.slice (some ⟨g, 0, none⟩) m m, .int .i64 0], by simp [Go.results, Try.results10, go_sem], g, rfl, HP2.out.old, by omega, ?_⟩
    rw [hNL]
    exact HP2.out.bk
  case stop => exact fun D k X _ _ h _ => h.elim
end Go.Proofs.Ythalhidebkhclaa
namespace Go.Proofs.Ythalhidebkhclaa
open Go.RowKit Go.Shelf Go.Proofs.Ty
set_option linter.unusedVariables false
set_option maxRecDepth 1000000
set_option linter.unusedSimpArgs false
attribute [local go_sem] Oper.semAt_some
/-- The bytes of slot k. -/
def pcL (L : List Sl) (l : List UInt8) (k : Nat) : List UInt8 := (l.drop (off L k)).take (off L (k + 1) - off L k)
/-- What is there when the first k are written. -/
def wrN (its : List Im) (L : List Sl) (l : List UInt8) : Nat → List Im
  | 0 => its
  | k + 1 => wrt (wrN its L l k) (L.getD k Sl.nul).ix (L.getD k Sl.nul).sb (pcL L l k)
/-- Two boxes: the dictionary's, and the result's. -/
structure Up (w : World) (q D : Nat) (c : Int) (W : World) : Prop where
  b0 : W.heap[q]? = some (.cells #[.pointer (some ⟨D, 0, none⟩)] 31 (0, 0))
  b1 : W.heap[q + 1]? = some (.cells #[.int .i64 c] 29 (0, 0))
  old : Below w.heap.size w W
theorem Up.start (w : World) (D : Nat) : Up w w.heap.size D 0 ((w.alloc (.cells #[.pointer (some ⟨D, 0, none⟩)] 31)).alloc (.cells #[.int .i64 0] 29)) := by
  have b1 : Below w.heap.size w (w.alloc (.cells #[.pointer (some ⟨D, 0, none⟩)] 31)) := (Below.refl _ w).alloc (Nat.le_refl _) _
  refine ⟨?_, ?_, b1.alloc b1.size _⟩
  · exact (Lib.alloc_old _ _ _ (by rw [size_alloc]; omega)).trans (heap_alloc_new w _)
  · have := heap_alloc_new (w.alloc (.cells #[.pointer (some ⟨D, 0, none⟩)] 31)) (.cells #[.int .i64 0] 29)
    rwa [size_alloc] at this
theorem Up.below {w A W : World} {q D : Nat} {c : Int} (h : Up w q D c A) (hb : Below A.heap.size A W) : Up w q D c W :=
  ⟨(hb.block q (Array.getElem?_eq_some_iff.1 h.b0).1).trans h.b0, (hb.block _ (Array.getElem?_eq_some_iff.1 h.b1).1).trans h.b1, h.old.trans (hb.mono h.old.size)⟩
theorem Up.set {w W : World} {q D : Nat} {c : Int} (h : Up w q D c W) (hq : w.heap.size ≤ q) (d : Int) : Up w q D d (W.setCell ⟨q + 1, 0, none⟩ (.int .i64 d)) := by
  refine ⟨(Below.heap_setCell W ⟨q + 1, 0, none⟩ _ q (by show q ≠ q + 1; omega)).trans h.b0, ?_, (Kp.cell1 W (q + 1) 0 _).below h.old h.old.size (fun b hb => by simp at hb; omega)⟩
  simp only [World.setCell, Array.getElem?_modify, h.b1]
  simp
theorem Up.c {w W : World} {q D : Nat} {c : Int} (h : Up w q D c W) : W.cell? ⟨q + 1, 0, none⟩ = some (.int .i64 c) := Lib.cell_of_heap h.b1 0
set_option maxRecDepth 100000 in
set_option maxHeartbeats 8000000 in
theorem pdUnpack_bad {D R : Nat} {its : List Im} {w : World} (h : Dct D R its w) (v : Value) (L : List Sl) (hWd : Wide 3 slC w v L) (hL : L.length ≤ 8796093022000) (vb : Value) (l : List UInt8) (hB : Bytes w vb l) (hc : ckC its true L ≠ 0) :
    Calls Try.prog 8 #[.pointer (some ⟨D, 0, none⟩), v, vb] w fun e w' => e = .returned (.int .i64 1) ∧ Below w.heap.size w w' := by
  obtain ⟨ao, cap, hv⟩ := hWd.shape
  obtain ⟨ab, cb, rfl, _⟩ := hB
  obtain ⟨N, hN⟩ : ∃ N, L.length = N := ⟨_, rfl⟩
  rw [hN] at hv
  subst hv
  obtain ⟨q, hq⟩ : ∃ q, w.heap.size = q := ⟨_, rfl⟩
  have HU0 := Up.start w D
  obtain ⟨w1, hw1⟩ : ∃ x, w.alloc (.cells #[.pointer (some ⟨D, 0, none⟩)] 31) = x := ⟨_, rfl⟩
  obtain ⟨w2, hw2⟩ : ∃ x, w1.alloc (.cells #[.int .i64 0] 29) = x := ⟨_, rfl⟩
  rw [hw1, hw2, hq] at HU0
  have s1 : w1.heap.size = q + 1 := by rw [← hw1, size_alloc, hq]
  have b1 : Below w.heap.size w w2 := HU0.old
  have c1 : w2.cell? ⟨q, 0, none⟩ = some (.pointer (some ⟨D, 0, none⟩)) := Lib.cell_of_heap HU0.b0 0
  have hCk := pdCheck_any (h.below b1) (.slice ao N cap) L (hWd.same b1.size (fun b _ hl => b1.block b hl)) hL true
  obtain ⟨cc, hcc⟩ : ∃ c, ckC its true L = c := ⟨_, rfl⟩
  rw [hcc] at hCk hc
  have d1 : ((cc : Int) != 0) = true := by simp; omega
  have HU := hidOf HU0
  clear hcc h hWd b1 hN HU0
  refine (callsIn_wide (n := 4)).1 ?_
  refine callsIn_of_wp_marks Try.func8 rfl trivial ?_ rfl
  simp only [Try.ntmps8, List.size_toArray, List.length_cons, List.length_nil, Nat.reduceAdd, Nat.reduceSub, Array.replicate_succ, Array.replicate_zero, List.push_toArray, List.append_toArray, List.nil_append, List.cons_append]
  gi_wp2_with (refine ⟨trivial, ?_⟩; gi_at_call 18; refine (callsIn_wide.2 hCk).mono ?_; rintro e X3 ⟨rfl, b3⟩; have HU3 := hidOf (HU.out.below b3); have c3 := HU3.out.c; have f3 : X3.frozen? ⟨q + 1, 0, none⟩ = false := Lib.frozen_of_heap HU3.out.b1 0; clear b3)
  have hr := HU3.out.set (by omega) 1
  have c9 := hr.c
  exact ⟨.int .i64 1, by simp [results, Try.results8, asAddr, go_sem, run_underlying Try.underlying29, c9], rfl, hr.old⟩
set_option maxRecDepth 100000 in
set_option maxHeartbeats 8000000 in
theorem pdUnpack_short {D R : Nat} {its : List Im} {w : World} (h : Dct D R its w) (v : Value) (L : List Sl) (hWd : Wide 3 slC w v L) (hL : L.length ≤ 8796093022000) (vb : Value) (l : List UInt8) (hB : Bytes w vb l) (hl : l.length < 9223372036854775808) (hc : ckC its true L = 0) (hs : l.length < szC L) :
    Calls Try.prog 8 #[.pointer (some ⟨D, 0, none⟩), v, vb] w fun e w' => e = .returned (.int .i64 3) ∧ Below w.heap.size w w' := by
  obtain ⟨ao, cap, hv⟩ := hWd.shape
  obtain ⟨ab, cb, rfl, _⟩ := hB
  obtain ⟨N, hN⟩ : ∃ N, L.length = N := ⟨_, rfl⟩
  rw [hN] at hv
  subst hv
  obtain ⟨q, hq⟩ : ∃ q, w.heap.size = q := ⟨_, rfl⟩
  have HU0 := Up.start w D
  obtain ⟨w1, hw1⟩ : ∃ x, w.alloc (.cells #[.pointer (some ⟨D, 0, none⟩)] 31) = x := ⟨_, rfl⟩
  obtain ⟨w2, hw2⟩ : ∃ x, w1.alloc (.cells #[.int .i64 0] 29) = x := ⟨_, rfl⟩
  rw [hw1, hw2, hq] at HU0
  have s1 : w1.heap.size = q + 1 := by rw [← hw1, size_alloc, hq]
  have b1 : Below w.heap.size w w2 := HU0.old
  have c1 : w2.cell? ⟨q, 0, none⟩ = some (.pointer (some ⟨D, 0, none⟩)) := Lib.cell_of_heap HU0.b0 0
  have hCk := pdCheck_any (h.below b1) (.slice ao N cap) L (hWd.same b1.size (fun b _ hl => b1.block b hl)) hL true
  rw [hc] at hCk
  have HSZ : Hid (∀ X, Below w.heap.size w X → Calls Try.prog 14 #[.slice ao N cap] X fun e w' => e = .returned (.int .i64 (szC L : Nat)) ∧ Below X.heap.size X w') := fun X hX => pdSize_any (.slice ao N cap) L (hWd.same hX.size (fun b _ hl => hX.block b hl)) hL
  have HU := hidOf HU0
  obtain ⟨m, hm1⟩ : ∃ m, szC L = m := ⟨_, rfl⟩
  obtain ⟨n, hn1⟩ : ∃ n, l.length = n := ⟨_, rfl⟩
  rw [hm1, hn1] at hs
  have HM := hidOf hm1
  have d2 : decide ((n : Int) < (m : Int)) = true := by simp; omega
  rw [hn1]
  clear h hWd b1 hN HU0 hc hm1 hn1 hl
  refine (callsIn_wide (n := 4)).1 ?_
  refine callsIn_of_wp_marks Try.func8 rfl trivial ?_ rfl
  simp only [Try.ntmps8, List.size_toArray, List.length_cons, List.length_nil, Nat.reduceAdd, Nat.reduceSub, Array.replicate_succ, Array.replicate_zero, List.push_toArray, List.append_toArray, List.nil_append, List.cons_append]
  gi_wp2_with (refine ⟨trivial, ?_⟩; first | (gi_at_call 18; refine (callsIn_wide.2 hCk).mono ?_; rintro e X3 ⟨rfl, b3⟩; have HU3 := hidOf (HU.out.below b3); have hS3 := HSZ.out X3 HU3.out.old; clear b3) | (gi_at_call 14; refine (callsIn_wide.2 hS3).mono ?_; rw [HM.out]; rintro e X4 ⟨rfl, b4⟩; have HU4 := hidOf (HU3.out.below b4); have c3 := HU4.out.c; have f3 : X4.frozen? ⟨q + 1, 0, none⟩ = false := Lib.frozen_of_heap HU4.out.b1 0; clear b4))
  have hr := HU4.out.set (by omega) 3
  have c9 := hr.c
  exact ⟨.int .i64 3, by simp [results, Try.results8, asAddr, go_sem, run_underlying Try.underlying29, c9], rfl, hr.old⟩
end Go.Proofs.Ythalhidebkhclaa
namespace Go.Proofs.Ythalhidebkhclaa
open Go.RowKit Go.Shelf Go.Proofs.Ty
set_option linter.unusedVariables false
set_option maxRecDepth 1000000
set_option linter.unusedSimpArgs false
attribute [local go_sem] Oper.semAt_some
/-- The pieces as values. -/
theorem parts13 {its : List Im} {inn : Bool} {L : List Sl} {w : World} {vb : Value} {l : List UInt8} (hB : Bytes w vb l) (hC : Cp vb) (hm : Mn its) (hc : ckC its inn L = 0) (hs : szC L ≤ l.length) :
    ∃ bp : Nat → Value, ∀ k, k < L.length → (∀ W, (Instr.sliceAt 24 vb (some (.int .i64 (off L k : Nat))) (some (.int .i64 (off L (k + 1) : Nat))) none).run Try.prog W = .ok (bp k) W) ∧ (∀ x, Bytes x vb l → Bytes x (bp k) (pcL L l k)) := by
  have H : ∀ k, ∃ p : Value, k < L.length → (∀ W, (Instr.sliceAt 24 vb (some (.int .i64 (off L k : Nat))) (some (.int .i64 (off L (k + 1) : Nat))) none).run Try.prog W = .ok p W) ∧ (∀ x, Bytes x vb l → Bytes x p (pcL L l k)) := fun k => by
    by_cases hk : k < L.length
    · have h1 := (off_ask hc k hk).2.2.1
      have h2 := off_mono hc (L.length - (k + 1)) (k + 1) (by omega)
      rw [show k + 1 + (L.length - (k + 1)) = L.length by omega, ← sz_off hm hc] at h2
      obtain ⟨a, c, h3, h4, _⟩ := bslice_lh hB hC (off L k) (off L (k + 1)) h1 (by omega)
      exact ⟨_, fun _ => ⟨h3, h4⟩⟩
    · exact ⟨undef, fun h => absurd h hk⟩
  exact ⟨fun k => Classical.choose (H k), fun k hk => Classical.choose_spec (H k) hk⟩
theorem Up.grown {w A W : World} {q D B : Nat} {c : Int} {row : Option Nat} (h : Up w q D c A) (hB : w.heap.size ≤ B) (hg : A.grownBy W row) (hr : ∀ r, row = some r → B ≤ r ∧ ∃ o : Obj, A.heap[r]? = some o ∧ o.isCells = false) : Up w q D c W := by
  have hr2 := fun r e => (hr r e).2
  exact ⟨(grown_cells h.b0 hg hr2).trans h.b0, (grown_cells h.b1 hg hr2).trans h.b1, below_grown h.old hB hg (fun r e => (hr r e).1)⟩
set_option maxRecDepth 100000 in
set_option maxHeartbeats 8000000 in
theorem pdUnpack_form {D R : Nat} {its : List Im} {w : World} (h : Dct D R its w) (v : Value) (L : List Sl) (hWd : Wide 3 slC w v L) (hL : L.length ≤ 8796093022000) (vb : Value) (l : List UInt8) (hB : Bytes w vb l) (hC : Cp vb) (hl : l.length < 9223372036854775808) (hc : ckC its true L = 0) (hm : Mn its) (hs : szC L ≤ l.length)
    (hf : ¬ ∀ k, k < L.length → wc its (L.getD k Sl.nul).ix (L.getD k Sl.nul).sb (pcL L l k) = 0) :
    Calls Try.prog 8 #[.pointer (some ⟨D, 0, none⟩), v, vb] w fun e w' => e = .returned (.int .i64 8) ∧ Below w.heap.size w w' := by
  obtain ⟨bp, hbp⟩ := parts13 hB hC hm hc hs
  obtain ⟨ao, cap, hv⟩ := hWd.shape
  have HBY := hidOf hB
  obtain ⟨ab, cb, hvb, _⟩ := hB
  obtain ⟨N, hN⟩ : ∃ N, L.length = N := ⟨_, rfl⟩
  rw [hN] at hv
  subst hv
  obtain ⟨q, hq⟩ : ∃ q, w.heap.size = q := ⟨_, rfl⟩
  have HU0 := Up.start w D
  obtain ⟨w1, hw1⟩ : ∃ x, w.alloc (.cells #[.pointer (some ⟨D, 0, none⟩)] 31) = x := ⟨_, rfl⟩
  obtain ⟨w2, hw2⟩ : ∃ x, w1.alloc (.cells #[.int .i64 0] 29) = x := ⟨_, rfl⟩
  rw [hw1, hw2, hq] at HU0
  have s1 : w1.heap.size = q + 1 := by rw [← hw1, size_alloc, hq]
  have b1 : Below w.heap.size w w2 := HU0.old
  have c1 : w2.cell? ⟨q, 0, none⟩ = some (.pointer (some ⟨D, 0, none⟩)) := Lib.cell_of_heap HU0.b0 0
  have hCk := pdCheck_any (h.below b1) (.slice ao N cap) L (hWd.same b1.size (fun b _ hl => b1.block b hl)) hL true
  rw [hc] at hCk
  have HSZ : Hid (∀ X, Below w.heap.size w X → Calls Try.prog 14 #[.slice ao N cap] X fun e w' => e = .returned (.int .i64 (szC L : Nat)) ∧ Below X.heap.size X w') := fun X hX => pdSize_any (.slice ao N cap) L (hWd.same hX.size (fun b _ hl => hX.block b hl)) hL
  have HU := hidOf HU0
  obtain ⟨m, hm1⟩ : ∃ m, szC L = m := ⟨_, rfl⟩
  obtain ⟨n, hn1⟩ : ∃ n, l.length = n := ⟨_, rfl⟩
  rw [hm1, hn1] at hs
  have HM := hidOf hm1
  have d2 : decide ((n : Int) < (m : Int)) = false := by simp; omega
  rw [hn1] at hvb
  have HD := hidOf h
  have HWD := hidOf hWd
  have HN := hidOf hN
  have HMN := hidOf hm
  have HC := hidOf hc
  have HBP := hidOf hbp
  have HFF := hidOf hf
  subst hvb
  clear h hWd b1 hN HU0 hc hm1 hn1 hl hbp hf hm hC
  refine (callsIn_wide (n := 4)).1 ?_
  refine callsIn_of_wp_marks Try.func8 rfl trivial ?_ rfl
  simp only [Try.ntmps8, List.size_toArray, List.length_cons, List.length_nil, Nat.reduceAdd, Nat.reduceSub, Array.replicate_succ, Array.replicate_zero, List.push_toArray, List.append_toArray, List.nil_append, List.cons_append]
  gi_wp2_with (refine ⟨trivial, ?_⟩; first | (gi_at_call 18; refine (callsIn_wide.2 hCk).mono ?_; rintro e X3 ⟨rfl, b3⟩; have HU3 := hidOf (HU.out.below b3); have hS3 := HSZ.out X3 HU3.out.old; clear b3) | (gi_at_call 14; refine (callsIn_wide.2 hS3).mono ?_; rw [HM.out]; rintro e X4 ⟨rfl, b4⟩; have HU4 := hidOf (HU3.out.below b4); clear b4) | (gi_at_call 19; refine (pieces_in Fence.wide 3 trivial rfl _ _ _ _ _ _ _).mono ?_; rintro e w' ⟨rfl, rfl⟩))
  have s4 := HU4.out.old.size
  have hqX := (Array.getElem?_eq_some_iff.1 HU4.out.b1).1
  obtain ⟨g, hg⟩ : ∃ g, X4.heap.size = g := ⟨_, rfl⟩
  rw [hg] at s4 hqX
  obtain ⟨v2, hv2⟩ : ∃ x, X4.alloc (.cells #[.slice ao N cap] 23) = x := ⟨_, rfl⟩
  obtain ⟨w5, hw5⟩ : ∃ x, v2.alloc (.cells #[.slice ab n cb] 24) = x := ⟨_, rfl⟩
  rw [hg, hv2, hw5]
  have sv2 : v2.heap.size = g + 1 := by rw [← hv2, size_alloc, hg]
  have s5 : w5.heap.size = g + 2 := by rw [← hw5, size_alloc, sv2]
  have bv2 : Below X4.heap.size X4 v2 := by rw [← hv2]; exact (Below.refl _ _).alloc (Nat.le_refl _) _
  have bv3 : Below v2.heap.size v2 w5 := by rw [← hw5]; exact (Below.refl _ _).alloc (Nat.le_refl _) _
  have U5 : Up w q D 0 w5 := (HU4.out.below bv2).below bv3
  have y2 : w5.heap[g]? = some (.cells #[.slice ao N cap] 23 (0, 0)) := (bv3.block g (by omega)).trans (by rw [← hv2, ← hg]; exact heap_alloc_new X4 _)
  have y3 : w5.heap[g + 1]? = some (.cells #[.slice ab n cb] 24 (0, 0)) := by rw [← hw5, ← sv2]; exact heap_alloc_new v2 _
  have hNL := HN.out
  have hseq := pieces_seqN g (g + 1) ao ab N cap n cb L hNL hL (off L) bp w5 y2 y3 (HWD.out.same U5.old.size (fun b _ hl => U5.old.block b hl)) (fun k hk => off_ask HC.out k (by omega)) (fun k hk W => (HBP.out k (by omega)).1 W)
  have hOB : ∀ b, (Value.slice ao N cap).ownBlock = some b → 0 < L.length → b < q := fun b hb h0 => by
    obtain ⟨ao', cap', he, _, hc⟩ := HWD.out
    injection he with he
    obtain ⟨b', off, ha, hlt, _⟩ := hc 0 h0
    rw [he, ha] at hb
    simp [Value.ownBlock] at hb
    omega
  have hBl : ∀ b ∈ bks (g + 1) (.slice ao N cap) L.length, b < g + 2 ∧ b ≠ q ∧ b ≠ q + 1 := fun b hb => by
    unfold bks at hb
    simp only [List.mem_cons] at hb
    rcases hb with rfl | hb
    · omega
    · split at hb
      · have := hOB b (by simpa using hb) (by assumption)
        omega
      · cases hb
  refine rf_over (gf := 36) (lb := #[.pointer (some ⟨g, 0, none⟩), .pointer (some ⟨g + 1, 0, none⟩)]) rfl (enters_of Try.func36 (by kernel_rfl) rfl) hseq (fun _ => rfl) (fun b hb => by rw [s5]; exact (hBl b hb).1)
    (fun k X => Up w q D 0 X ∧ ∀ j, j < k → wc its (L.getD j Sl.nul).ix (L.getD j Sl.nul).sb (pcL L l j) = 0) (fun _ X => Up w q D 8 X) ?hI ?hIx ?h0 ?round ?done ?stop
  case hI => exact fun k A B row hs hg hr => ⟨hs.1.grown (B := w5.heap.size) (by omega) hg hr, hs.2⟩
  case hIx => exact fun k A B row hs hg hr => hs.grown (B := w5.heap.size) (by omega) hg hr
  case h0 => exact ⟨U5, fun j hj => by omega⟩
  case round =>
    rintro l' k X ⟨hP, hPz⟩ hk hl hlX
    obtain ⟨s, hs⟩ : ∃ s, L.getD k Sl.nul = s := ⟨_, rfl⟩
    obtain ⟨pv, hpv⟩ : ∃ p, bp k = p := ⟨_, rfl⟩
    obtain ⟨X1, hX1⟩ : ∃ x, X.alloc (.cells #[.int .u16 (s.ix : Int), .int .u8 (s.sb : Int), .int .i64 s.bt] 47) = x := ⟨_, rfl⟩
    have b9 : Below X.heap.size X X1 := by rw [← hX1]; exact (Below.refl _ _).alloc (Nat.le_refl _) _
    have hz : Sb X.heap.size s X1 := by rw [← hX1]; exact heap_alloc_new X _
    have sX1 : X1.heap.size = X.heap.size + 1 := by rw [← hX1, size_alloc]
    have hXs : g + 2 < X.heap.size ∨ g + 2 = X.heap.size := by omega
    refine ⟨fun a1 V => a1 = { tmps := #[.pointer (some ⟨D, 0, none⟩), .slice ao N cap, .slice ab n cb, .pointer (some ⟨q, 0, none⟩), undef, undef, .pointer (some ⟨q + 1, 0, none⟩), .pointer (some ⟨X.heap.size, 0, none⟩), pv, undef, undef, .bool false, .pointer (some ⟨D, 0, none⟩), .slice ao N cap, .int .u32 0, .bool false, .bool false, .slice ab n cb, .int .i64 (n : Int), .slice ao N cap, .int .i64 (m : Int), .bool false, .slice ao N cap, .slice ab n cb, .func (.func 36) #[] #[.pointer (some ⟨g, 0, none⟩), .pointer (some ⟨g + 1, 0, none⟩)], .agg s.arr, pv, undef, undef, undef, undef, undef, undef, undef, undef, undef, undef, undef, undef, undef, undef, undef, undef, undef, undef, undef, undef], defers := [] } ∧ V = X1, ?_, ?_⟩
    · have HF : Hid (Ka (bks (g + 1) (.slice ao N cap) L.length) w5.heap.size X X1) := Ka.below b9 (fun b hb => by have := hBl b hb; omega)
      simp only [pcV]
      rw [hs, hpv]
      simp only [Sl.arr, slC]
      clear hz b9 hP hseq hCk hS3 y2 y3 hPz hs hpv
      gi_wp2
      refine ⟨HF.out, ?_, ?_⟩ <;> first | trivial | rfl
    · rintro a1 V Y ⟨rfl, hV⟩ ⟨r, r', hr, hYe⟩
      rw [hV] at hr hYe
      have sY : Y.heap.size = X.heap.size + 1 := by rw [hYe]; simpa [World.putObj] using sX1
      have PY : Up w q D 0 Y := by
        rw [hYe]
        exact (hP.below b9).grown (B := w5.heap.size) (by omega) (grownBy_putObj' X1 l' _) (fun r0 e => by cases e; exact ⟨hl, _, hr, rfl⟩)
      have zY : Sb X.heap.size s Y := by rw [hYe]; exact (World.putObj_heap_other (by omega)).trans hz
      have y5 : Y.cell? ⟨q, 0, none⟩ = some (.pointer (some ⟨D, 0, none⟩)) := Lib.cell_of_heap PY.b0 0
      have z0 := zY.c0
      have z1 := zY.c1
      have z2 := zY.c2
      have hMy := May_any (HD.out.below PY.old) s.ix s.sb s.hx s.hs pv (pcL L l k) (by rw [← hpv]; exact (HBP.out k (by omega)).2 Y (HBY.out.below PY.old))
      obtain ⟨cc, hcc⟩ : ∃ c, wc its s.ix s.sb (pcL L l k) = c := ⟨_, rfl⟩
      rw [hcc] at hMy
      have HCC : Hid (wc its (L.getD k Sl.nul).ix (L.getD k Sl.nul).sb (pcL L l k) = cc) := by show _ = _; rw [hs, hcc]
      have HPY := hidOf PY
      have HPZ := hidOf hPz
      have HBLe := hidOf hBl
      have HS5 := hidOf s5
      have HXS := hidOf hXs
      clear hz b9 hP hseq hCk hS3 y2 y3 PY zY hr hYe hs hpv hBl hOB s5 hPz hcc hXs
      by_cases h0 : cc = 0
      · have d3 : ((cc : Int) != 0) = false := by simp; omega
        gi_wp2_with (refine ⟨trivial, ?_⟩; gi_at_call 20; refine (CallsIn.inRound l' (callsIn_wide.2 hMy)).mono ?_; rintro e X5 ⟨rfl, b5⟩; have HB5 := hidOf b5; clear b5)
        have hs5 := HS5.out
        have b5 := HB5.out
        refine ⟨Ka.below b5 (fun b hb => by have := HBLe.out b hb; have := HXS.out; omega), HPY.out.below b5, fun j hj => ?_⟩
        by_cases hjk : j = k
        · subst hjk; rw [HCC.out]; exact h0
        · exact HPZ.out j (by omega)
      · have d3 : ((cc : Int) != 0) = true := by simp; omega
        gi_wp2_with (refine ⟨trivial, ?_⟩; gi_at_call 20; refine (CallsIn.inRound l' (callsIn_wide.2 hMy)).mono ?_; rintro e X5 ⟨rfl, b5⟩; have HB5 := hidOf b5; have HU5 := hidOf (HPY.out.below b5); have c3 := HU5.out.c; have f3 : X5.frozen? ⟨q + 1, 0, none⟩ = false := Lib.frozen_of_heap HU5.out.b1 0; clear b5)
        have hs5 := HS5.out
        have b5 := HB5.out
        have hxs := HXS.out
        exact ⟨⟨fun b hb => (by cases hb), by simpa [World.setCell] using b5.size, fun j h1 h2 => (Below.heap_setCell X5 ⟨q + 1, 0, none⟩ _ j (by show j ≠ q + 1; omega)).trans (b5.block j h2)⟩, HU5.out.set (by omega) 8⟩
  case done =>
    rintro DD X hD ⟨_, hz⟩ hK
    exact absurd (fun k hk => hz k (by omega)) HFF.out
  case stop =>
    rintro DD k X hD hk hU hK
    have hU2 := hU.grown (B := w5.heap.size) (by omega) (grownBy_putObj' X DD (.deferred none)) (fun r0 e => by cases e; exact ⟨hD, _, hK, rfl⟩)
    have c9 := hU2.c
    have HU2 := hidOf hU2
    clear hU hU2 hseq hCk hS3 y2 y3 hBl hOB
    gi_wp2
    refine ⟨by simp, .inl ⟨_, _, rfl, run_takeDeferred hK, ?_⟩⟩
    exact ⟨.int .i64 8, by simp [results, Try.results8, asAddr, go_sem, run_underlying Try.underlying29, c9], rfl, HU2.out.old⟩
end Go.Proofs.Ythalhidebkhclaa
namespace Go.Proofs.Ythalhidebkhclaa
open Go.RowKit Go.Shelf Go.Proofs.Ty
set_option linter.unusedVariables false
set_option maxRecDepth 1000000
set_option linter.unusedSimpArgs false
attribute [local go_sem] Oper.semAt_some
theorem wrt_b (its : List Im) (ix sb : Nat) (l : List UInt8) : (wrt its ix sb l).map Im.b = its.map Im.b := by
  unfold wrt
  split
  · split
    · rfl
    · exact setV_b _ _ _
  · rfl
theorem wrN_b (its : List Im) (L : List Sl) (l : List UInt8) : ∀ k, (wrN its L l k).map Im.b = its.map Im.b
  | 0 => rfl
  | k + 1 => by unfold wrN; rw [wrt_b]; exact wrN_b its L l k
theorem Dct.grown {D R : Nat} {its : List Im} {A W : World} {row : Option Nat} (h : Dct D R its A) (hg : A.grownBy W row) (hr : ∀ r, row = some r → ∃ o : Obj, A.heap[r]? = some o ∧ o.isCells = false) : Dct D R its W :=
  ⟨(grown_cells h.head hg hr).trans h.head, (grown_cells h.row hg hr).trans h.row, fun i hi => (grown_cells (h.items i hi) hg hr).trans (h.items i hi), h.apart, h.sorted, h.len⟩
theorem Dct.low {D R n : Nat} {its : List Im} {A W : World} (h : Dct D R its A) (hD : D < n) (hR : R < n) (hi : ∀ b ∈ its.map Im.b, b < n) (hs : ∀ x, x < n → W.heap[x]? = A.heap[x]?) : Dct D R its W :=
  ⟨(hs D hD).trans h.head, (hs R hR).trans h.row, fun i him => (hs i.b (hi i.b (List.mem_map.2 ⟨i, him, rfl⟩))).trans (h.items i him), h.apart, h.sorted, h.len⟩
/-- What stands between two rounds of the writing. -/
structure Uw (w : World) (q D R DD : Nat) (bs : List Nat) (c : Int) (its : List Im) (W : World) : Prop where
  b0 : W.heap[q]? = some (.cells #[.pointer (some ⟨D, 0, none⟩)] 31 (0, 0))
  b1 : W.heap[q + 1]? = some (.cells #[.int .i64 c] 29 (0, 0))
  dd : W.heap[DD]? = some (.deferred (some []))
  kp : Kp bs w W
  dct : Dct D R its W
section
variable {w A W : World} {q D R DD B : Nat} {bs : List Nat} {cz : Int} {its : List Im}
theorem Uw.grown {row : Option Nat} (h : Uw w q D R DD bs cz its A) (hB : w.heap.size ≤ B) (hD : DD < B) (hg : A.grownBy W row) (hr : ∀ r, row = some r → B ≤ r ∧ ∃ o : Obj, A.heap[r]? = some o ∧ o.isCells = false) : Uw w q D R DD bs cz its W := by
  have hr2 := fun r e => (hr r e).2
  refine ⟨(grown_cells h.b0 hg hr2).trans h.b0, (grown_cells h.b1 hg hr2).trans h.b1, (hg.block DD (Array.getElem?_eq_some_iff.1 h.dd).1 (fun e => by have := (hr DD e.symm).1; omega)).trans h.dd, ⟨hg.os.trans h.kp.os, hg.tape.trans h.kp.tape, hg.output.trans h.kp.output, Nat.le_trans h.kp.size hg.size, fun k hk hn => (hg.block k (Nat.lt_of_lt_of_le hk h.kp.size) (fun e => by have := (hr k e.symm).1; omega)).trans (h.kp.block k hk hn)⟩, h.dct.grown hg hr2⟩
theorem Uw.below (h : Uw w q D R DD bs cz its A) (hb : Below A.heap.size A W) : Uw w q D R DD bs cz its W :=
  ⟨(hb.block q (Array.getElem?_eq_some_iff.1 h.b0).1).trans h.b0, (hb.block _ (Array.getElem?_eq_some_iff.1 h.b1).1).trans h.b1, (hb.block _ (Array.getElem?_eq_some_iff.1 h.dd).1).trans h.dd, ⟨hb.os.trans h.kp.os, hb.tape.trans h.kp.tape, hb.output.trans h.kp.output, Nat.le_trans h.kp.size hb.size, fun k hk hn => (hb.block k (Nat.lt_of_lt_of_le hk h.kp.size)).trans (h.kp.block k hk hn)⟩, h.dct.below hb⟩
theorem Uw.c (h : Uw w q D R DD bs cz its W) : W.cell? ⟨q + 1, 0, none⟩ = some (.int .i64 cz) := Lib.cell_of_heap h.b1 0
end
set_option maxRecDepth 100000 in
set_option maxHeartbeats 8000000 in
theorem pdUnpack_ok {D R : Nat} {its : List Im} {w : World} (h : Dct D R its w) (v : Value) (L : List Sl) (hWd : Wide 3 slC w v L) (hL : L.length ≤ 8796093022000) (vb : Value) (l : List UInt8) (hB : Bytes w vb l) (hC : Cp vb) (hl : l.length < 9223372036854775808) (hc : ckC its true L = 0) (hm : Mn its) (hs : szC L ≤ l.length)
    (hf : ∀ k, k < L.length → wc its (L.getD k Sl.nul).ix (L.getD k Sl.nul).sb (pcL L l k) = 0)
    (hap : ∀ b, v.ownBlock = some b → b ∉ its.map Im.b) (hapb : ∀ b, vb.ownBlock = some b → b ∉ its.map Im.b) :
    Calls Try.prog 8 #[.pointer (some ⟨D, 0, none⟩), v, vb] w fun e w' => e = .returned (.int .i64 0) ∧ Dct D R (wrN its L l L.length) w' ∧ Kp (its.map Im.b) w w' := by
  obtain ⟨bp, hbp⟩ := parts13 hB hC hm hc hs
  obtain ⟨ao, cap, hv⟩ := hWd.shape
  have HBY := hidOf hB
  obtain ⟨ab, cb, hvb, _⟩ := hB
  obtain ⟨N, hN⟩ : ∃ N, L.length = N := ⟨_, rfl⟩
  rw [hN] at hv
  subst hv
  obtain ⟨q, hq⟩ : ∃ q, w.heap.size = q := ⟨_, rfl⟩
  have HU0 := Up.start w D
  obtain ⟨w1, hw1⟩ : ∃ x, w.alloc (.cells #[.pointer (some ⟨D, 0, none⟩)] 31) = x := ⟨_, rfl⟩
  obtain ⟨w2, hw2⟩ : ∃ x, w1.alloc (.cells #[.int .i64 0] 29) = x := ⟨_, rfl⟩
  rw [hw1, hw2, hq] at HU0
  have s1 : w1.heap.size = q + 1 := by rw [← hw1, size_alloc, hq]
  have b1 : Below w.heap.size w w2 := HU0.old
  have c1 : w2.cell? ⟨q, 0, none⟩ = some (.pointer (some ⟨D, 0, none⟩)) := Lib.cell_of_heap HU0.b0 0
  have hCk := pdCheck_any (h.below b1) (.slice ao N cap) L (hWd.same b1.size (fun b _ hl => b1.block b hl)) hL true
  rw [hc] at hCk
  have HSZ : Hid (∀ X, Below w.heap.size w X → Calls Try.prog 14 #[.slice ao N cap] X fun e w' => e = .returned (.int .i64 (szC L : Nat)) ∧ Below X.heap.size X w') := fun X hX => pdSize_any (.slice ao N cap) L (hWd.same hX.size (fun b _ hl => hX.block b hl)) hL
  have HU := hidOf HU0
  obtain ⟨m, hm1⟩ : ∃ m, szC L = m := ⟨_, rfl⟩
  obtain ⟨n, hn1⟩ : ∃ n, l.length = n := ⟨_, rfl⟩
  rw [hm1, hn1] at hs
  have HM := hidOf hm1
  have d2 : decide ((n : Int) < (m : Int)) = false := by simp; omega
  rw [hn1] at hvb
  have HD := hidOf h
  have HWD := hidOf hWd
  have HN := hidOf hN
  have HMN := hidOf hm
  have HC := hidOf hc
  have HBP := hidOf hbp
  have HFF := hidOf hf
  have HAP := hidOf hap
  have HAPB := hidOf hapb
  subst hvb
  clear h hWd b1 hN HU0 hc hm1 hn1 hl hbp hf hm hC hap hapb
  refine (callsIn_wide (n := 4)).1 ?_
  refine callsIn_of_wp_marks Try.func8 rfl trivial ?_ rfl
  simp only [Try.ntmps8, List.size_toArray, List.length_cons, List.length_nil, Nat.reduceAdd, Nat.reduceSub, Array.replicate_succ, Array.replicate_zero, List.push_toArray, List.append_toArray, List.nil_append, List.cons_append]
  gi_wp2_with (refine ⟨trivial, ?_⟩; first | (gi_at_call 18; refine (callsIn_wide.2 hCk).mono ?_; rintro e X3 ⟨rfl, b3⟩; have HU3 := hidOf (HU.out.below b3); have hS3 := HSZ.out X3 HU3.out.old; clear b3) | (gi_at_call 14; refine (callsIn_wide.2 hS3).mono ?_; rw [HM.out]; rintro e X4 ⟨rfl, b4⟩; have HU4 := hidOf (HU3.out.below b4); clear b4) | (gi_at_call 19; refine (pieces_in Fence.wide 3 trivial rfl _ _ _ _ _ _ _).mono ?_; rintro e w' ⟨rfl, rfl⟩))
  have s4 := HU4.out.old.size
  have hqX := (Array.getElem?_eq_some_iff.1 HU4.out.b1).1
  obtain ⟨g, hg⟩ : ∃ g, X4.heap.size = g := ⟨_, rfl⟩
  rw [hg] at s4 hqX
  obtain ⟨v2, hv2⟩ : ∃ x, X4.alloc (.cells #[.slice ao N cap] 23) = x := ⟨_, rfl⟩
  obtain ⟨w5, hw5⟩ : ∃ x, v2.alloc (.cells #[.slice ab n cb] 24) = x := ⟨_, rfl⟩
  rw [hg, hv2, hw5]
  have sv2 : v2.heap.size = g + 1 := by rw [← hv2, size_alloc, hg]
  have s5 : w5.heap.size = g + 2 := by rw [← hw5, size_alloc, sv2]
  have bv2 : Below X4.heap.size X4 v2 := by rw [← hv2]; exact (Below.refl _ _).alloc (Nat.le_refl _) _
  have bv3 : Below v2.heap.size v2 w5 := by rw [← hw5]; exact (Below.refl _ _).alloc (Nat.le_refl _) _
  have U5 : Up w q D 0 w5 := (HU4.out.below bv2).below bv3
  have y2 : w5.heap[g]? = some (.cells #[.slice ao N cap] 23 (0, 0)) := (bv3.block g (by omega)).trans (by rw [← hv2, ← hg]; exact heap_alloc_new X4 _)
  have y3 : w5.heap[g + 1]? = some (.cells #[.slice ab n cb] 24 (0, 0)) := by rw [← hw5, ← sv2]; exact heap_alloc_new v2 _
  have hNL := HN.out
  have hseq := pieces_seqN g (g + 1) ao ab N cap n cb L hNL hL (off L) bp w5 y2 y3 (HWD.out.same U5.old.size (fun b _ hl => U5.old.block b hl)) (fun k hk => off_ask HC.out k (by omega)) (fun k hk W => (HBP.out k (by omega)).1 W)
  have hOB : ∀ b, (Value.slice ao N cap).ownBlock = some b → 0 < L.length → b < q := fun b hb h0 => by
    obtain ⟨ao', cap', he, _, hc⟩ := HWD.out
    injection he with he
    obtain ⟨b', off, ha, hlt, _⟩ := hc 0 h0
    rw [he, ha] at hb
    simp [Value.ownBlock] at hb
    omega
  have hBl : ∀ b ∈ bks (g + 1) (.slice ao N cap) L.length, b < g + 2 ∧ b ≠ q ∧ b ≠ q + 1 := fun b hb => by
    unfold bks at hb
    simp only [List.mem_cons] at hb
    rcases hb with rfl | hb
    · omega
    · split at hb
      · have := hOB b (by simpa using hb) (by assumption)
        omega
      · cases hb
  refine rf_over (gf := 36) (lb := #[.pointer (some ⟨g, 0, none⟩), .pointer (some ⟨g + 1, 0, none⟩)]) rfl (enters_of Try.func36 (by kernel_rfl) rfl) hseq (fun _ => rfl) (fun b hb => by rw [s5]; exact (hBl b hb).1)
    (fun k X => Up w q D 0 X ∧ ∀ j, j < k → wc its (L.getD j Sl.nul).ix (L.getD j Sl.nul).sb (pcL L l j) = 0) (fun _ _ => False) ?hI ?hIx ?h0 ?round ?done ?stop
  case hI => exact fun k A B row hs hg hr => ⟨hs.1.grown (B := w5.heap.size) (by omega) hg hr, hs.2⟩
  case hIx => exact fun k A B row hs hg hr => hs
  case h0 => exact ⟨U5, fun j hj => by omega⟩
  case round =>
    rintro l' k X ⟨hP, hPz⟩ hk hl hlX
    obtain ⟨s, hs⟩ : ∃ s, L.getD k Sl.nul = s := ⟨_, rfl⟩
    obtain ⟨pv, hpv⟩ : ∃ p, bp k = p := ⟨_, rfl⟩
    obtain ⟨X1, hX1⟩ : ∃ x, X.alloc (.cells #[.int .u16 (s.ix : Int), .int .u8 (s.sb : Int), .int .i64 s.bt] 47) = x := ⟨_, rfl⟩
    have b9 : Below X.heap.size X X1 := by rw [← hX1]; exact (Below.refl _ _).alloc (Nat.le_refl _) _
    have hz : Sb X.heap.size s X1 := by rw [← hX1]; exact heap_alloc_new X _
    have sX1 : X1.heap.size = X.heap.size + 1 := by rw [← hX1, size_alloc]
    have hXs : g + 2 < X.heap.size ∨ g + 2 = X.heap.size := by omega
    refine ⟨fun a1 V => a1 = { tmps := #[.pointer (some ⟨D, 0, none⟩), .slice ao N cap, .slice ab n cb, .pointer (some ⟨q, 0, none⟩), undef, undef, .pointer (some ⟨q + 1, 0, none⟩), .pointer (some ⟨X.heap.size, 0, none⟩), pv, undef, undef, .bool false, .pointer (some ⟨D, 0, none⟩), .slice ao N cap, .int .u32 0, .bool false, .bool false, .slice ab n cb, .int .i64 (n : Int), .slice ao N cap, .int .i64 (m : Int), .bool false, .slice ao N cap, .slice ab n cb, .func (.func 36) #[] #[.pointer (some ⟨g, 0, none⟩), .pointer (some ⟨g + 1, 0, none⟩)], .agg s.arr, pv, undef, undef, undef, undef, undef, undef, undef, undef, undef, undef, undef, undef, undef, undef, undef, undef, undef, undef, undef, undef], defers := [] } ∧ V = X1, ?_, ?_⟩
    · have HF : Hid (Ka (bks (g + 1) (.slice ao N cap) L.length) w5.heap.size X X1) := Ka.below b9 (fun b hb => by have := hBl b hb; omega)
      simp only [pcV]
      rw [hs, hpv]
      simp only [Sl.arr, slC]
      clear hz b9 hP hseq hCk hS3 y2 y3 hPz hs hpv
      gi_wp2
      refine ⟨HF.out, ?_, ?_⟩ <;> first | trivial | rfl
    · rintro a1 V Y ⟨rfl, hV⟩ ⟨r, r', hr, hYe⟩
      rw [hV] at hr hYe
      have sY : Y.heap.size = X.heap.size + 1 := by rw [hYe]; simpa [World.putObj] using sX1
      have PY : Up w q D 0 Y := by
        rw [hYe]
        exact (hP.below b9).grown (B := w5.heap.size) (by omega) (grownBy_putObj' X1 l' _) (fun r0 e => by cases e; exact ⟨hl, _, hr, rfl⟩)
      have zY : Sb X.heap.size s Y := by rw [hYe]; exact (World.putObj_heap_other (by omega)).trans hz
      have y5 : Y.cell? ⟨q, 0, none⟩ = some (.pointer (some ⟨D, 0, none⟩)) := Lib.cell_of_heap PY.b0 0
      have z0 := zY.c0
      have z1 := zY.c1
      have z2 := zY.c2
      have hMy := May_any (HD.out.below PY.old) s.ix s.sb s.hx s.hs pv (pcL L l k) (by rw [← hpv]; exact (HBP.out k (by omega)).2 Y (HBY.out.below PY.old))
      obtain ⟨cc, hcc⟩ : ∃ c, wc its s.ix s.sb (pcL L l k) = c := ⟨_, rfl⟩
      rw [hcc] at hMy
      have HCC : Hid (wc its (L.getD k Sl.nul).ix (L.getD k Sl.nul).sb (pcL L l k) = cc) := by show _ = _; rw [hs, hcc]
      have HPY := hidOf PY
      have HPZ := hidOf hPz
      have HBLe := hidOf hBl
      have HS5 := hidOf s5
      have HXS := hidOf hXs
      clear hz b9 hP hseq hCk hS3 y2 y3 PY zY hr hYe hs hpv hBl hOB s5 hPz hcc hXs
      have h0 : cc = 0 := by rw [← HCC.out]; exact HFF.out k (by have := HN.out; omega)
      · have d3 : ((cc : Int) != 0) = false := by simp; omega
        gi_wp2_with (refine ⟨trivial, ?_⟩; gi_at_call 20; refine (CallsIn.inRound l' (callsIn_wide.2 hMy)).mono ?_; rintro e X5 ⟨rfl, b5⟩; have HB5 := hidOf b5; clear b5)
        have hs5 := HS5.out
        have b5 := HB5.out
        refine ⟨Ka.below b5 (fun b hb => by have := HBLe.out b hb; have := HXS.out; omega), HPY.out.below b5, fun j hj => ?_⟩
        by_cases hjk : j = k
        · subst hjk; rw [HCC.out]; exact h0
        · exact HPZ.out j (by omega)
  case done =>
    rintro DD X hD ⟨hU, _⟩ hK
    clear hseq hCk hS3 y2 y3 hBl hOB
    have HUX := hidOf hU
    clear hU
    gi_wp2_with (refine ⟨trivial, ?_⟩; gi_at_call 19; refine (pieces_in Fence.wide 3 trivial rfl _ _ _ _ _ _ _).mono ?_; rintro e w' ⟨rfl, rfl⟩)
    have hqX2 := (Array.getElem?_eq_some_iff.1 HUX.out.b1).1
    have hDDX := (Array.getElem?_eq_some_iff.1 hK).1
    have sX := HUX.out.old.size
    obtain ⟨j, hj⟩ : ∃ j, X.heap.size = j := ⟨_, rfl⟩
    rw [hj] at hqX2 hDDX sX
    obtain ⟨z2, hz2⟩ : ∃ x, X.alloc (.cells #[.slice ao N cap] 23) = x := ⟨_, rfl⟩
    obtain ⟨w6, hw6⟩ : ∃ x, z2.alloc (.cells #[.slice ab n cb] 24) = x := ⟨_, rfl⟩
    rw [hj, hz2, hw6]
    have sz2 : z2.heap.size = j + 1 := by rw [← hz2, size_alloc, hj]
    have s6 : w6.heap.size = j + 2 := by rw [← hw6, size_alloc, sz2]
    have bz2 : Below X.heap.size X z2 := by rw [← hz2]; exact (Below.refl _ _).alloc (Nat.le_refl _) _
    have bz3 : Below z2.heap.size z2 w6 := by rw [← hw6]; exact (Below.refl _ _).alloc (Nat.le_refl _) _
    have C6 : Below X.heap.size X w6 := bz2.trans (bz3.mono bz2.size)
    have U6 : Up w q D 0 w6 := HUX.out.below C6
    have K6 : w6.heap[DD]? = some (.deferred (some [])) := (C6.block DD (by omega)).trans hK
    have y2 : w6.heap[j]? = some (.cells #[.slice ao N cap] 23 (0, 0)) := (bz3.block j (by omega)).trans (by rw [← hz2, ← hj]; exact heap_alloc_new X _)
    have y3 : w6.heap[j + 1]? = some (.cells #[.slice ab n cb] 24 (0, 0)) := by rw [← hw6, ← sz2]; exact heap_alloc_new z2 _
    have W6 : Uw w q D R DD (its.map Im.b) 0 its w6 := ⟨U6.b0, U6.b1, K6, ⟨U6.old.os, U6.old.tape, U6.old.output, U6.old.size, fun k hk _ => U6.old.block k hk⟩, HD.out.below U6.old⟩
    have hseq := pieces_seqN j (j + 1) ao ab N cap n cb L hNL hL (off L) bp w6 y2 y3 (HWD.out.same U6.old.size (fun b _ hl => U6.old.block b hl)) (fun k hk => off_ask HC.out k (by omega)) (fun k hk W => (HBP.out k (by omega)).1 W)
    have hit : ∀ b ∈ its.map Im.b, b < w.heap.size := fun b hb => by
      obtain ⟨i, hi, rfl⟩ := List.mem_map.1 hb
      exact (Array.getElem?_eq_some_iff.1 (HD.out.items i hi)).1
    have hBl : ∀ b ∈ bks (j + 1) (.slice ao N cap) L.length, b < j + 2 ∧ b ∉ its.map Im.b := fun b hb => by
      unfold bks at hb
      simp only [List.mem_cons] at hb
      rcases hb with rfl | hb
      · exact ⟨by omega, fun h => by have := hit _ h; omega⟩
      · split at hb
        · have h9 : (Value.slice ao N cap).ownBlock = some b := by simpa using hb
          refine ⟨?_, HAP.out b h9⟩
          obtain ⟨ao', cap', he, _, hc⟩ := HWD.out
          injection he with he
          obtain ⟨b', off, ha, hlt, _⟩ := hc 0 (by assumption)
          rw [he, ha] at h9
          simp [Value.ownBlock] at h9
          omega
        · cases hb
    refine rf_over (gf := 36) (lb := #[.pointer (some ⟨j, 0, none⟩), .pointer (some ⟨j + 1, 0, none⟩)]) rfl (enters_of Try.func36 (by kernel_rfl) rfl) hseq (fun _ => rfl) (fun b hb => by rw [s6]; exact (hBl b hb).1)
      (fun k Z => Uw w q D R DD (its.map Im.b) 0 (wrN its L l k) Z) (fun _ _ => False) ?hI2 ?hIx2 ?h02 ?round2 ?done2 ?stop2
    case hI2 => exact fun k A B row hs hg hr => hs.grown (B := w6.heap.size) (by omega) (by omega) hg hr
    case hIx2 => exact fun k A B row hs hg hr => hs
    case h02 => exact W6
    case round2 =>
      rintro l' k Z hP hk hl hlX
      obtain ⟨s, hs⟩ : ∃ s, L.getD k Sl.nul = s := ⟨_, rfl⟩
      obtain ⟨pv, hpv⟩ : ∃ p, bp k = p := ⟨_, rfl⟩
      obtain ⟨X1, hX1⟩ : ∃ x, Z.alloc (.cells #[.int .u16 (s.ix : Int), .int .u8 (s.sb : Int), .int .i64 s.bt] 47) = x := ⟨_, rfl⟩
      have b9 : Below Z.heap.size Z X1 := by rw [← hX1]; exact (Below.refl _ _).alloc (Nat.le_refl _) _
      have hz : Sb Z.heap.size s X1 := by rw [← hX1]; exact heap_alloc_new Z _
      have sX1 : X1.heap.size = Z.heap.size + 1 := by rw [← hX1, size_alloc]
      refine ⟨fun a1 V => a1 = { tmps := #[.pointer (some ⟨D, 0, none⟩), .slice ao N cap, .slice ab n cb, .pointer (some ⟨q, 0, none⟩), undef, undef, .pointer (some ⟨q + 1, 0, none⟩), undef, undef, .pointer (some ⟨Z.heap.size, 0, none⟩), pv, .bool false, .pointer (some ⟨D, 0, none⟩), .slice ao N cap, .int .u32 0, .bool false, .bool false, .slice ab n cb, .int .i64 (n : Int), .slice ao N cap, .int .i64 (m : Int), .bool false, .slice ao N cap, .slice ab n cb, .func (.func 36) #[] #[.pointer (some ⟨g, 0, none⟩), .pointer (some ⟨g + 1, 0, none⟩)], undef, undef, undef, undef, undef, undef, undef, undef, undef, undef, .slice ao N cap, .slice ab n cb, .func (.func 36) #[] #[.pointer (some ⟨j, 0, none⟩), .pointer (some ⟨j + 1, 0, none⟩)], .agg s.arr, pv, undef, undef, undef, undef, undef, undef, undef], defers := [] } ∧ V = X1, ?_, ?_⟩
      · have HF : Hid (Ka (bks (j + 1) (.slice ao N cap) L.length) w6.heap.size Z X1) := Ka.below b9 (fun b hb => by have := hBl b hb; omega)
        simp only [pcV]
        rw [hs, hpv]
        simp only [Sl.arr, slC]
        clear hz b9 hP hseq y2 y3 hs hpv W6 K6 U6
        gi_wp2
        refine ⟨HF.out, ?_, ?_⟩ <;> first | trivial | rfl
      · rintro a1 V Y ⟨rfl, hV⟩ ⟨r, r', hr, hYe⟩
        rw [hV] at hr hYe
        have sY : Y.heap.size = Z.heap.size + 1 := by rw [hYe]; simpa [World.putObj] using sX1
        have PY : Uw w q D R DD (its.map Im.b) 0 (wrN its L l k) Y := by
          rw [hYe]
          exact (hP.below b9).grown (B := w6.heap.size) (by omega) (by omega) (grownBy_putObj' X1 l' _) (fun r0 e => by cases e; exact ⟨hl, _, hr, rfl⟩)
        have zY : Sb Z.heap.size s Y := by rw [hYe]; exact (World.putObj_heap_other (by omega)).trans hz
        have y5 : Y.cell? ⟨q, 0, none⟩ = some (.pointer (some ⟨D, 0, none⟩)) := Lib.cell_of_heap PY.b0 0
        have z0 := zY.c0
        have z1 := zY.c1
        have z2' := zY.c2
        have hWr := Write_any PY.dct s.ix s.sb s.hx s.hs pv (pcL L l k) (by rw [← hpv]; exact (HBP.out k (by omega)).2 Y (bytes_same HBY.out PY.kp.size (fun b hb hlt => PY.kp.block b hlt (HAPB.out b hb))))
        rw [wrN_b] at hWr
        have HWN : Hid (wrN its L l (k + 1) = wrt (wrN its L l k) s.ix s.sb (pcL L l k)) := by show _ = _; rw [← hs]; rfl
        generalize wc (wrN its L l k) s.ix s.sb (pcL L l k) = wcc at hWr
        have HPY := hidOf PY
        have HBLe := hidOf hBl
        have HS6 := hidOf s6
        have HIT := hidOf hit
        clear hz b9 hP hseq y2 y3 W6 K6 U6 PY zY hr hYe hs hpv hBl s6 hit
        gi_wp2_with (refine ⟨trivial, ?_⟩; gi_at_call 21; refine (CallsIn.inRound l' (callsIn_wide.2 hWr)).mono ?_; rintro e X5 ⟨rfl, d5, k5⟩; have HK5 := hidOf (And.intro d5 k5); clear d5 k5)
        obtain ⟨d5, k5⟩ := HK5.out
        have hs6 := HS6.out
        have hni : ∀ x, w.heap.size ≤ x → x ∉ its.map Im.b := fun x hx h => by have := HIT.out x h; omega
        have hP := HPY.out
        have hqY := (Array.getElem?_eq_some_iff.1 hP.b0).1
        have hq1Y := (Array.getElem?_eq_some_iff.1 hP.b1).1
        have hDY := (Array.getElem?_eq_some_iff.1 hP.dd).1
        refine ⟨⟨fun b hb => k5.block b (by have := (HBLe.out b hb).1; omega) (HBLe.out b hb).2, k5.size, fun y h1 h2 => k5.block y h2 (hni y (by omega))⟩, ⟨(k5.block q hqY (hni q (by omega))).trans hP.b0, (k5.block (q + 1) hq1Y (hni _ (by omega))).trans hP.b1, (k5.block DD hDY (hni _ (by omega))).trans hP.dd, hP.kp.trans k5, ?_⟩⟩
        rw [HWN.out]
        exact d5
    case done2 =>
      rintro D2 V hD2 hP hK2
      have hDn : DD ≠ D2 := by omega
      have hq1V := (Array.getElem?_eq_some_iff.1 hP.b1).1
      have c3 := hP.c
      have f3 : V.frozen? ⟨q + 1, 0, none⟩ = false := Lib.frozen_of_heap hP.b1 0
      clear hseq y2 y3 W6 K6 U6 hBl
      have HPV := hidOf hP
      clear hP
      gi_wp2
      obtain ⟨V1, hV1⟩ : ∃ x, V.setCell ⟨q + 1, 0, none⟩ (.int .i64 0) = x := ⟨_, rfl⟩
      rw [hV1]
      have e1 : ∀ x, x ≠ q + 1 → V1.heap[x]? = V.heap[x]? := fun x hx => by rw [← hV1]; exact Below.heap_setCell V ⟨q + 1, 0, none⟩ _ x hx
      have k1 : V1.heap[D2]? = some (.deferred (some [])) := (e1 D2 (by omega)).trans hK2
      refine ⟨by simp, .inl ⟨_, _, rfl, run_takeDeferred k1, ?_⟩⟩
      have hDq : DD ≠ q + 1 := by intro e; have := HPV.out.dd; rw [e, HPV.out.b1] at this; cases this
      have k2 : (V1.putObj D2 (.deferred none)).heap[DD]? = some (.deferred (some [])) := (World.putObj_heap_other hDn).trans ((e1 DD hDq).trans HPV.out.dd)
      refine ⟨by simp, .inl ⟨_, _, rfl, run_takeDeferred k2, ?_⟩⟩
      obtain ⟨V2, hV2⟩ : ∃ x, (V1.putObj D2 (.deferred none)).putObj DD (.deferred none) = x := ⟨_, rfl⟩
      rw [hV2]
      have e2 : ∀ x, x ≠ DD → x ≠ D2 → V2.heap[x]? = V1.heap[x]? := fun x h1 h2 => by rw [← hV2]; exact (World.putObj_heap_other h1).trans (World.putObj_heap_other h2)
      have b1 : V1.heap[q + 1]? = some (.cells #[.int .i64 0] 29 (0, 0)) := by
        rw [← hV1]
        simp only [World.setCell, Array.getElem?_modify, HPV.out.b1]
        simp
      have c9 : V2.cell? ⟨q + 1, 0, none⟩ = some (.int .i64 0) := Lib.cell_of_heap ((e2 (q + 1) (fun e => hDq e.symm) (by omega)).trans b1) 0
      have low : ∀ x, x < w.heap.size → V2.heap[x]? = V.heap[x]? := fun x hx => (e2 x (by omega) (by omega)).trans (e1 x (by omega))
      have sV2 : V2.heap.size = V.heap.size := by rw [← hV2, ← hV1]; simp [World.putObj, World.setCell]
      refine ⟨.int .i64 0, by simp [results, Try.results8, asAddr, go_sem, run_underlying Try.underlying29, c9], rfl, ?_, ?_⟩
      · rw [hNL]
        refine HPV.out.dct.low (Array.getElem?_eq_some_iff.1 HD.out.head).1 (Array.getElem?_eq_some_iff.1 HD.out.row).1 ?_ low
        rw [wrN_b]
        exact hit
      · have kp := HPV.out.kp
        refine ⟨?_, ?_, ?_, by rw [sV2]; exact kp.size, fun x hx hn => (low x hx).trans (kp.block x hx hn)⟩
        · rw [← hV2, ← hV1]; exact kp.os
        · rw [← hV2, ← hV1]; exact kp.tape
        · rw [← hV2, ← hV1]; exact kp.output
    case stop2 => exact fun DD k X _ _ h _ => h.elim
  case stop => exact fun DD k X _ _ h _ => h.elim
end Go.Proofs.Ythalhidebkhclaa
namespace Go.Proofs.Ythalhidebkhclaa
open Go.RowKit Go.Shelf Go.Proofs.Ty
set_option linter.unusedVariables false
set_option maxRecDepth 1000000
set_option linter.unusedSimpArgs false
theorem Bk.bytes {g cap : Nat} {bs : List UInt8} {w : World} (h : Bk g bs w) (n : Nat) (hn : bs.length = n) : Bytes w (.slice (some ⟨g, 0, none⟩) n cap) bs := by
  refine ⟨_, _, by rw [hn], (fun h => by cases h), fun k hk => ⟨g, 0, rfl, (Array.getElem?_eq_some_iff.1 h).1, ?_⟩⟩
  have := Lib.cell_of_heap h (0 + k)
  rw [this]
  simp [Lib.byteCells, hk]
set_option maxRecDepth 100000 in
set_option maxHeartbeats 8000000 in
theorem pdSame_any {D R : Nat} {its : List Im} {w : World} (h : Dct D R its w) (v : Value) (L : List Sl) (hWd : Wide 3 slC w v L) (hL : L.length ≤ 8796093022000) (hm : Mn its) (hvn : Vn its) (vb : Value) (l : List UInt8) (hB : Bytes w vb l) :
    Calls Try.prog 13 #[.pointer (some ⟨D, 0, none⟩), v, vb] w fun e w' => e = .returned (.bool (decide (ckC its false L = 0 ∧ pkB its L L.length = l))) ∧ Below w.heap.size w w' := by
  obtain ⟨ao, cap, hv⟩ := hWd.shape
  have hvs : v = .slice ao L.length cap := hv
  by_cases hc : ckC its false L = 0
  · have hP := pdPack_ok h v L hWd hL hc hm hvn
    have hq : (∀ X, Below w.heap.size w X → Bytes X vb l) := fun X hX => hB.below hX
    have HQ := hidOf hq
    have hlen : (pkB its L L.length).length = szC L := by rw [pkB_len hvn hc _ (Nat.le_refl _), sz_off hm hc]
    have HLN := hidOf hlen
    obtain ⟨ab, cb, hvb, _⟩ := hB
    subst hvs hvb
    have HE : Hid (decide (ckC its false L = 0 ∧ pkB its L L.length = l) = decide (pkB its L L.length = l)) := by show _ = _; simp [hc]
    rw [HE.out]
    clear h hWd hq hlen hm hvn hc hv
    go_enter Try.func13, Try.ntmps13
    go_wp2_with (first | (go_at_call 10; refine hP.mono ?_; rintro e X3 ⟨g, rfl, b3, hg, hbk⟩; have HB3 := hidOf b3; have hEq := Equal_any _ _ _ _ X3 (hbk.bytes (cap := szC L) (szC L) HLN.out) (HQ.out X3 b3); clear b3 hg hbk) | (go_at_call 26; refine hEq.mono ?_; rintro e X4 ⟨rfl, rfl⟩))
    go_ret
    exact ⟨rfl, HB3.out⟩
  · have hP := pdPack_bad h v L hWd hL hc
    obtain ⟨ab, cb, hvb, _⟩ := hB
    subst hvs hvb
    have HE : Hid (decide (ckC its false L = 0 ∧ pkB its L L.length = l) = false) := by show _ = _; simp [hc]
    rw [HE.out]
    clear h hWd hm hvn hc hv
    go_enter Try.func13, Try.ntmps13
    go_wp2_with (go_at_call 10; refine hP.mono ?_; rintro e X3 ⟨rfl, b3⟩; have HB3 := hidOf b3; clear b3)
    go_ret
    exact ⟨rfl, HB3.out⟩
end Go.Proofs.Ythalhidebkhclaa
namespace Go.Proofs.Ythalhidebkhclaa
open Go.RowKit Go.Shelf Go.Proofs.Ty
set_option linter.unusedVariables false
set_option maxRecDepth 1000000
set_option linter.unusedSimpArgs false
theorem infoSz3 : (Try.prog.info? 47).map (fun i => (i.zero, i.size, i.bytes)) = some (some (.agg #[.int .u16 0, .int .u8 0, .int .i64 0]), 3, 16) := by kernel_rfl
section
variable {w : World} {ops : Array Oper} {rest : List Oper} {o : Oper} {a : Act} {Q : Exit → Act → World → Prop}
theorem bs0S (hgd : Region.wanted o (yielded ops a.tmps) = true) (ho : o.op = .buildSlice 23 0 #[]) (hh : wpList Try.prog ops Q rest (a.put o.dst (.slice (some ⟨w.heap.size, 0, none⟩) 0 0)) (w.alloc (.cells #[] 47))) : wpList Try.prog ops Q (o :: rest) a w :=
  BigFrame.wpList_want hgd fun _ hK => wp_bs0g Try.underlying23 infoSz3 ho (hK _ _ hh)
theorem apS (hgd : Region.wanted o (yielded ops a.tmps) = true) (s x : Operand) (ho : o.op = .call { callee := .builtin .append, args := #[s, x], argTypes := #[23, 23] })
    (base : Nat) (v : Value) (xs : List Sl) (hs : a.eval s = v) (hown : w.ownsRow base 47 3 v xs.length (flatW DS xs))
    (vx : Value) (l : List Sl) (hx : a.eval x = vx) (hB : Wide 3 slC w vx l) (h63 : xs.length + l.length ≤ 8796093022207) (hbase : base ≤ w.heap.size)
    (h : ∀ v' w', w'.ownsRow base 47 3 v' (xs ++ l).length (flatW DS (xs ++ l)) → w.grownBy w' v.ownBlock → wpList Try.prog ops Q rest (a.put o.dst v') w') : wpList Try.prog ops Q (o :: rest) a w :=
  BigFrame.wpList_want hgd fun _ hK => wp_append_wide DS s x 23 47 _ 16 Try.underlying23 infoSz3 rfl ho base v xs hs hown vx l hx hB (by unfold maxLen; omega) (by omega) hbase fun v' w' h1 h2 => hK _ _ (h v' w' h1 h2)
end
theorem own0S (w : World) : (w.alloc (.cells #[] 47)).ownsRow w.heap.size 47 3 (.slice (some ⟨w.heap.size, 0, none⟩) 0 0) ([] : List Sl).length (flatW DS []) := own_empty_e w 47 3
set_option maxHeartbeats 4000000 in
theorem own13_any {w : World} (v : Value) (L : List Sl) (hWd : Wide 3 slC w v L) (hL : L.length ≤ 8796093022000) :
    Calls Try.prog 9 #[v] w fun e w' => ∃ x, e = .returned x ∧ Wide 3 slC w' x L ∧ Below w.heap.size w w' ∧ (∀ b, x.ownBlock = some b → w.heap.size ≤ b) := by
  obtain ⟨ao, cap, hv⟩ := hWd.shape
  have b1 : Below w.heap.size w (w.alloc (.cells #[] 47)) := (Below.refl _ w).alloc (Nat.le_refl _) _
  have HW := hidOf (hWd.same b1.size (fun b _ hl => b1.block b hl))
  have HB1 := hidOf b1
  subst hv
  clear hWd b1
  go_enter Try.func9, Try.ntmps9
  go_wp2_with (first | (refine bs0S rfl rfl ?_) | (refine apS rfl _ _ rfl w.heap.size _ [] rfl (own0S w) _ L rfl HW.out (by simp; omega) HB1.out.size ?_; intro v' w' h1 h2; have HO := hidOf (And.intro h1 h2); clear h1 h2))
  obtain ⟨h1, h2⟩ := HO.out
  rw [List.nil_append] at h1
  have bY := HB1.out.grown h2 HB1.out.size (own_lt (own0S w))
  go_ret
  exact ⟨v', rfl, wide_of_own DS h1, bY, fun b hb => own_base h1 hb⟩
end Go.Proofs.Ythalhidebkhclaa
namespace Go.Proofs.Ythalhidebkhclaa
open Go.RowKit Go.Shelf Go.Proofs.Ty
set_option linter.unusedVariables false
set_option maxRecDepth 1000000
set_option linter.unusedSimpArgs false
/-- The bytes of the first k. -/
def catK (its : List Im) (L : List Sl) : Nat → List UInt8
  | 0 => []
  | k + 1 => catK its L k ++ encL its L k
theorem catK_len {its : List Im} {inn : Bool} {L : List Sl} (hv : Vn its) (h : ckC its inn L = 0) : ∀ k, k ≤ L.length → (catK its L k).length = off L k
  | 0, _ => by simp [catK, off, en]
  | k + 1, hk => by
    have e := catK_len hv h k (by omega)
    have e2 := encL_len hv h k hk
    have e4 := (off_ask h k hk).2.2.1
    unfold catK
    rw [List.length_append, e, e2]
    omega
theorem pkB_cat {its : List Im} {inn : Bool} {L : List Sl} (hv : Vn its) (h : ckC its inn L = 0) : ∀ k, k ≤ L.length → pkB its L k = catK its L k ++ List.replicate (off L L.length - off L k) 0
  | 0, _ => by simp [catK, pkB, off, en]
  | k + 1, hk => by
    have e := pkB_cat hv h k (by omega)
    have e1 := catK_len hv h k (by omega)
    have e2 := encL_len hv h k hk
    have e3 := off_mono h (L.length - (k + 1)) (k + 1) (by omega)
    have e4 := (off_ask h k hk).2.2.1
    rw [show k + 1 + (L.length - (k + 1)) = L.length by omega] at e3
    unfold pkB catK lay13
    rw [e, List.take_append_of_le_length (by omega), List.take_of_length_le (by omega), e2, List.drop_append, List.drop_of_length_le (by omega), List.nil_append, e1, List.drop_replicate]
    congr 2
    omega
theorem pk_all {its : List Im} {inn : Bool} {L : List Sl} (hv : Vn its) (h : ckC its inn L = 0) : pkB its L L.length = catK its L L.length := by
  rw [pkB_cat hv h _ (Nat.le_refl _)]
  simp
end Go.Proofs.Ythalhidebkhclaa
namespace Go.Proofs.Ythalhidebkhclaa
open Go.RowKit Go.Shelf Go.Proofs.Ty
set_option linter.unusedVariables false
set_option maxRecDepth 1000000
set_option linter.unusedSimpArgs false
theorem enc_siz (v : Vl) (hc : v.chk = 0) (hs : 0 < siz v.t) : v.enc.length = siz v.t := by
  have h1 : Go.Proofs.Ty.chk v.t v.n v.s = 0 := hc
  unfold Vl.enc encV
  rw [if_pos h1]
  unfold Go.Proofs.Ty.encL
  split
  · rw [lowL_length]
  · omega
/-- A value that can be, of its entry's type, of an entry that can be. -/
def Fit (i : Im) : Prop := i.v.t = i.e.df.t ∧ i.v.chk = 0 ∧ i.e.can = 0
theorem fit_mn {its : List Im} (h : ∀ i ∈ its, Fit i) : Mn its := fun i hi hm => by
  have hc := (h i hi).2.2
  unfold En.can at hc
  by_cases h0 : 0 < siz i.e.df.t
  · exact h0
  · exfalso
    split at hc
    · rename_i h1; exact h1 hc
    · split at hc
      · cases hc
      · split at hc
        · cases hc
        · rw [if_pos ⟨hm, h0⟩] at hc
          cases hc
theorem fit_vn {its : List Im} (h : ∀ i ∈ its, Fit i) : Vn its := fun i hi hm => by
  have h0 := fit_mn h i hi hm
  obtain ⟨h1, h2, _⟩ := h i hi
  rw [← h1] at h0 ⊢
  exact enc_siz i.v h2 h0
end Go.Proofs.Ythalhidebkhclaa
namespace Go.Proofs.Ythalhidebkhclaa
open Go.RowKit Go.Shelf Go.Proofs.Ty
set_option linter.unusedVariables false
set_option maxRecDepth 1000000
set_option linter.unusedSimpArgs false
theorem wc_dec {its : List Im} {ix sb : Nat} {l : List UInt8} {i : Im} (hf : fnd its ix sb = some i) (h : wc its ix sb l = 0) : decE i.e.df.t l = 0 := by
  unfold wc at h
  rw [hf] at h
  have h2 : wcode i l = 0 := h
  unfold wcode at h2
  split at h2
  · cases h2
  · split at h2
    · assumption
    · split at h2
      · cases h2
      · split at h2 <;> cases h2
theorem fit_wrt {its : List Im} (hd : (its.map Im.b).Nodup) (h : ∀ i ∈ its, Fit i) (ix sb : Nat) (l : List UInt8) : ∀ i ∈ wrt its ix sb l, Fit i := by
  unfold wrt
  split
  · rename_i hw
    split
    · exact h
    · rename_i i hf
      have he := wc_dec hf hw
      intro x hx
      unfold setV at hx
      obtain ⟨y, hy, rfl⟩ := List.mem_map.1 hx
      split
      · rename_i hb
        have hi := fnd_mem hf
        have hyi : y = i := mem_b hd hy hi hb
        subst hyi
        refine ⟨dec_t _ y.e.df.ht l he, (dec_enc _ y.e.df.ht l he).1, (h y hy).2.2⟩
      · exact h y hy
  · exact h
theorem fit_wrN {its : List Im} (hd : (its.map Im.b).Nodup) (h : ∀ i ∈ its, Fit i) (L : List Sl) (l : List UInt8) : ∀ k, ∀ i ∈ wrN its L l k, Fit i
  | 0 => h
  | k + 1 => by
    unfold wrN
    exact fit_wrt (by rw [wrN_b]; exact hd) (fit_wrN hd h L l k) _ _ _
end Go.Proofs.Ythalhidebkhclaa
namespace Go.Proofs.Ythalhidebkhclaa
open Go.RowKit Go.Shelf Go.Proofs.Ty
set_option linter.unusedVariables false
set_option maxRecDepth 1000000
set_option linter.unusedSimpArgs false
theorem can_plain {e : En} (h : e.can = 0) : e.plain.can = 0 := by
  have h0 := h
  obtain ⟨h1, h2⟩ := can_zero h
  have hc : e.plain.df.chk = 0 := by show e.df.plain.chk = 0; rw [chk_plain]; exact h1
  unfold En.can at h0 ⊢
  rw [if_neg (by simpa using h1)] at h0
  rw [if_neg (by simpa using hc)]
  split at h0
  · cases h0
  · rename_i ha
    rw [if_neg (show ¬ (e.plain.ac < 0 ∨ 3 < e.plain.ac) from ha)]
    split at h0
    · cases h0
    · rename_i hl
      split at h0
      · cases h0
      · rename_i hm
        have k1 : ¬ (e.plain.li = true ∧ ¬ (0 < siz e.plain.df.t ∧ e.plain.btw = true)) := fun hx => by
          have hl2 : e.li = true := hx.1
          obtain ⟨hz, hb⟩ := h2 hl2
          refine hx.2 ⟨?_, ?_⟩
          · show 0 < siz e.df.plain.t
            rw [(num_plain hz).1]; exact hz
          · unfold En.btw at hb ⊢
            show (decide (ordE e.df.plain e.mn = 0) && (decide (ordE e.df.plain e.mx = 0) && (decide (0 ≤ ordN e.df.plain e.mn) && decide (ordN e.df.plain e.mx ≤ 0)))) = true
            rw [num_ordE hz, num_ordE hz, num_ordN hz, num_ordN hz]
            exact hb
        have k2 : ¬ (e.plain.mp = true ∧ ¬ 0 < siz e.plain.df.t) := fun hx => by
          have hz : 0 < siz e.df.t := Decidable.not_not.1 (fun h4 => hm ⟨hx.1, h4⟩)
          refine hx.2 ?_
          show 0 < siz e.df.plain.t
          rw [(num_plain hz).1]; exact hz
        rw [if_neg k1, if_neg k2]
theorem fit_bg {w x : World} {X D R E : Nat} {its : List Im} {l : List En} {vL vV : Value} (h : Bg w X D R E its l vL vV x) (hc : chkL l = 0) : ∀ i ∈ its, Fit i := by
  intro i hi
  have hp : i.e ∈ l.map En.plain := h.perm.mem_iff.1 (List.mem_map.2 ⟨i, hi, rfl⟩)
  obtain ⟨e, he, hie⟩ := List.mem_map.1 hp
  have hcan := chkG_all (chkL_ok hc).2.2 e he
  have hv := h.vals i hi
  have hcp := can_plain hcan
  rw [hie] at hcp
  exact ⟨by rw [hv], by rw [hv]; exact (can_zero hcp).1, hcp⟩
section
variable {its : List Im} {inn : Bool} {L : List Sl}
theorem ck_of (h : ∀ k, k < L.length → refC its (L.getD k Sl.nul) inn = 0 ∧ en L (k + 1) ≤ 64) : ckC its inn L = 0 := by
  refine ckC_none _ _ _ fun k hk => ?_
  obtain ⟨h1, h2⟩ := h k (by simpa using hk)
  unfold ck1
  rw [if_neg (by simpa using h1), if_neg (by omega)]
theorem en_take (L : List Sl) (k : Nat) : ∀ j, j ≤ k → en (L.take k) j = en L j
  | 0, _ => rfl
  | j + 1, h => by
    have hd : (L.take k).getD j Sl.nul = L.getD j Sl.nul := by
      simp only [List.getD_eq_getElem?_getD]
      rw [List.getElem?_take_of_lt (by omega)]
    show wrap64 _ = wrap64 _
    rw [en_take L k j (by omega), hd]
theorem getD_drop (L : List Sl) (k j : Nat) : (L.drop k).getD j Sl.nul = L.getD (k + j) Sl.nul := by
  simp only [List.getD_eq_getElem?_getD, List.getElem?_drop]
theorem getD_take (L : List Sl) (k j : Nat) (h : j < k) : (L.take k).getD j Sl.nul = L.getD j Sl.nul := by
  simp only [List.getD_eq_getElem?_getD]
  rw [List.getElem?_take_of_lt h]
theorem en_drop (h : ckC its inn L = 0) (k : Nat) (hk : k ≤ L.length) : ∀ j, k + j ≤ L.length → en (L.drop k) j = en L (k + j) - en L k
  | 0, _ => by simp [en]
  | j + 1, hj => by
    have e1 := en_drop h k hk j (by omega)
    have e2 := ((en_off h (k + (j + 1)) hj).2.2 (k + j) (by omega)).1
    have e3 := (en_off h (k + (j + 1)) hj).1
    have e4 := (en_off h (k + (j + 1)) hj).2.1
    have e5 := (en_off h k hk).1
    have e6 := (en_off h k hk).2.1
    have e7 := (en_off h (k + j) (by omega)).1
    have e8 := (en_off h (k + j) (by omega)).2.1
    show wrap64 _ = _
    rw [e1, getD_drop]
    have e9 : en L (k + j) - en L k + (L.getD (k + j) Sl.nul).bt = en L (k + (j + 1)) - en L k := by rw [e2]; omega
    rw [e9]
    simp only [wrap64]
    omega
theorem ck_take (h : ckC its inn L = 0) (k : Nat) : ckC its inn (L.take k) = 0 := by
  refine ck_of fun j hj => ?_
  rw [List.length_take] at hj
  rw [getD_take L k j (by omega), en_take L k (j + 1) (by omega)]
  exact ck_all h j (by omega)
theorem ck_drop (h : ckC its inn L = 0) (k : Nat) (hk : k ≤ L.length) : ckC its inn (L.drop k) = 0 := by
  refine ck_of fun j hj => ?_
  rw [List.length_drop] at hj
  rw [getD_drop, en_drop h k hk (j + 1) (by omega)]
  have h1 := ck_all h (k + j) (by omega)
  have e5 := (en_off h k hk).1
  exact ⟨h1.1, by have := h1.2; rw [show k + (j + 1) = k + j + 1 by omega]; omega⟩
theorem cat_take (L : List Sl) (k : Nat) : ∀ j, j ≤ k → catK its (L.take k) j = catK its L j
  | 0, _ => rfl
  | j + 1, h => by
    show catK its (L.take k) j ++ encL its (L.take k) j = catK its L j ++ encL its L j
    rw [cat_take L k j (by omega)]
    unfold encL
    rw [getD_take L k j (by omega)]
theorem cat_drop (L : List Sl) (k : Nat) : ∀ j, catK its L (k + j) = catK its L k ++ catK its (L.drop k) j
  | 0 => by simp [catK]
  | j + 1 => by
    show catK its L (k + j) ++ encL its L (k + j) = catK its L k ++ (catK its (L.drop k) j ++ encL its (L.drop k) j)
    rw [cat_drop L k j, List.append_assoc]
    unfold encL
    rw [getD_drop]
theorem cat_two (L : List Sl) (k : Nat) (hk : k ≤ L.length) : catK its L L.length = catK its (L.take k) (L.take k).length ++ catK its (L.drop k) (L.drop k).length := by
  have e := cat_drop (its := its) L k (L.length - k)
  rw [show k + (L.length - k) = L.length by omega] at e
  rw [e, List.length_take, List.length_drop, show min k L.length = k by omega, cat_take L k k (Nat.le_refl _)]
end
end Go.Proofs.Ythalhidebkhclaa
namespace Go.Proofs.Ythalhidebkhclaa
open Go.RowKit Go.Shelf Go.Proofs.Ty
set_option linter.unusedVariables false
set_option maxRecDepth 1000000
set_option linter.unusedSimpArgs false
section
variable {X Y its : List Im} {inn : Bool} {L : List Sl}
theorem noc_e (h : X.map Im.e = Y.map Im.e) (ix : Nat) : noc X ix = noc Y ix := by
  unfold noc
  have e : ∀ Z : List Im, Z.any (fun i => i.e.ix == ix) = (Z.map Im.e).any (fun e => e.ix == ix) := fun Z => by rw [List.any_map]; rfl
  rw [e X, e Y, h]
theorem wc_e (h : X.map Im.e = Y.map Im.e) (ix sb : Nat) (l : List UInt8) : wc X ix sb l = wc Y ix sb l := by
  have hf := fnd_e h ix sb
  unfold wc
  cases hx : fnd X ix sb with
  | none =>
    rw [hx] at hf
    cases hy : fnd Y ix sb with
    | none => exact noc_e h ix
    | some y => rw [hy] at hf; cases hf
  | some x =>
    rw [hx] at hf
    cases hy : fnd Y ix sb with
    | none => rw [hy] at hf; cases hf
    | some y =>
      rw [hy] at hf
      simp at hf
      show wcode x l = wcode y l
      unfold wcode
      rw [hf]
theorem ref_e (h : X.map Im.e = Y.map Im.e) (s : Sl) : refC X s inn = refC Y s inn := by
  have hf := fnd_e h s.ix s.sb
  unfold refC
  cases hx : fnd X s.ix s.sb with
  | none =>
    rw [hx] at hf
    cases hy : fnd Y s.ix s.sb with
    | none => exact wc_e h _ _ _
    | some y => rw [hy] at hf; cases hf
  | some x =>
    rw [hx] at hf
    cases hy : fnd Y s.ix s.sb with
    | none => rw [hy] at hf; cases hf
    | some y =>
      rw [hy] at hf
      simp at hf
      simp only [hf]
theorem ck_e (h : X.map Im.e = Y.map Im.e) : ckC X inn L = ckC Y inn L := by
  unfold ckC
  have : ck1 X inn L = ck1 Y inn L := by
    funext k
    unfold ck1
    rw [ref_e h]
  rw [this]
theorem wrt_e (ix sb : Nat) (l : List UInt8) : (wrt its ix sb l).map Im.e = its.map Im.e := by
  unfold wrt
  split
  · split
    · rfl
    · exact setV_e _ _ _
  · rfl
theorem wrN_e (L : List Sl) (l : List UInt8) : ∀ k, (wrN its L l k).map Im.e = its.map Im.e
  | 0 => rfl
  | k + 1 => (wrt_e _ _ _).trans (wrN_e L l k)
theorem ok_wrN (hd : (its.map Im.b).Nodup) (h : ∀ i ∈ its, Ok i) (L : List Sl) (l : List UInt8) : ∀ k, ∀ i ∈ wrN its L l k, Ok i
  | 0 => h
  | k + 1 => ok_wrt (by rw [wrN_b]; exact hd) (ok_wrN hd h L l k) _ _ _
theorem gd_wrN (hd : (its.map Im.b).Nodup) (h : ∀ i ∈ its, Gd i) (L : List Sl) (l : List UInt8) : ∀ k, ∀ i ∈ wrN its L l k, Gd i
  | 0 => h
  | k + 1 => gd_wrt (by rw [wrN_b]; exact hd) (gd_wrN hd h L l k) _ _ _
/-- The piece of slot k. -/
theorem pc_cat (hv : Vn its) (h : ckC its inn L = 0) (k : Nat) (hk : k < L.length) : pcL L (catK its L L.length) k = encL its L k := by
  have e1 := catK_len hv h k (by omega)
  have e2 := encL_len hv h k hk
  have e3 := cat_drop (its := its) L (k + 1) (L.length - (k + 1))
  rw [show k + 1 + (L.length - (k + 1)) = L.length by omega] at e3
  unfold pcL
  rw [e3]
  show ((catK its L k ++ encL its L k ++ _).drop _).take _ = _
  rw [← e2, List.append_assoc, ← e1, List.drop_left, List.take_left' rfl]
theorem bey_gd {i : Im} (h : Gd i) : bey i.e i.v = 0 := by
  unfold bey
  by_cases hl : i.e.li = false
  · rw [if_pos hl]
  · rw [if_neg hl]
    have hl2 : i.e.li = true := by simpa using hl
    obtain ⟨h1, h2⟩ := h.val hl2
    unfold wiC at h2
    rw [if_neg (by rw [h1]; simp)] at h2
    exact h2
theorem wc_back (he : X.map Im.e = Y.map Im.e) (hok : ∀ i ∈ X, Ok i) (hgd : ∀ i ∈ X, Gd i) (hT : ckC Y true L = 0) (k : Nat) (hk : k < L.length) :
    ∃ i y, fnd X (L.getD k Sl.nul).ix (L.getD k Sl.nul).sb = some i ∧ fnd Y (L.getD k Sl.nul).ix (L.getD k Sl.nul).sb = some y ∧ i.e = y.e ∧ encL X L k = i.v.enc ∧ decW y.e.df.t i.v.enc = i.v ∧ wc Y (L.getD k Sl.nul).ix (L.getD k Sl.nul).sb (encL X L k) = 0 := by
  obtain ⟨y, hy, hmp, hbt, hop⟩ := ref_zero (ck_all hT k hk).1
  have hf := fnd_e he (L.getD k Sl.nul).ix (L.getD k Sl.nul).sb
  rw [hy] at hf
  cases hx : fnd X (L.getD k Sl.nul).ix (L.getD k Sl.nul).sb with
  | none => rw [hx] at hf; cases hf
  | some i =>
    rw [hx] at hf
    simp at hf
    have hi := fnd_mem hx
    have he2 : encL X L k = i.v.enc := by unfold encL getV; rw [hx]
    have hv := (hok i hi).val
    refine ⟨i, y, rfl, hy, hf, he2, by rw [← hf]; exact hv.2, ?_⟩
    unfold wc
    rw [hy, he2]
    show wcode y i.v.enc = 0
    unfold wcode
    rw [← hf] at hop ⊢
    have ha : ¬ (i.e.ac ≠ 1 ∧ i.e.ac ≠ 2) := by
      unfold opn at hop
      rw [if_pos rfl] at hop
      simp at hop
      omega
    rw [if_neg ha, if_pos hv.1, hv.2]
    exact bey_gd (hgd i hi)
theorem back_step (he : X.map Im.e = Y.map Im.e) (hok : ∀ i ∈ X, Ok i) (hgd : ∀ i ∈ X, Gd i) (hvn : Vn X) (hd : (Y.map Im.b).Nodup) (hT : ckC Y true L = 0) : ∀ k, k ≤ L.length →
    ∀ j, j < k → getV (wrN Y L (catK X L L.length) k) (L.getD j Sl.nul).ix (L.getD j Sl.nul).sb = getV X (L.getD j Sl.nul).ix (L.getD j Sl.nul).sb
  | 0, _, j, hj => by omega
  | k + 1, hk, j, hj => by
    have hTX : ckC X true L = 0 := by rw [ck_e he]; exact hT
    have hpc := pc_cat hvn hTX k hk
    have heY := wrN_e (its := Y) L (catK X L L.length) k
    have hbY := wrN_b Y L (catK X L L.length) k
    have hTk : ckC (wrN Y L (catK X L L.length) k) true L = 0 := by rw [ck_e heY]; exact hT
    obtain ⟨i, y, hi, hy, hie, henc, hdw, hwc⟩ := wc_back (he.trans heY.symm) hok hgd hTk k hk
    have ih := back_step he hok hgd hvn hd hT k (by omega)
    have hw : wrN Y L (catK X L L.length) (k + 1) = setV (wrN Y L (catK X L L.length) k) y.b i.v := by
      show wrt (wrN Y L (catK X L L.length) k) _ _ (pcL L (catK X L L.length) k) = _
      rw [hpc]
      unfold wrt
      rw [if_pos hwc, hy]
      show setV _ y.b (decW y.e.df.t (encL X L k)) = _
      rw [henc, hdw]
    rw [hw]
    generalize wrN Y L (catK X L L.length) k = Yk at *
    have hdk : (Yk.map Im.b).Nodup := by rw [hbY]; exact hd
    by_cases hjk : j = k
    · subst hjk
      unfold getV
      rw [fnd_setV, hy, hi]
      simp
    · have ihj := ih j (by omega)
      cases hz : fnd Yk (L.getD j Sl.nul).ix (L.getD j Sl.nul).sb with
      | none =>
        unfold getV at ihj ⊢
        rw [fnd_setV, hz]
        rw [hz] at ihj
        simpa using ihj
      | some z =>
        unfold getV at ihj ⊢
        rw [fnd_setV, hz]
        rw [hz] at ihj
        by_cases hb : z.b = y.b
        · have hzy := mem_b hdk (fnd_mem hz) (fnd_mem hy) hb
          subst hzy
          obtain ⟨p1, p2⟩ := fnd_place hz
          obtain ⟨p3, p4⟩ := fnd_place hy
          rw [← p1, ← p2, p3, p4, hi]
          simp
        · simp only [Option.map_some, if_neg hb]
          exact ihj
theorem back_all (he : X.map Im.e = Y.map Im.e) (hok : ∀ i ∈ X, Ok i) (hgd : ∀ i ∈ X, Gd i) (hvn : Vn X) (hd : (Y.map Im.b).Nodup) (hT : ckC Y true L = 0) :
    (∀ k, k < L.length → wc Y (L.getD k Sl.nul).ix (L.getD k Sl.nul).sb (pcL L (catK X L L.length) k) = 0) ∧ catK (wrN Y L (catK X L L.length) L.length) L L.length = catK X L L.length := by
  have hTX : ckC X true L = 0 := by rw [ck_e he]; exact hT
  refine ⟨fun k hk => ?_, ?_⟩
  · rw [pc_cat hvn hTX k hk]
    obtain ⟨_, _, _, _, _, _, _, h⟩ := wc_back he hok hgd hT k hk
    exact h
  · have hs := back_step he hok hgd hvn hd hT L.length (Nat.le_refl _)
    generalize wrN Y L (catK X L L.length) L.length = Z at *
    have : ∀ k, k ≤ L.length → catK Z L k = catK X L k := by
      intro k
      induction k with
      | zero => intro _; rfl
      | succ k ih =>
        intro hk
        show catK Z L k ++ encL Z L k = catK X L k ++ encL X L k
        rw [ih (by omega)]
        unfold encL
        rw [hs k (by omega)]
    exact this _ (Nat.le_refl _)
end
end Go.Proofs.Ythalhidebkhclaa
namespace Go.Proofs.Ythalhidebkhclaa
open Go.RowKit Go.Shelf Go.Proofs.Ty
set_option linter.unusedVariables false
set_option maxRecDepth 1000000
set_option linter.unusedSimpArgs false
def e13 : En := ⟨8192, 0, 2, true, false, Vl.nul, Vl.nul, u5, by decide, by decide, by decide⟩
def s13 : Sl := ⟨8192, 0, 8, by decide, by decide, by decide⟩
theorem l13_chk : chkL [e13] = 0 := by decide +kernel
theorem l13_pl : e13.plain = e13 := by
  have h : e13.df.plain = e13.df := (vlB_iff _ _).1 (by decide +kernel)
  show ({ e13 with df := e13.df.plain } : En) = e13
  rw [h]
theorem l13_en : u5.enc = [5] := by decide +kernel
theorem l13_d : decE 5 [7] = 0 := by decide +kernel
theorem l13_w : (decW 5 [7]).enc = [7] := by decide +kernel
section
variable {b : Nat} {v : Vl}
theorem l13_ref (inn : Bool) : refC [⟨b, e13, v⟩] s13 inn = 0 := by
  have hf : fnd [⟨b, e13, v⟩] s13.ix s13.sb = some ⟨b, e13, v⟩ := rfl
  have ho : opn e13.ac inn = true := by cases inn <;> rfl
  have hb : s13.bt = (siz e13.df.t : Int) * 8 := by decide
  unfold refC
  rw [hf]
  simp only
  rw [if_neg (by rw [ho]; simp [hb]; rfl)]
theorem l13_ck (inn : Bool) : ckC [⟨b, e13, v⟩] inn [s13] = 0 := by
  refine ck_of fun k hk => ?_
  obtain rfl : k = 0 := by simp at hk; exact hk
  exact ⟨l13_ref inn, by decide +kernel⟩
theorem l13_sz : szC [s13] = 1 := by decide +kernel
theorem l13_cat : catK [⟨b, e13, v⟩] [s13] 1 = v.enc := by
  show [] ++ _ = _
  rfl
theorem l13_wc : wc [⟨b, e13, v⟩] 8192 0 [7] = 0 := by
  show wcode ⟨b, e13, v⟩ [7] = 0
  unfold wcode
  rw [if_neg (fun h => h.2 rfl)]
  show (if decE 5 [7] = 0 then bey e13 (decW 5 [7]) else _) = _
  rw [if_pos l13_d]
  rfl
theorem l13_pc : pcL [s13] [7] 0 = [7] := by decide +kernel
theorem l13_wr : wrN [⟨b, e13, v⟩] [s13] [7] 1 = [⟨b, e13, decW 5 [7]⟩] := by
  show wrt [⟨b, e13, v⟩] 8192 0 (pcL [s13] [7] 0) = _
  rw [l13_pc]
  unfold wrt
  rw [if_pos l13_wc]
  show setV [⟨b, e13, v⟩] b (decW 5 [7]) = _
  simp [setV]
end
theorem Dct.b13 {D R : Nat} {its : List Im} {w : World} {i : Im} (h : Dct D R its w) (hi : i ∈ its) : w.heap[i.b]? = some (.cells (imC i.e i.v).toArray 76 (0, 0)) := h.items i hi
theorem build_e13 (x : World) : (Instr.build 59 #[(0, .int .u16 8192), (2, .int .i64 2), (3, .bool true), (7, .agg u5.arr)]).run Try.prog x = .ok (.agg e13.arr) x := by kernel_rfl
theorem build_u5 (x : World) : (Instr.build 42 #[(0, .int .i64 5), (1, .int .u64 5)]).run Try.prog x = .ok (.agg u5.arr) x := by kernel_rfl
theorem build_s13 (x : World) : (Instr.build 47 #[(0, .int .u16 8192), (2, .int .i64 8)]).run Try.prog x = .ok (.agg s13.arr) x := by kernel_rfl
theorem bg_one13 {w x : World} {X D R E : Nat} {its : List Im} {vL vV : Value} (h : Bg w X D R E its [e13] vL vV x) : ∃ b, its = [⟨b, e13, u5⟩] ∧ w.heap.size ≤ b := by
  have hp := h.perm
  have hl : its.length = 1 := by have := hp.length_eq; simpa only [List.length_map, List.length_cons, List.length_nil] using this
  obtain ⟨i, rfl⟩ := List.length_eq_one_iff.1 hl
  have hv := h.vals i (List.mem_singleton.2 rfl)
  have hb := h.base i (List.mem_singleton.2 rfl)
  have he : i.e = e13 := by
    have h2 : [i.e] = [e13.plain] := List.perm_singleton.1 hp
    rw [l13_pl] at h2
    injection h2
  obtain ⟨b, e, v⟩ := i
  simp only at hv he hb
  subst he
  exact ⟨b, by rw [hv]; rfl, hb⟩
set_option maxHeartbeats 8000000 in
theorem lives13_any (w : World) : Calls Try.prog 7 #[] w fun e w' => e = .returned (.bool true) ∧ Below w.heap.size w w' := by
  have hWi := wide_new DE w e13 59
  have b1 : Below w.heap.size w (w.alloc (.cells e13.arr 59)) := (Below.refl _ _).alloc (Nat.le_refl _) _
  have hB := (Begins_any _ _ _ hWi (by decide)).mono fun _ _ h => h.2.2 l13_chk
  obtain ⟨W, hW⟩ : ∃ x, w.alloc (.cells e13.arr 59) = x := ⟨_, rfl⟩
  have HB1 := hidOf2 b1
  have hb1 := build_u5
  have hb2 := build_e13
  clear hWi b1
  go_enter Try.func7, Try.ntmps7
  go_wp2_with (first | (refine one_bs DE e13 22 59 _ 120 rfl _ rfl rfl Try.underlying22 infoEz (by decide) ?_))
  refine hB.mono ?_
  rintro e w2 ⟨X, D, R, E, its, vL, vV, rfl, N2⟩
  have hfit := fit_bg N2 l13_chk
  obtain ⟨b, rfl, hb⟩ := bg_one13 N2
  have HB2 := hidOf2 (HB1.out.trans (N2.below.mono HB1.out.size))
  have hbw : w.heap.size ≤ b := Nat.le_trans HB1.out.size hb
  have HD2 := hidOf2 N2.dct
  have HX2 := hidOf2 N2.pair
  have HF := hidOf2 hfit
  clear hB N2 hb HB1 hb1 hb2 hfit
  have hb3 := build_s13
  have hWs := wide_new DS w2 s13 47
  have b3 : Below w2.heap.size w2 (w2.alloc (.cells s13.arr 47)) := (Below.refl _ _).alloc (Nat.le_refl _) _
  have hqb : b < w2.heap.size := (HD2.out.items _ (List.mem_singleton.2 rfl)).lt
  have hqX : X < w2.heap.size := (Array.getElem?_eq_some_iff.1 HX2.out).1
  have HXb := hidOf2 (show X ≠ b from fun e => by
    have h1 := HD2.out.b13 (i := ⟨b, e13, u5⟩) (List.mem_singleton.2 rfl)
    rw [show (⟨b, e13, u5⟩ : Im).b = X from e.symm, HX2.out] at h1
    injection h1 with h1
    injection h1 with _ h2
    revert h2
    decide)
  have X3 := (b3.block X hqX).trans HX2.out
  have D3 := HD2.out.below b3
  have B3 := HB2.out.trans (b3.mono HB2.out.size)
  obtain ⟨q, hq⟩ : ∃ q, w2.heap.size = q := ⟨_, rfl⟩
  rw [hq] at hWs hqb hqX
  obtain ⟨w3, hw3⟩ : ∃ x, w2.alloc (.cells (DS.dec s13).toArray 47) = x := ⟨_, rfl⟩
  have hw3' : w2.alloc (.cells s13.arr 47) = w3 := hw3
  rw [hw3] at hWs
  rw [hw3'] at X3 D3 B3
  clear hw3'
  have hPk := pdPack_ok D3 _ [s13] hWs (by decide) (l13_ck false) (fit_mn HF.out) (fit_vn HF.out)
  rw [l13_sz, pk_all (fit_vn HF.out) (l13_ck false), show ([s13] : List Sl).length = 1 from rfl, l13_cat, l13_en] at hPk
  have cX3 : w3.cell? ⟨X, 0, none⟩ = some (.pointer (some ⟨D, 0, none⟩)) := Lib.cell_of_heap X3 0
  have HWS := hidOf2 hWs
  have HX3 := hidOf2 X3
  have HD3 := hidOf2 D3
  have HB3 := hidOf2 B3
  clear hWs X3 D3 B3 HD2 HX2 HB2 b3
  go_wp2_with (first | (refine one_bs DS s13 23 47 _ 16 rfl _ rfl rfl Try.underlying23 infoSz3 (by decide) ?_))
  refine hPk.mono ?_
  rintro e w4 ⟨g, rfl, b4, hg4, K4⟩
  have hT := (K4.bytes (cap := 1) 1 rfl).text
  have hWs4 : Wide 3 slC w4 (.slice (some ⟨q, 0, none⟩) 1 1) [s13] := HWS.out.same b4.size (fun b _ hl => b4.block b hl)
  have hSz := pdSize_any _ [s13] hWs4 (by decide)
  rw [l13_sz] at hSz
  have X4 := (b4.block X (Array.getElem?_eq_some_iff.1 HX3.out).1).trans HX3.out
  have D4 := HD3.out.below b4
  have B4 := HB3.out.trans (b4.mono HB3.out.size)
  have HQ := hidOf2 (And.intro hWs4 (And.intro X4 (And.intro D4 B4)))
  clear hPk K4 HWS HX3 HD3 HB3 hWs4 X4 D4 B4 b4 cX3
  go_wp2_with fail
  refine hSz.mono ?_
  rintro e w5 ⟨rfl, b5⟩
  obtain ⟨q1, q2, q3, q4⟩ := HQ.out
  have hWs5 : Wide 3 slC w5 (.slice (some ⟨q, 0, none⟩) 1 1) [s13] := q1.same b5.size (fun b _ hl => b5.block b hl)
  have X5 := (b5.block X (Array.getElem?_eq_some_iff.1 q2).1).trans q2
  have D5 := q3.below b5
  have B5 := q4.trans (b5.mono q4.size)
  have cX5 : w5.cell? ⟨X, 0, none⟩ = some (.pointer (some ⟨D, 0, none⟩)) := Lib.cell_of_heap X5 0
  clear hSz HQ q1 q2 q3 q4 b5 hT
  obtain ⟨w6, hw6⟩ : ∃ x, w5.alloc (.cells #[.int .u8 7] 5) = x := ⟨_, rfl⟩
  have b6 : Below w5.heap.size w5 w6 := by rw [← hw6]; exact (Below.refl _ _).alloc (Nat.le_refl _) _
  have hby : Bytes w6 (.slice (some ⟨w5.heap.size, 0, none⟩) 1 1) [7] := by rw [← hw6]; exact bytes1 w5 7
  have hWs6 : Wide 3 slC w6 (.slice (some ⟨q, 0, none⟩) 1 1) [s13] := hWs5.same b6.size (fun b _ hl => b6.block b hl)
  have X6 := (b6.block X (Array.getElem?_eq_some_iff.1 X5).1).trans X5
  have D6 := D5.below b6
  have B6 := B5.trans (b6.mono B5.size)
  have hb5 : b < w5.heap.size := (D5.items _ (List.mem_singleton.2 rfl)).lt
  have hUn := pdUnpack_ok D6 _ [s13] hWs6 (by decide) _ [7] hby (by rintro ao n c e; injection e with _ e2 e3; omega) (by decide) (l13_ck true) (fit_mn HF.out) (by rw [l13_sz]; decide) (fun k hk => by
    obtain rfl : k = 0 := by simp at hk; exact hk
    rw [l13_pc]
    exact l13_wc) (fun y hy => by simp [Value.ownBlock] at hy; simp; omega) (fun y hy => by simp [Value.ownBlock] at hy; simp; omega)
  rw [show ([s13] : List Sl).length = 1 from rfl, l13_wr] at hUn
  have HQ := hidOf2 (And.intro hWs6 (And.intro X6 B6))
  clear X5 D5 B5 hWs5 hby hWs6 X6 D6 B6 b6
  go_wp2_with fail
  refine hUn.mono ?_
  rintro e w7 ⟨rfl, D7, K7⟩
  obtain ⟨q1, q2, q4⟩ := HQ.out
  have hWs7 : Wide 3 slC w7 (.slice (some ⟨q, 0, none⟩) 1 1) [s13] := K7.wide q1 (fun y hy => by simp [Value.ownBlock] at hy; simp; omega)
  have X7 := (K7.block X (Array.getElem?_eq_some_iff.1 q2).1 (by simp; exact HXb.out)).trans q2
  have B7 := K7.below q4 q4.size (fun y hy => by simp at hy; omega)
  have cX7 : w7.cell? ⟨X, 0, none⟩ = some (.pointer (some ⟨D, 0, none⟩)) := Lib.cell_of_heap X7 0
  clear hUn HQ q1 q2 q4 K7 X7 cX5 hw6
  have hfit7 : ∀ i ∈ ([⟨b, e13, decW 5 [7]⟩] : List Im), Fit i := by
    have := fit_wrN (its := [⟨b, e13, u5⟩]) (by simp) HF.out [s13] [7] 1
    rw [l13_wr] at this
    exact this
  obtain ⟨w8, hw8⟩ : ∃ x, w7.alloc (.cells #[.int .u8 7] 5) = x := ⟨_, rfl⟩
  have b8 : Below w7.heap.size w7 w8 := by rw [← hw8]; exact (Below.refl _ _).alloc (Nat.le_refl _) _
  have hby : Bytes w8 (.slice (some ⟨w7.heap.size, 0, none⟩) 1 1) [7] := by rw [← hw8]; exact bytes1 w7 7
  have hWs8 : Wide 3 slC w8 (.slice (some ⟨q, 0, none⟩) 1 1) [s13] := hWs7.same b8.size (fun b _ hl => b8.block b hl)
  have hSm := pdSame_any (D7.below b8) _ [s13] hWs8 (by decide) (fit_mn hfit7) (fit_vn hfit7) _ [7] hby
  rw [show ([s13] : List Sl).length = 1 from rfl, show pkB ([⟨b, e13, decW 5 [7]⟩] : List Im) [s13] 1 = [7] from (pk_all (fit_vn hfit7) (l13_ck false)).trans (l13_cat.trans l13_w)] at hSm
  rw [decide_eq_true (show ckC ([⟨b, e13, decW 5 [7]⟩] : List Im) false [s13] = 0 ∧ ([7] : List UInt8) = [7] from ⟨l13_ck false, rfl⟩)] at hSm
  have B8 := B7.trans (b8.mono B7.size)
  clear hWs7 D7 hby hWs8 hfit7 b8 B7
  go_wp2_with fail
  refine hSm.mono ?_
  rintro e w9 ⟨rfl, b9⟩
  have B9 := B8.trans (b9.mono B8.size)
  go_wp2
  go_ret
  exact ⟨rfl, B9⟩
end Go.Proofs.Ythalhidebkhclaa
namespace Go.Proofs.Ythalhidebkhclaa
open Go.RowKit Go.Shelf Go.Proofs.Ty
set_option linter.unusedVariables false
set_option maxRecDepth 1000000
set_option linter.unusedSimpArgs false
theorem st_take {w : World} {v : Value} {l : List Sl} (h : Wide 3 slC w v l) (hC : ∀ ao n cap, v = .slice ao n cap → n ≤ cap) (k : Nat) (hk : k ≤ l.length) : ∃ v1, (∀ W, (Instr.sliceAt 23 v none (some (.int .i64 k)) none).run Try.prog W = .ok v1 W) ∧ ∀ x, Wide 3 slC x v l → Wide 3 slC x v1 (l.take k) := by
  obtain ⟨i0, hi, hz0, hz1, hz2⟩ := info_parts infoSz3
  obtain ⟨ao, cap, rfl⟩ := h.shape
  have hcap := hC _ _ _ rfl
  have a0 : (0 : Int) ≤ (k : Int) := by omega
  have a1 : (k : Int) ≤ (cap : Int) := by omega
  cases ao with
  | none =>
    obtain ⟨ao', cap', hv, h0, _⟩ := h
    injection hv with e1 _ e3
    obtain ⟨rfl, rfl⟩ := h0 e1.symm
    subst e3
    have : k = 0 := by simpa using hk
    subst this
    refine ⟨.slice none 0 0, fun W => ?_, fun x hx => by simpa using hx⟩
    simp [Instr.sliceAt, run_underlying Try.underlying23, go_sem, sizeOf, typeInfo, hi, hz1, Addr.add]
  | some a =>
    refine ⟨.slice (some a) k cap, fun W => ?_, fun x hx => ?_⟩
    · simp [Instr.sliceAt, run_underlying Try.underlying23, go_sem, sizeOf, typeInfo, hi, hz1, Addr.add, a0, a1]
    · obtain ⟨ao', cap', hv, h0, hc⟩ := hx
      injection hv with e1 _ e3
      subst e1 e3
      refine ⟨_, _, by rw [List.length_take, Nat.min_eq_left hk], (fun h => by cases h), fun j hj => ?_⟩
      rw [List.length_take] at hj
      obtain ⟨b, off, e, hlt, hr⟩ := hc j (by omega)
      refine ⟨b, off, e, hlt, ?_⟩
      rw [List.getElem_take]; exact hr
theorem st_drop {w : World} {v : Value} {l : List Sl} (h : Wide 3 slC w v l) (hC : ∀ ao n cap, v = .slice ao n cap → n ≤ cap) (k : Nat) (hk : k ≤ l.length) : ∃ v1, (∀ W, (Instr.sliceAt 23 v (some (.int .i64 k)) none none).run Try.prog W = .ok v1 W) ∧ ∀ x, Wide 3 slC x v l → Wide 3 slC x v1 (l.drop k) := by
  obtain ⟨i0, hi, hz0, hz1, hz2⟩ := info_parts infoSz3
  obtain ⟨ao, cap, rfl⟩ := h.shape
  have hcap := hC _ _ _ rfl
  have a0 : (0 : Int) ≤ (k : Int) := by omega
  have a1 : (k : Int) ≤ (l.length : Int) := by omega
  have a2 : (l.length : Int) ≤ (cap : Int) := by omega
  cases ao with
  | none =>
    obtain ⟨ao', cap', hv, h0, _⟩ := h
    injection hv with e1 _ e3
    obtain ⟨rfl, rfl⟩ := h0 e1.symm
    subst e3
    have : k = 0 := by simpa using hk
    subst this
    refine ⟨.slice none 0 0, fun W => ?_, fun x hx => by simpa using hx⟩
    simp [Instr.sliceAt, run_underlying Try.underlying23, go_sem, sizeOf, typeInfo, hi, hz1, Addr.add]
  | some a =>
    refine ⟨.slice (some (if cap = k then a else if k * 3 = 0 then a else ⟨a.block, a.off + k * 3, none⟩)) (l.length - k) (cap - k), fun W => ?_, fun x hx => ?_⟩
    · simp [Instr.sliceAt, run_underlying Try.underlying23, go_sem, sizeOf, typeInfo, hi, hz1, Addr.add, a0, a1, a2]
      split <;> rfl
    · obtain ⟨ao', cap', hv, h0, hc⟩ := hx
      injection hv with e1 _ e3
      subst e1 e3
      refine ⟨_, _, by rw [List.length_drop], (fun h => by cases h), fun j hj => ?_⟩
      rw [List.length_drop] at hj
      obtain ⟨b, off, e, hlt, hr⟩ := hc (k + j) (by omega)
      injection e with e
      subst e
      rw [if_neg (by omega)]
      by_cases hk0 : k * 3 = 0
      · rw [if_pos hk0]
        refine ⟨b, off, rfl, hlt, ?_⟩
        have : k = 0 := by omega
        subst this
        simpa using hr
      · rw [if_neg hk0]
        refine ⟨b, off + k * 3, rfl, hlt, ?_⟩
        rw [List.getElem_drop, show off + k * 3 + j * 3 = off + (k + j) * 3 by omega]
        exact hr
theorem cat_txt (a b : List UInt8) : (⟨a.toArray⟩ : ByteArray) ++ ⟨b.toArray⟩ = ⟨(a ++ b).toArray⟩ := by
  apply ByteArray.ext
  simp
theorem convT {w : World} {ops : Array Oper} {rest : List Oper} {Q : Exit → Act → World → Prop} {a : Act} {o : Oper} (x : Operand) (v u : Value) (hgd : Region.wanted o (yielded ops a.tmps) = true) (ho : o.op = .convert 24 9 x) (hx : a.eval x = v) (hr : (convert 24 9 v).run Try.prog w = .ok u w)
    (hh : wpList Try.prog ops Q rest (a.put o.dst u) w) : wpList Try.prog ops Q (o :: rest) a w := by
  refine BigFrame.wpList_want hgd fun K hK => ?_
  unfold Oper.wp execOp
  simp only [ho, hx, Sem.run_bind, Sem.run_pure, Result.andThen_ok, hr]
  exact hK _ _ hh
theorem bytes1q (w : World) (c : UInt8) : Bytes (w.alloc (.cells #[.int .u8 c.toNat] 5)) (.slice (some ⟨w.heap.size, 0, none⟩) 1 1) [c] := by
  refine ⟨some ⟨w.heap.size, 0, none⟩, 1, rfl, (fun h => by cases h), fun k hk => ⟨w.heap.size, 0, rfl, by rw [size_alloc]; omega, ?_⟩⟩
  rw [Lib.cell_of_heap (heap_alloc_new w _)]
  match k, hk with
  | 0, _ => simp
theorem str_app (a b : List UInt8) : (⟨a.toArray⟩ : ByteArray) ++ ⟨b.toArray⟩ = ⟨(a ++ b).toArray⟩ := by
  have : ((⟨a.toArray⟩ : ByteArray) ++ ⟨b.toArray⟩).data = (a ++ b).toArray := by
    rw [ByteArray.data_append]
    simp
  cases h : ((⟨a.toArray⟩ : ByteArray) ++ ⟨b.toArray⟩) with
  | mk d => rw [h] at this; simp only at this; rw [this]
theorem catR (a b : List UInt8) (h : a.length + b.length ≤ 4611686018427387904) (w : World) : (binOp .add 9 (.string ⟨a.toArray⟩) (.string ⟨b.toArray⟩)).run Try.prog w = .ok (.string ⟨(a ++ b).toArray⟩) w := by
  have hs : (⟨a.toArray⟩ : ByteArray).size + (⟨b.toArray⟩ : ByteArray).size = a.length + b.length := by simp [ByteArray.size]
  simp [binOp, str_app, go_sem]
  all_goals first | omega | (simp [maxLen]; omega) | skip
theorem catT {w : World} {ops : Array Oper} {rest : List Oper} {Q : Exit → Act → World → Prop} {c : Act} {o : Oper} (x y : Operand) (a b : List UInt8) (h : a.length + b.length ≤ 4611686018427387904) (hgd : Region.wanted o (yielded ops c.tmps) = true) (ho : o.op = .binOp .add 9 x y 9) (hx : c.eval x = .string ⟨a.toArray⟩) (hy : c.eval y = .string ⟨b.toArray⟩)
    (hh : wpList Try.prog ops Q rest (c.put o.dst (.string ⟨(a ++ b).toArray⟩)) w) : wpList Try.prog ops Q (o :: rest) c w := by
  refine BigFrame.wpList_want hgd fun K hK => ?_
  have hr := catR a b h w
  have hg : (eqGuard .add 9 x y (.string ⟨a.toArray⟩) (.string ⟨b.toArray⟩)).run Try.prog w = .ok () w := by first | rfl | simp [eqGuard]
  unfold Oper.wp execOp
  simp only [ho, hx, hy, Sem.run_bind, Sem.run_pure, hg, Result.andThen_ok, hr]
  exact hK _ _ hh
end Go.Proofs.Ythalhidebkhclaa
