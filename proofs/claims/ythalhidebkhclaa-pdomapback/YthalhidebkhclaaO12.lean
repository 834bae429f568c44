/- Contracts: Write, Get, Set, Read. -/
import Derived.Test.YthalhidebkhclaaO11
import Derived.Test.YthalhidebkhclaaTy5
namespace Go.Proofs.Ythalhidebkhclaa
open Go.RowKit Go.Proofs.Ty Go.Sort Go.Lib
set_option linter.unusedVariables false
set_option maxRecDepth 1000000
set_option linter.unusedSimpArgs false
/-- Only these blocks, of those that were there, may be others now. -/
structure Kp (bs : List Nat) (w x : World) : Prop where
  os : x.os = w.os
  tape : x.tape = w.tape
  output : x.output = w.output
  size : w.heap.size ≤ x.heap.size
  block : ∀ k, k < w.heap.size → k ∉ bs → x.heap[k]? = w.heap[k]?
theorem Kp.refl (bs : List Nat) (w : World) : Kp bs w w := ⟨rfl, rfl, rfl, Nat.le_refl _, fun _ _ _ => rfl⟩
theorem Kp.trans {bs : List Nat} {w x y : World} (h : Kp bs w x) (g : Kp bs x y) : Kp bs w y :=
  ⟨g.os.trans h.os, g.tape.trans h.tape, g.output.trans h.output, Nat.le_trans h.size g.size, fun k hk hn => (g.block k (Nat.lt_of_lt_of_le hk h.size) hn).trans (h.block k hk hn)⟩
theorem Kp.of_below {bs : List Nat} {w x : World} (h : Below w.heap.size w x) : Kp bs w x := ⟨h.os, h.tape, h.output, h.size, fun k hk _ => h.block k hk⟩
theorem Kp.below {bs : List Nat} {a w x : World} {B : Nat} (h : Kp bs w x) (hb : Below B a w) (hB : B ≤ w.heap.size) (hl : ∀ b ∈ bs, B ≤ b) : Below B a x :=
  ⟨h.os.trans hb.os, h.tape.trans hb.tape, h.output.trans hb.output, Nat.le_trans hb.size h.size, fun k hk => (h.block k (by omega) (fun hm => by have := hl k hm; omega)).trans (hb.block k hk)⟩
theorem Kp.wide {bs : List Nat} {w x : World} {c : Nat} {α : Type} {dec : α → List Value} {v : Value} {l : List α} (h : Kp bs w x) (hW : Wide c dec w v l) (hn : ∀ b, v.ownBlock = some b → b ∉ bs) : Wide c dec x v l :=
  hW.same h.size (fun b hb hl => h.block b hl (hn b hb))
/-- The items, that at b having another value. -/
def setV (its : List Im) (b : Nat) (v : Vl) : List Im := its.map (fun x => if x.b = b then ⟨x.b, x.e, v⟩ else x)
theorem setV_len (its : List Im) (b : Nat) (v : Vl) : (setV its b v).length = its.length := List.length_map _
theorem setV_b (its : List Im) (b : Nat) (v : Vl) : (setV its b v).map Im.b = its.map Im.b := by
  unfold setV
  rw [List.map_map]
  apply List.map_congr_left
  intro x _
  simp only [Function.comp]
  split <;> rfl
theorem setV_e (its : List Im) (b : Nat) (v : Vl) : (setV its b v).map Im.e = its.map Im.e := by
  unfold setV
  rw [List.map_map]
  apply List.map_congr_left
  intro x _
  simp only [Function.comp]
  split <;> rfl
theorem ptrs_b (a b : List Im) (h : a.map Im.b = b.map Im.b) : ptrs a = ptrs b := by
  have : ∀ l : List Im, ptrs l = (l.map Im.b).map ptrI := fun l => by unfold ptrs; rw [List.map_map]; rfl
  rw [this, this, h]
theorem Dct.set {D R : Nat} {its : List Im} {w : World} (h : Dct D R its w) {i : Im} (hi : i ∈ its) (v : Vl) : Dct D R (setV its i.b v) (w.setCells i.b 14 (vlC v)) := by
  refine ⟨?_, ?_, ?_, by rw [setV_b]; exact h.apart, ?_, by rw [setV_len]; exact h.len⟩
  · rw [setCells_heap _ _ _ _ _ (fun e => (h.ne i hi).2 e.symm), setV_len]; exact h.head
  · rw [setCells_heap _ _ _ _ _ (fun e => (h.ne i hi).1 e.symm), ptrs_b _ _ (setV_b its i.b v)]; exact h.row
  · intro x hx
    obtain ⟨y, hy, rfl⟩ := List.mem_map.1 hx
    by_cases e : y.b = i.b
    · rw [if_pos e]
      show Ib y.b y.e v _
      rw [← e]
      exact (h.items y hy).set v
    · rw [if_neg e]
      exact (h.items y hy).same (setCells_heap w i.b 14 _ y.b e)
  · have hs := h.sorted
    have : (its.map Im.e).Pairwise (fun a b => a.pl < b.pl) := List.pairwise_map.2 hs
    rw [← setV_e its i.b v] at this
    exact (List.pairwise_map (f := Im.e) (R := fun a b : En => a.pl < b.pl)).1 this
theorem Kp.set {w : World} {bs : List Nat} {b : Nat} (hb : b ∈ bs) (o : Nat) (cs : List Value) : Kp bs w (w.setCells b o cs) := by
  have h := setCells_kept w b o cs
  exact ⟨h.os, h.tape, h.output, h.size, fun k hk hn => setCells_heap w b o cs k (fun e => hn (e ▸ hb))⟩
/-- The items behind a Write. -/
def wrt (its : List Im) (ix sb : Nat) (l : List UInt8) : List Im := if wc its ix sb l = 0 then (match fnd its ix sb with
  | none => its
  | some i => setV its i.b (decW i.e.df.t l)) else its
theorem Va.store {q : Nat} {v : Vl} {w : World} (h : Va q v w) (u : Vl) : w.there q 0 3 := fun j hj => ⟨by
  rw [Lib.cell_of_heap h]
  match j, hj with
  | 0, _ => rfl
  | 1, _ => rfl
  | 2, _ => rfl, h.frozen _⟩
theorem weigh_any {D R : Nat} {its : List Im} {w : World} (h : Dct D R its w) (ix sb : Nat) (h1 : ix < 65536) (h2 : sb < 256) (vb : Value) (l : List UInt8) (hB : Bytes w vb l) :
    Calls Try.prog 37 #[.pointer (some ⟨D, 0, none⟩), .int .u16 ix, .int .u8 sb, vb] w (Wg its ix sb l w) := by
  cases hf : fnd its ix sb with
  | none => exact weigh_none h ix sb h1 h2 vb l hB hf
  | some i => exact weigh_some h ix sb h1 h2 vb l hB hf
set_option maxHeartbeats 4000000 in
theorem Write_any {D R : Nat} {its : List Im} {w : World} (h : Dct D R its w) (ix sb : Nat) (h1 : ix < 65536) (h2 : sb < 256) (vb : Value) (l : List UInt8) (hB : Bytes w vb l) :
    Calls Try.prog 21 #[.pointer (some ⟨D, 0, none⟩), .int .u16 ix, .int .u8 sb, vb] w fun e w' => e = .returned (.int .u32 (wc its ix sb l)) ∧ Dct D R (wrt its ix sb l) w' ∧ Kp (its.map Im.b) w w' := by
  have hG := weigh_any h ix sb h1 h2 vb l hB
  have HD := hidOf2 h
  have hx : ∃ ao cap, vb = .slice ao l.length cap := by obtain ⟨ao, cap, h, _⟩ := hB; exact ⟨ao, cap, h⟩
  obtain ⟨ao, cap, rfl⟩ := hx
  clear h hB
  unfold Wg at hG
  have HW : Hid (wrt its ix sb l = if wc its ix sb l = 0 then (match fnd its ix sb with
    | none => its
    | some i => setV its i.b (decW i.e.df.t l)) else its) := rfl
  generalize wrt its ix sb l = ws at *
  generalize wc its ix sb l = C at *
  go_enter Try.func21, Try.ntmps21
  go_wp2_with fail
  refine hG.mono ?_
  rintro e w1 ⟨p, v, rfl, b1, hz⟩
  have HZ := hidOf2 hz
  clear hz hG
  obtain ⟨q, hq⟩ : ∃ q, w1.heap.size = q := ⟨_, rfl⟩
  have g0 : Va q Vl.nul (w1.alloc (.cells #[.int .i64 0, .int .u64 0, .string ⟨#[]⟩] 42)) := hq ▸ Va.new w1 Vl.nul
  have g1 := g0.row v
  have BA := b1.alloc b1.size (.cells #[.int .i64 0, .int .u64 0, .string ⟨#[]⟩] 42)
  have B2 := below_row BA (by have := b1.size; omega) BA.size (q := q) v.arr
  by_cases hc : C = 0
  · obtain ⟨i, hf, rfl, rfl, _⟩ := HZ.out hc
    subst hc
    rw [if_pos rfl, hf] at HW
    have hi := fnd_mem hf
    have D2 := HD.out.below B2
    go_upto_region 3 with (first | (refine g0.sd (decW i.e.df.t l) rfl _ _ rfl rfl rfl ?_))
    generalize ((w1.alloc (.cells #[.int .i64 0, .int .u64 0, .string ⟨#[]⟩] 42)).setRow q (decW i.e.df.t l).arr) = w2 at *
    have hI := D2.items i hi
    have ht := hI.there
    have D3 := hidOf2 (D2.set hi (decW i.e.df.t l))
    have K3 := hidOf2 ((Kp.of_below (bs := its.map Im.b) B2).trans (Kp.set (List.mem_map.2 ⟨i, hi, rfl⟩) 14 (vlC (decW i.e.df.t l))))
    clear HD HZ hf g0 BA b1 D2 hI hi
    go_wp2_with (first | (refine g1.ld rfl _ rfl rfl ?_) | (refine sdV ht (decW i.e.df.t l) rfl _ _ rfl rfl rfl ?_))
    go_ret
    exact ⟨rfl, by rw [HW.out]; exact D3.out, K3.out⟩
  · have d1 : ((C : Int) == 0) = false := by simpa using hc
    rw [if_neg hc] at HW
    have D2 := hidOf2 (HD.out.below B2)
    have K2 := hidOf2 (Kp.of_below (bs := its.map Im.b) B2)
    clear HZ HD BA b1 B2
    go_wp2_with (first | (refine g0.sd v rfl _ _ rfl rfl rfl ?_))
    go_ret
    exact ⟨rfl, by rw [HW.out]; exact D2.out, K2.out⟩
theorem get_results {Q : Nat} {v : Vl} {c : Int} {w : World} (h : Va Q v w) (tmps : Array Value) (h6 : tmps[6]?.getD undef = .pointer (some ⟨Q, 0, none⟩)) (h7 : tmps[7]?.getD undef = .int .i64 c) :
    (results Try.f12 tmps).run Try.prog w = .ok (.tuple #[.agg v.arr, .int .i64 c]) w := by
  have l0 := h.load
  simp [Go.results, Try.results12, h6, h7, asAddr, l0]
/-- What Get tells. -/
def getV (its : List Im) (ix sb : Nat) : Vl := match fnd its ix sb with
  | none => Vl.nul
  | some i => i.v
def getE (its : List Im) (ix sb : Nat) : Nat := match fnd its ix sb with
  | none => 4
  | some i => 0
set_option maxHeartbeats 4000000 in
theorem Get_any {D R : Nat} {its : List Im} {w : World} (h : Dct D R its w) (ix sb : Nat) (h1 : ix < 65536) (h2 : sb < 256) :
    Calls Try.prog 12 #[.pointer (some ⟨D, 0, none⟩), .int .u16 ix, .int .u8 sb] w fun e w' => e = .returned (.tuple #[.agg (getV its ix sb).arr, .int .i64 (getE its ix sb)]) ∧ Below w.heap.size w w' := by
  have bA : Below w.heap.size w (w.alloc (.cells #[.int .i64 0, .int .u64 0, .string ⟨#[]⟩] 42)) := (Below.refl _ _).alloc (Nat.le_refl _) _
  have h0 := h.below bA
  have s0 := bA.size
  obtain ⟨q, hq⟩ : ∃ q, w.heap.size = q := ⟨_, rfl⟩
  have fA : Va q Vl.nul (w.alloc (.cells #[.int .i64 0, .int .u64 0, .string ⟨#[]⟩] 42)) := hq ▸ Va.new w Vl.nul
  have HV : Hid (getV its ix sb = match fnd its ix sb with
    | none => Vl.nul
    | some i => i.v) := rfl
  have HE : Hid (getE its ix sb = match fnd its ix sb with
    | none => 4
    | some i => 0) := rfl
  generalize getV its ix sb = V at *
  generalize getE its ix sb = E at *
  cases hf : fnd its ix sb with
  | none =>
    rw [hf] at HV HE
    have hF := find_none h0 ix sb h1 h2 hf
    have d1 : ((noc its ix : Int) != 0) = true := by have := noc_ne its ix; simp; omega
    generalize noc its ix = C at *
    clear h h0 hf
    go_enter Try.func12, Try.ntmps12
    go_upto_region 1 with fail
    generalize (w.alloc (.cells #[.int .i64 0, .int .u64 0, .string ⟨#[]⟩] 42)) = W at *
    try simp only [hq]
    go_wp2_with fail
    refine hF.mono ?_
    rintro e w1 ⟨rfl, b1⟩
    have f1 := fA.below b1
    have f2 := f1.row Vl.nul
    have B1 := bA.trans (b1.mono s0)
    have B2 : Below w.heap.size w (w1.setRow q Vl.nul.arr) := below_row B1 (by omega) B1.size Vl.nul.arr
    clear hF fA bA b1 B1
    go_wp2_with (first | (refine f1.sd Vl.nul rfl _ _ rfl rfl rfl ?_))
    exact bodyPost_ret (get_results f2 _ rfl rfl) rfl ⟨by rw [HV.out, HE.out]; rfl, by first | exact B2 | (rw [← hq]; exact B2)⟩
  | some i =>
    rw [hf] at HV HE
    have hF := find_some h0 ix sb h1 h2 hf
    have hI := h0.items i (fnd_mem hf)
    unfold ptrI at hF
    clear h h0 hf
    go_enter Try.func12, Try.ntmps12
    go_upto_region 1 with fail
    generalize (w.alloc (.cells #[.int .i64 0, .int .u64 0, .string ⟨#[]⟩] 42)) = W at *
    try simp only [hq]
    go_wp2_with fail
    refine hF.mono ?_
    rintro e w1 ⟨rfl, b1⟩
    have f1 := fA.below b1
    have f2 := f1.row i.v
    have r1 := (hI.below b1).r14
    have B1 := bA.trans (b1.mono s0)
    have B2 : Below w.heap.size w (w1.setRow q i.v.arr) := below_row B1 (by omega) B1.size i.v.arr
    clear hF fA bA b1 B1 hI
    go_wp2_with (first | (refine ldV r1 rfl _ rfl rfl ?_) | (refine f1.sd i.v rfl _ _ rfl rfl rfl ?_))
    exact bodyPost_ret (get_results f2 _ rfl rfl) rfl ⟨by rw [HV.out, HE.out]; rfl, by first | exact B2 | (rw [← hq]; exact B2)⟩
end Go.Proofs.Ythalhidebkhclaa
