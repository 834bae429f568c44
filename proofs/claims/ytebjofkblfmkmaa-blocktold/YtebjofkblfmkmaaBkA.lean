/- A sender in memory; small contracts. -/
import Derived.Test.YtebjofkblfmkmaaBkM
import Derived.Test.YtebjofkblfmkmaaBkX
namespace Go.Proofs.Ytebjofkblfmkmaa
open Go.RowKit Go.Proofs.Ty Go.Proofs.Bits
set_option linter.unusedVariables false
set_option maxRecDepth 1000000
set_option linter.unusedSimpArgs false
/-- Blocks other than these stand. -/
structure Kp (bs : List Nat) (w x : World) : Prop where
  os : x.os = w.os
  tape : x.tape = w.tape
  output : x.output = w.output
  size : w.heap.size ≤ x.heap.size
  block : ∀ k, k < w.heap.size → k ∉ bs → x.heap[k]? = w.heap[k]?
theorem Kp.refl (bs : List Nat) (w : World) : Kp bs w w := ⟨rfl, rfl, rfl, Nat.le_refl _, fun _ _ _ => rfl⟩
theorem Kp.trans {bs : List Nat} {w x y : World} (h : Kp bs w x) (g : Kp bs x y) : Kp bs w y :=
  ⟨g.os.trans h.os, g.tape.trans h.tape, g.output.trans h.output, Nat.le_trans h.size g.size, fun k hk hn => (g.block k (Nat.lt_of_lt_of_le hk h.size) hn).trans (h.block k hk hn)⟩
theorem Kp.of_below {bs : List Nat} {w x : World} (h : Below w.heap.size w x) : Kp bs w x := ⟨h.os, h.tape, h.output, h.size, fun k hk _ => h.block k hk⟩
theorem Kp.below {bs : List Nat} {a w x : World} {B : Nat} (h : Kp bs w x) (hb : Below B a w) (hB : B ≤ w.heap.size) (hl : ∀ b ∈ bs, B ≤ b) : Below B a x :=
  ⟨h.os.trans hb.os, h.tape.trans hb.tape, h.output.trans hb.output, Nat.le_trans hb.size h.size, fun k hk => (h.block k (by omega) (fun hm => by have := hl k hm; omega)).trans (hb.block k hk)⟩
theorem Kp.more {bs cs : List Nat} {w x : World} (h : Kp bs w x) (hs : ∀ b ∈ bs, b ∈ cs) : Kp cs w x := ⟨h.os, h.tape, h.output, h.size, fun k hk hn => h.block k hk (fun hm => hn (hs k hm))⟩
/-- Blocks that were not there may be written as well. -/
theorem Kp.fresh {bs cs : List Nat} {w x y : World} (h : Kp bs w x) (g : Kp cs x y) (hc : ∀ b ∈ cs, b ∈ bs ∨ w.heap.size ≤ b) : Kp bs w y :=
  ⟨g.os.trans h.os, g.tape.trans h.tape, g.output.trans h.output, Nat.le_trans h.size g.size, fun k hk hn => (g.block k (Nat.lt_of_lt_of_le hk h.size) (fun hm => by rcases hc k hm with h1 | h1; exact hn h1; omega)).trans (h.block k hk hn)⟩
theorem Kp.setRow1 (w : World) (g : Nat) (A : Array Value) : Kp [g] w (w.setRow g A) :=
  ⟨rfl, rfl, rfl, by simp, fun k hk hn => setRow_other _ _ _ _ (by simpa using hn)⟩
theorem Kp.cell1 (w : World) (g k : Nat) (v : Value) : Kp [g] w (w.setCell ⟨g, k, none⟩ v) :=
  ⟨rfl, rfl, rfl, by simp [World.setCell], fun k hk hn => Below.heap_setCell w _ v k (by simpa using hn)⟩
/-- No byte lies there. -/
def NoU8 (A : Array Value) : Prop := ∀ (o : Nat) (x : Int), A[o]? ≠ some (Value.int .u8 x)
theorem ne_of_u8 {w : World} {S b o : Nat} {x : Int} {A : Array Value} {T : TypeId} {fr : Nat × Nat} (hS : w.heap[S]? = some (.cells A T fr)) (hA : NoU8 A) (hc : w.cell? ⟨b, o, none⟩ = some (.int .u8 x)) : b ≠ S := by
  rintro rfl
  rw [Lib.cell_of_heap hS] at hc
  exact hA _ _ hc
theorem Bytes.same {w w' : World} {v : Value} {l : List UInt8} (h : Bytes w v l) (hs : w.heap.size ≤ w'.heap.size) (hb : ∀ b o x, b < w.heap.size → v.ownBlock = some b → w.cell? ⟨b, o, none⟩ = some (.int .u8 x) → w'.heap[b]? = w.heap[b]?) : Bytes w' v l := by
  obtain ⟨ao, cap, hv, h0, hc⟩ := h
  refine ⟨ao, cap, hv, h0, fun k hk => ?_⟩
  obtain ⟨b, off, ha, hlt, hcell⟩ := hc k hk
  refine ⟨b, off, ha, by omega, ?_⟩
  have := hb b (off + k) _ hlt (by rw [hv, ha]; rfl) hcell
  exact (World.cell?_of_block (a := ⟨b, off + k, none⟩) this).trans hcell
theorem Bytes.kp1 {w w' : World} {v : Value} {l : List UInt8} {S : Nat} {A : Array Value} {T : TypeId} {fr : Nat × Nat} (h : Bytes w v l) (hS : w.heap[S]? = some (.cells A T fr)) (hA : NoU8 A) (hK : Kp [S] w w') : Bytes w' v l :=
  h.same hK.size (fun b o x hb _ hc => hK.block b hb (by have := ne_of_u8 hS hA hc; simpa using this))
def snA (s : Sn) (ao : Option Addr) (cp : Nat) : Array Value := #[.int .i64 (s.st : Int), .slice ao s.bs.length cp, .int .i64 (s.cm : Int), .int .i64 (s.sn : Int), .int .u32 (s.cd : Int)]
theorem snA_no (s : Sn) (ao : Option Addr) (cp : Nat) : NoU8 (snA s ao cp) := by
  intro o x
  match o with
  | 0 => simp [snA]
  | 1 => simp [snA]
  | 2 => simp [snA]
  | 3 => simp [snA]
  | 4 => simp [snA]
  | n + 5 => simp [snA]
theorem snA_one (s : Sn) (ao : Option Addr) (cp : Nat) : ((snA s ao cp).all fun x => x.oneCell') = true := by simp [snA, Value.oneCell']
theorem infoSn : (Try.prog.info? 58).map (·.size) = some 5 := by kernel_rfl
/-- A sender in block S. -/
structure Sd (S : Nat) (s : Sn) (ao : Option Addr) (cp : Nat) (w : World) : Prop where
  hd : w.heap[S]? = some (.cells (snA s ao cp) 58 (0, 0))
  bt : Bytes w (.slice ao s.bs.length cp) s.bs
  cap : s.bs.length ≤ cp
  ok : s.Wk
section
variable {S : Nat} {s t : Sn} {ao ap : Option Addr} {cp cq : Nat} {w x : World}
theorem Sd.lt (h : Sd S s ao cp w) : S < w.heap.size := (Array.getElem?_eq_some_iff.1 h.hd).1
theorem Sd.c0 (h : Sd S s ao cp w) : w.cell? ⟨S, 0, none⟩ = some (.int .i64 (s.st : Int)) := Lib.cell_of_heap h.hd 0
theorem Sd.c1 (h : Sd S s ao cp w) : w.cell? ⟨S, 1, none⟩ = some (.slice ao s.bs.length cp) := Lib.cell_of_heap h.hd 1
theorem Sd.c2 (h : Sd S s ao cp w) : w.cell? ⟨S, 2, none⟩ = some (.int .i64 (s.cm : Int)) := Lib.cell_of_heap h.hd 2
theorem Sd.c3 (h : Sd S s ao cp w) : w.cell? ⟨S, 3, none⟩ = some (.int .i64 (s.sn : Int)) := Lib.cell_of_heap h.hd 3
theorem Sd.c4 (h : Sd S s ao cp w) : w.cell? ⟨S, 4, none⟩ = some (.int .u32 (s.cd : Int)) := Lib.cell_of_heap h.hd 4
theorem Sd.fr (h : Sd S s ao cp w) (k : Nat) : w.frozen? ⟨S, k, none⟩ = false := Lib.frozen_of_heap h.hd k
theorem Sd.below (h : Sd S s ao cp w) (hb : Below w.heap.size w x) : Sd S s ao cp x := ⟨(hb.block S h.lt).trans h.hd, h.bt.below hb, h.cap, h.ok⟩
theorem Sd.drawn (h : Sd S s ao cp w) (n : Nat) : Sd S s ao cp (w.drewN n) := ⟨h.hd, h.bt, h.cap, h.ok⟩
/-- Whatever else is written. -/
theorem Sd.kp {bs : List Nat} (h : Sd S s ao cp w) (hK : Kp bs w x) (h1 : S ∉ bs) (h2 : ∀ b, (Value.slice ao s.bs.length cp).ownBlock = some b → b ∉ bs) : Sd S s ao cp x :=
  ⟨(hK.block S h.lt h1).trans h.hd, h.bt.same hK.size (fun b _ _ hb he _ => hK.block b hb (h2 b he)), h.cap, h.ok⟩
/-- One field is written. -/
theorem Sd.set (h : Sd S s ao cp w) (k : Nat) (v : Value) (hA : (snA s ao cp).setIfInBounds k v = snA t ao cp) (hb : t.bs = s.bs) (ht : t.Wk) : Sd S t ao cp (w.setCell ⟨S, k, none⟩ v) := by
  refine ⟨?_, ?_, by rw [hb]; exact h.cap, ht⟩
  · simp only [World.setCell, Array.getElem?_modify, h.hd]
    simp [hA]
  · rw [hb]
    exact h.bt.kp1 h.hd (snA_no _ _ _) (Kp.cell1 _ _ _ _)
theorem Sd.row (h : Sd S s ao cp w) (ht : t.Wk) (hb : t.bs = []) : Sd S t none 0 (w.setRow S (snA t none 0)) :=
  ⟨setRow_heap w S (snA s ao cp) _ 58 _ h.hd, by rw [hb]; exact Bytes.nil _, by rw [hb]; simp, ht⟩
theorem sdSn {ops : Array Oper} {rest : List Oper} {p : Oper} {a : Act} {Q : Exit → Act → World → Prop} (h : Sd S s ao cp w) (hgd : p.guard = none) (x y : Operand) (ho : p.op = .store 58 x y) (hx : a.eval x = .pointer (some ⟨S, 0, none⟩)) (hy : a.eval y = .agg (snA t ap cq))
    (hh : wpList Try.prog ops Q rest (a.put p.dst undef) (w.setRow S (snA t ap cq))) : wpList Try.prog ops Q (p :: rest) a w :=
  wpList_store_row hgd 58 x y ho S (snA t ap cq) hx hy 58 _ h.hd infoSn rfl (snA_one _ _ _) hh
theorem canBe_any (z : Int) (w : World) : Calls Try.prog 26 #[.int .i64 z] w fun e w' => e = .returned (.bool (decide (1 ≤ z ∧ z ≤ 127))) ∧ w' = w := by
  by_cases h1 : 1 ≤ z
  · have hd : decide (1 ≤ z) = true := by simpa using h1
    go_enter Try.func26, Try.ntmps26
    go_wp2
    go_ret
    exact ⟨ret_bool (by simp [h1]), rfl⟩
  · have hd : decide (1 ≤ z) = false := by simpa using h1
    go_enter Try.func26, Try.ntmps26
    go_wp2
    go_ret
    exact ⟨ret_bool (by simp; try omega), rfl⟩
theorem isAbort_any (f : F8) (w : World) : Calls Try.prog 21 #[.agg f.arr] w fun e w' => e = .returned (.bool (decide (f.b0.toNat / 32 = 4))) ∧ Below w.heap.size w w' := by
  have B0 : Below w.heap.size w (w.alloc (.cells f.arr 30)) := (Below.refl _ _).alloc (Nat.le_refl _) _
  have c0 := (Qb.new w f).c0
  have hb := f.b0.toNat_lt
  generalize f.b0.toNat = n at *
  generalize f.arr = A at *
  go_enter Try.func21, Try.ntmps21
  go_wp2
  go_ret
  exact ⟨ret_bool (by rw [Bool.eq_iff_iff]; simp; try omega), B0⟩
theorem and1_8 : ∀ n < 256, (bits .and .u8 ((n : Nat) : Int) 1 != 0) = decide (n % 2 = 1) := by decide +kernel
theorem isEnd_any (f : F8) (w : World) : Calls Try.prog 35 #[.agg f.arr] w fun e w' => e = .returned (.bool (decide (f.b0.toNat / 32 = 6 ∧ f.b0.toNat % 2 = 1))) ∧ Below w.heap.size w w' := by
  have B0 : Below w.heap.size w (w.alloc (.cells f.arr 30)) := (Below.refl _ _).alloc (Nat.le_refl _) _
  have c0 := (Qb.new w f).c0
  have hb := f.b0.toNat_lt
  have HA := hidOf2 (and1_8 _ f.b0.toNat_lt)
  generalize f.b0.toNat = n at *
  generalize f.arr = A at *
  by_cases h6 : n / 32 = 6
  · have hd : ((n : Int) / 32 == 6) = true := by simp; omega
    go_enter Try.func35, Try.ntmps35
    go_wp2
    go_ret
    exact ⟨ret_bool (by rw [HA.out]; simp [h6]), B0⟩
  · have hd : ((n : Int) / 32 == 6) = false := by simp; omega
    go_enter Try.func35, Try.ntmps35
    go_wp2
    go_ret
    exact ⟨ret_bool (by simp [h6]), B0⟩
theorem end_any (h : Sd S s ao cp w) (cd : Nat) (hcd : cd < 4294967296) : Calls Try.prog 22 #[.pointer (some ⟨S, 0, none⟩), .int .u32 (cd : Int)] w fun e w' => e = .returned (.slice none 0 0) ∧ Sd S (Sn.fin cd) none 0 w' ∧ Kp [S] w w' := by
  have HR := hidOf2 (h.row (t := Sn.fin cd) (Sn.fin_ok cd hcd).toWk rfl)
  have HK := hidOf2 (Kp.setRow1 w S (snA (Sn.fin cd) none 0))
  go_enter Try.func22, Try.ntmps22
  go_wp2_with (first | (refine sdSn (t := Sn.fin cd) (ap := none) (cq := 0) h rfl _ _ rfl rfl rfl ?_))
  go_ret
  exact ⟨rfl, HR.out, HK.out⟩
theorem sDone_any (h : Sd S s ao cp w) : Calls Try.prog 13 #[.pointer (some ⟨S, 0, none⟩)] w fun e w' => e = .returned (.tuple #[.int .u32 (s.cd : Int), .bool (decide (s.st = 3))]) ∧ ∃ n, w' = w.drewN n := by
  have c0 := h.c0
  have c4 := h.c4
  have HE : Hid (decide (s.st = 3) = ((s.st : Int) == 3)) := by show _ = _; rw [Bool.eq_iff_iff]; simp; omega
  generalize s.st = n at *
  generalize s.cd = m at *
  go_enter Try.func13, Try.ntmps13
  go_wp2
  go_quiet (fail)
  go_wp2
  go_ret2
  exact ⟨by rw [HE.out]; first | rfl | (simp [Act.put]; done), _, rfl⟩
theorem segs_int (n : Nat) : max (1 : Int) (((n : Int) + 6) / 7) = ((segs n : Nat) : Int) := by unfold segs; omega
theorem segments_any (h : Sd S s ao cp w) : Calls Try.prog 39 #[.pointer (some ⟨S, 0, none⟩)] w fun e w' => e = .returned (.int .i64 ((segs s.bs.length : Nat) : Int)) ∧ w' = w := by
  have c1 := h.c1
  have hb := h.ok.bs
  have HS := hidOf2 (segs_int s.bs.length)
  generalize segs s.bs.length = m at *
  generalize s.bs.length = n at *
  go_enter Try.func39, Try.ntmps39
  go_wp2
  all_goals
    go_ret
    exact ⟨ret_int (by rw [← HS.out]; omega), rfl⟩
end
end Go.Proofs.Ytebjofkblfmkmaa
