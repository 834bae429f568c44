/- A server, plain: what it does, what it answers. Contracts: Reset, Doing, due, goOn, leave. Contracts: due. Contracts: the document's Find, Read. -/
import Derived.Test.YtahfnknbmikmkaaGreatKb6
import Derived.Test.YtahfnknbmikmkaaGreatKb15
import Derived.BigQuiet
namespace Go.Proofs.YtahfnknbmikmkaaGreat
open Go.RowKit Go.Proofs.Ty
set_option linter.unusedVariables false
set_option maxRecDepth 1000000
set_option linter.unusedSimpArgs false
/-- What it does, where, whose turn it is, the bytes, how many these will be. -/
structure Ss where
  dn : Nat
  ix : Nat
  sb : Nat
  tn : Nat
  bs : List UInt8
  sz : Option Nat
def Ss.nul : Ss := ⟨0, 0, 0, 0, [], none⟩
structure Ss.Ok (s : Ss) : Prop where
  dn : s.dn ≤ 2
  ix : s.ix < 65536
  sb : s.sb < 256
  tn : s.tn ≤ 1
  len : s.bs.length ≤ 65536
  sz : ∀ n, s.sz = some n → n ≤ 65536
theorem Ss.nul_ok : Ss.nul.Ok := ⟨by decide, by decide, by decide, by decide, by decide, fun n h => by cases h⟩
/-- An answer, or what is given up with. -/
inductive Ro
  | ok (f : F8)
  | bad (ix sb c : Nat)
def Ro.f : Ro → F8
  | .ok f => f
  | .bad ix sb c => frm 128 ix sb c
def Ro.e : Ro → Ending
  | .ok f => .returned (.agg f.arr)
  | .bad ix sb c => flE ix sb c
def Ro.Small : Ro → Prop
  | .ok _ => True
  | .bad ix sb c => ix < 65536 ∧ sb < 256 ∧ c < 4294967296
/-- How many bytes a first frame has. -/
def cnt (its : List Im) (q : F8) : Nat := if q.b0.toNat % 2 = 1 then 4 - q.b0.toNat / 4 % 4 else match fnd its (pix q) (psb q) with
  | none => 4
  | some i => if 0 < siz i.e.df.t ∧ siz i.e.df.t ≤ 4 then siz i.e.df.t else 4
theorem cnt_le (its : List Im) (q : F8) : cnt its q ≤ 4 := by
  unfold cnt
  split
  · omega
  · split
    · omega
    · split <;> omega
def leaC (its : List Im) (ix sb : Nat) : Nat := if wc its ix sb [] = 100794368 ∨ wc its ix sb [] = 101253137 ∨ wc its ix sb [] = 100728834 then wc its ix sb [] else 0
def wrtO (its : List Im) (q : F8) : Ro × List Im × Ss :=
  if q.b0.toNat / 2 % 2 = 1 then
    (if wc its (pix q) (psb q) ((q.l.drop 4).take (cnt its q)) = 0 then .ok (frm 96 (pix q) (psb q) 0) else .bad (pix q) (psb q) (wc its (pix q) (psb q) ((q.l.drop 4).take (cnt its q))), wrt its (pix q) (psb q) ((q.l.drop 4).take (cnt its q)), Ss.nul)
  else if leaC its (pix q) (psb q) ≠ 0 then (.bad (pix q) (psb q) (leaC its (pix q) (psb q)), its, Ss.nul)
  else if q.b0.toNat % 2 = 1 ∧ 65536 < num4 q then (.bad (pix q) (psb q) 84148229, its, Ss.nul)
  else (.ok (frm 96 (pix q) (psb q) 0), its, ⟨1, pix q, psb q, 0, [], if q.b0.toNat % 2 = 1 then some (num4 q) else none⟩)
/-- The bytes of a segment. -/
def seg (q : F8) : List UInt8 := (q.l.drop 1).take (7 - q.b0.toNat / 2 % 8)
def took (t : Nat) : F8 := ⟨.ofNat (32 + 16 * t), 0, 0, 0, 0, 0, 0, 0⟩
def finO (its : List Im) (s : Ss) : Ro × List Im :=
  if s.sz ≠ none ∧ s.sz ≠ some s.bs.length then (.bad s.ix s.sb 101122064, its)
  else (if wc its s.ix s.sb s.bs = 0 then .ok (took s.tn) else .bad s.ix s.sb (wc its s.ix s.sb s.bs), wrt its s.ix s.sb s.bs)
def takO (its : List Im) (s : Ss) (q : F8) : Ro × List Im × Ss :=
  if s.dn ≠ 1 then (.bad 0 0 84148225, its, s)
  else if q.b0.toNat / 16 % 2 ≠ s.tn then (.bad s.ix s.sb 84082688, its, Ss.nul)
  else if 65536 < (s.bs ++ seg q).length then (.bad s.ix s.sb 84148229, its, Ss.nul)
  else if q.b0.toNat % 2 = 1 then ((finO its { s with bs := s.bs ++ seg q }).1, (finO its { s with bs := s.bs ++ seg q }).2, Ss.nul)
  else (.ok (took s.tn), its, { s with bs := s.bs ++ seg q, tn := 1 - s.tn })
def here (ix sb : Nat) (b : List UInt8) : F8 := ⟨.ofNat (67 + 4 * (4 - b.length)), .ofNat (ix % 256), .ofNat (ix / 256), .ofNat sb, b.getD 0 0, b.getD 1 0, b.getD 2 0, b.getD 3 0⟩
def redO (its : List Im) (q : F8) : Ro × List Im × Ss :=
  if rdC its (pix q) (psb q) ≠ 0 then (.bad (pix q) (psb q) (rdC its (pix q) (psb q)), its, Ss.nul)
  else if 1 ≤ (rdL its (pix q) (psb q)).length ∧ (rdL its (pix q) (psb q)).length ≤ 4 then (.ok (here (pix q) (psb q) (rdL its (pix q) (psb q))), its, Ss.nul)
  else (.ok (frm 65 (pix q) (psb q) (rdL its (pix q) (psb q)).length), its, ⟨2, pix q, psb q, 0, rdL its (pix q) (psb q), none⟩)
def told (s : Ss) : F8 := ⟨.ofNat (16 * s.tn + 2 * (7 - min 7 s.bs.length) + if s.bs.length ≤ 7 then 1 else 0), s.bs.getD 0 0, s.bs.getD 1 0, s.bs.getD 2 0, s.bs.getD 3 0, s.bs.getD 4 0, s.bs.getD 5 0, s.bs.getD 6 0⟩
def telO (its : List Im) (s : Ss) (q : F8) : Ro × List Im × Ss :=
  if s.dn ≠ 2 then (.bad 0 0 84148225, its, s)
  else if q.b0.toNat / 16 % 2 ≠ s.tn then (.bad s.ix s.sb 84082688, its, Ss.nul)
  else (.ok (told s), its, if s.bs.length ≤ 7 then Ss.nul else { s with bs := s.bs.drop 7, tn := 1 - s.tn })
/-- What a frame is answered with, by its command. -/
def hndO (its : List Im) (s : Ss) (q : F8) : Ro × List Im × Ss :=
  if q.b0.toNat / 32 = 0 then takO its s q
  else if q.b0.toNat / 32 = 1 then wrtO its q
  else if q.b0.toNat / 32 = 2 then redO its q
  else if q.b0.toNat / 32 = 3 then telO its s q
  else if q.b0.toNat / 32 = 4 then (.ok F8.nul, its, Ss.nul)
  else (.bad (pix q) (psb q) 84148225, its, Ss.nul)
def hndB (q : F8) : Bool := decide (q.b0.toNat / 32 ≠ 4)
theorem wrt_b (its : List Im) (ix sb : Nat) (l : List UInt8) : (wrt its ix sb l).map Im.b = its.map Im.b := by
  unfold wrt
  split
  · split
    · rfl
    · exact setV_b _ _ _
  · rfl
theorem seg_len (q : F8) : (seg q).length ≤ 7 := by
  unfold seg
  rw [List.length_take]
  omega
/-- A transfer's cells. -/
def trC (s : Ss) (ao : Option Addr) (cp : Nat) : List Value := [.int .u16 (s.ix : Int), .int .u8 (s.sb : Int), .int .i64 (s.dn : Int), .int .u8 ((16 * s.tn : Nat) : Int), .slice ao s.bs.length cp, .bool s.sz.isSome, .int .u32 ((s.sz.getD 0 : Nat) : Int)]
def trA (s : Ss) (ao : Option Addr) (cp : Nat) : Array Value := (trC s ao cp).toArray
def psA (D : Nat) (s : Ss) (ao : Option Addr) (cp : Nat) : Array Value := (.pointer (some ⟨D, 0, none⟩) :: trC s ao cp).toArray
theorem trA_one (s : Ss) (ao : Option Addr) (cp : Nat) : ((trA s ao cp).all fun x => x.oneCell') = true := by simp [trA, trC, Value.oneCell']
/-- A transfer in a block of its own; a server's block. -/
def Tb (q : Nat) (s : Ss) (ao : Option Addr) (cp : Nat) (w : World) : Prop := w.heap[q]? = some (.cells (trA s ao cp) 89 (0, 0))
def Pb (S D : Nat) (s : Ss) (ao : Option Addr) (cp : Nat) (w : World) : Prop := w.heap[S]? = some (.cells (psA D s ao cp) 91 (0, 0))
section
variable {q S D : Nat} {s t : Ss} {ao ap : Option Addr} {cp cq : Nat} {w x : World}
theorem Tb.lt (h : Tb q s ao cp w) : q < w.heap.size := (Array.getElem?_eq_some_iff.1 h).1
theorem Tb.below (h : Tb q s ao cp w) (hb : Below w.heap.size w x) : Tb q s ao cp x := (hb.block q h.lt).trans h
theorem Tb.new (w : World) (s : Ss) (ao : Option Addr) (cp : Nat) : Tb w.heap.size s ao cp (w.alloc (.cells (trA s ao cp) 89)) := heap_alloc_new w _
theorem Tb.load (h : Tb q s ao cp w) : (loadVar 89 ⟨q, 0, none⟩).run Tryz.prog w = .ok (.agg (trA s ao cp)) w :=
  run_loadVar_row w q 89 89 _ (0, 0) _ h Tryz.underlying89 rfl infoTr
theorem Tb.row (h : Tb q s ao cp w) : Tb q t ap cq (w.setRow q (trA t ap cq)) := setRow_heap w q (trA s ao cp) _ 89 _ h
theorem Tb.c (h : Tb q s ao cp w) : w.cell? ⟨q, 0, none⟩ = some (.int .u16 (s.ix : Int)) ∧ w.cell? ⟨q, 1, none⟩ = some (.int .u8 (s.sb : Int)) ∧ w.cell? ⟨q, 2, none⟩ = some (.int .i64 (s.dn : Int)) ∧ w.cell? ⟨q, 3, none⟩ = some (.int .u8 ((16 * s.tn : Nat) : Int)) ∧ w.cell? ⟨q, 4, none⟩ = some (.slice ao s.bs.length cp) ∧ w.cell? ⟨q, 5, none⟩ = some (.bool s.sz.isSome) ∧ w.cell? ⟨q, 6, none⟩ = some (.int .u32 ((s.sz.getD 0 : Nat) : Int)) :=
  ⟨Lib.cell_of_heap h 0, Lib.cell_of_heap h 1, Lib.cell_of_heap h 2, Lib.cell_of_heap h 3, Lib.cell_of_heap h 4, Lib.cell_of_heap h 5, Lib.cell_of_heap h 6⟩
theorem Tb.sp (h : Tb q s ao cp w) : w.rangeAt q 0 [.int .u16 (s.ix : Int), .int .u8 (s.sb : Int)] := by
  intro j u hj
  match j, hj with
  | 0, hj => simp at hj; subst hj; exact h.c.1
  | 1, hj => simp at hj; subst hj; exact h.c.2.1
theorem Pb.lt (h : Pb S D s ao cp w) : S < w.heap.size := (Array.getElem?_eq_some_iff.1 h).1
theorem Pb.below (h : Pb S D s ao cp w) (hb : Below w.heap.size w x) : Pb S D s ao cp x := (hb.block S h.lt).trans h
theorem Pb.c (h : Pb S D s ao cp w) : w.cell? ⟨S, 0, none⟩ = some (.pointer (some ⟨D, 0, none⟩)) ∧ w.cell? ⟨S, 1, none⟩ = some (.int .u16 (s.ix : Int)) ∧ w.cell? ⟨S, 2, none⟩ = some (.int .u8 (s.sb : Int)) ∧ w.cell? ⟨S, 3, none⟩ = some (.int .i64 (s.dn : Int)) ∧ w.cell? ⟨S, 4, none⟩ = some (.int .u8 ((16 * s.tn : Nat) : Int)) ∧ w.cell? ⟨S, 5, none⟩ = some (.slice ao s.bs.length cp) ∧ w.cell? ⟨S, 6, none⟩ = some (.bool s.sz.isSome) ∧ w.cell? ⟨S, 7, none⟩ = some (.int .u32 ((s.sz.getD 0 : Nat) : Int)) :=
  ⟨Lib.cell_of_heap h 0, Lib.cell_of_heap h 1, Lib.cell_of_heap h 2, Lib.cell_of_heap h 3, Lib.cell_of_heap h 4, Lib.cell_of_heap h 5, Lib.cell_of_heap h 6, Lib.cell_of_heap h 7⟩
theorem Pb.rng (h : Pb S D s ao cp w) : w.rangeAt S 1 (trC s ao cp) := by
  intro j u hj
  rw [Lib.cell_of_heap h]
  simp only [psA, List.getElem?_toArray]
  rw [Nat.add_comm, List.getElem?_cons_succ]
  exact hj
theorem Pb.there (h : Pb S D s ao cp w) : w.there S 1 7 := fun j hj => by
  refine ⟨?_, Lib.frozen_of_heap h _⟩
  exact h.rng.isSome j (by simpa [trC] using hj)
theorem Pb.set (h : Pb S D s ao cp w) (t : Ss) (ap : Option Addr) (cq : Nat) : Pb S D t ap cq (w.setCells S 1 (trC t ap cq)) := by
  have h : w.heap[S]? = some (.cells (psA D s ao cp) 91 (0, 0)) := h
  unfold Pb
  show (((((((w.setCell ⟨S, 1, none⟩ _).setCell ⟨S, 2, none⟩ _).setCell ⟨S, 3, none⟩ _).setCell ⟨S, 4, none⟩ _).setCell ⟨S, 5, none⟩ _).setCell ⟨S, 6, none⟩ _).setCell ⟨S, 7, none⟩ _).heap[S]? = _
  simp only [World.setCell, Array.getElem?_modify, h]
  simp [psA, trC]
theorem Kp.sets (w : World) (S : Nat) (o : Nat) (cs : List Value) : Kp [S] w (w.setCells S o cs) := Kp.set (List.mem_singleton.2 rfl) o cs
end
section
variable {w : World} {ops : Array Oper} {rest : List Oper} {p : Oper} {a : Act} {Q : Exit → Act → World → Prop} {b o : Nat}
/-- A load of a place, of a transfer, out of a greater variable; a store of a transfer. -/
theorem ldSp {ix sb : Nat} (h : w.rangeAt b o [.int .u16 (ix : Int), .int .u8 (sb : Int)]) (hgd : Region.wanted p (yielded ops a.tmps) = true) (x : Operand) (ho : p.op = .load 87 x) (hx : a.eval x = .pointer (some ⟨b, o, none⟩))
    (hh : wpList Tryz.prog ops Q rest (a.put p.dst (.agg (spA ix sb))) w) : wpList Tryz.prog ops Q (p :: rest) a w :=
  BigFrame.wpList_want hgd fun _ hK => wp_load_mid 87 x ho b o hx _ _ h Tryz.underlying87 rfl (by rw [infoSp]; rfl) (hK _ _ hh)
theorem ldTr {s : Ss} {ao : Option Addr} {cp : Nat} (h : w.rangeAt b o (trC s ao cp)) (hgd : Region.wanted p (yielded ops a.tmps) = true) (x : Operand) (ho : p.op = .load 89 x) (hx : a.eval x = .pointer (some ⟨b, o, none⟩))
    (hh : wpList Tryz.prog ops Q rest (a.put p.dst (.agg (trA s ao cp))) w) : wpList Tryz.prog ops Q (p :: rest) a w :=
  BigFrame.wpList_want hgd fun _ hK => wp_load_mid 89 x ho b o hx _ _ h Tryz.underlying89 rfl (by rw [infoTr]; rfl) (hK _ _ hh)
theorem sdTr (ht : w.there b o 7) (s : Ss) (ao : Option Addr) (cp : Nat) (hgd : p.guard = none) (x y : Operand) (ho : p.op = .store 89 x y) (hx : a.eval x = .pointer (some ⟨b, o, none⟩)) (hy : a.eval y = .agg (trA s ao cp))
    (hh : wpList Tryz.prog ops Q rest (a.put p.dst undef) (w.setCells b o (trC s ao cp))) : wpList Tryz.prog ops Q (p :: rest) a w :=
  wpList_store_mid hgd 89 x y ho b o (trA s ao cp) hx hy ht infoTr (trA_one _ _ _) hh
theorem sdTb {q : Nat} {s t : Ss} {ao ap : Option Addr} {cp cq : Nat} (h : Tb q s ao cp w) (hgd : p.guard = none) (x y : Operand) (ho : p.op = .store 89 x y) (hx : a.eval x = .pointer (some ⟨q, 0, none⟩)) (hy : a.eval y = .agg (trA t ap cq))
    (hh : wpList Tryz.prog ops Q rest (a.put p.dst undef) (w.setRow q (trA t ap cq))) : wpList Tryz.prog ops Q (p :: rest) a w :=
  wpList_store_row hgd 89 x y ho q (trA t ap cq) hx hy 89 _ h infoTr rfl (trA_one _ _ _) hh
end
theorem exec_idx8 {a : Act} {o : Oper} {s i : Operand} {b k : Nat} (ho : o.op = .indexAddr 32 s i) (hs : a.eval s = .pointer (some ⟨b, 0, none⟩)) (hi : a.eval i = .int .i64 (k : Int)) (hk : k < 8) (w : World) : (execOp a.eval o).run Tryz.prog w = .ok (.value (.pointer (some ⟨b, k, none⟩))) w := by
  have h1 : (0 : Int) ≤ (k : Int) := by omega
  have h2 : (k : Int) < 8 := by omega
  have hu : (Tryz.prog.info? 5).map (·.size) = some 1 := by kernel_rfl
  obtain ⟨i0, hi0, hz0⟩ : ∃ i, Tryz.prog.info? 5 = some i ∧ i.size = 1 := by
    cases hh : Tryz.prog.info? 5 with
    | none => rw [hh] at hu; cases hu
    | some i => rw [hh] at hu; simp at hu; exact ⟨i, rfl, hu⟩
  unfold execOp
  simp only [ho, hs, hi]
  simp [go_sem, run_underlying Tryz.underlying32, sizeOf, typeInfo, hi0, hz0, h1, h2, Addr.add_mid]
end Go.Proofs.YtahfnknbmikmkaaGreat
namespace Go.Proofs.YtahfnknbmikmkaaGreat
open Go.RowKit Go.Proofs.Ty
set_option linter.unusedVariables false
set_option maxRecDepth 1000000
set_option linter.unusedSimpArgs false
theorem quiet_ldG {W : World} {ops : Array Oper} {rest : List Oper} {p : Oper} {a : Act} {Q : Act → Prop} {ty : TypeId} {ad : Addr} {v : Value} (h : ∀ y : Later W, (loadVar ty ad).run Tryz.prog y.now = .ok v y.now) (hgd : Region.wanted p (yielded ops a.tmps) = true) (x : Operand) (ho : p.op = .load ty x) (hx : a.eval x = .pointer (some ad))
    (hh : wpQuiet Tryz.prog ops (fun w' => ∃ x : Later W, w' = x.now) Q rest (a.put p.dst v)) : wpQuiet Tryz.prog ops (fun w' => ∃ x : Later W, w' = x.now) Q (p :: rest) a := by
  unfold wpQuiet
  rw [if_pos hgd]
  refine ⟨v, ?_, hh⟩
  rintro w' ⟨y, rfl⟩
  have hl := h y
  unfold Oper.quietAt execOp
  simp only [ho, hx, Instr.loadAt, Instr.sureAddr, Sem.run_bind, Sem.run_pure, Result.andThen_ok, hl]
  exact ⟨rfl, rfl⟩
section
variable {S D : Nat} {s : Ss} {ao : Option Addr} {cp : Nat} {w : World}
theorem Reset10_any (h : Pb S D s ao cp w) : Calls Tryz.prog 14 #[.pointer (some ⟨S, 0, none⟩)] w fun e w' => e = .returned (.tuple #[]) ∧ Pb S D Ss.nul none 0 w' ∧ Kp [S] w w' := by
  have hP := hidOf2 (h.set Ss.nul none 0)
  have hK := hidOf2 (Kp.sets w S 1 (trC Ss.nul none 0))
  have ht := h.there
  clear h
  go_enter Tryz.func14, Tryz.ntmps14
  go_wp2_with (first | (refine sdTr ht Ss.nul none 0 rfl _ _ rfl rfl rfl ?_))
  go_end0
  exact ⟨rfl, hP.out, hK.out⟩
theorem Doing_any (h : Pb S D s ao cp w) : Calls Tryz.prog 23 #[.pointer (some ⟨S, 0, none⟩)] w fun e w' => e = .returned (.int .i64 (s.dn : Int)) ∧ w' = w := by
  have c3 := h.c.2.2.2.1
  clear h
  go_enter Tryz.func23, Tryz.ntmps23
  go_wp2
  go_ret
  exact ⟨rfl, rfl⟩
theorem goOn_any (h : Pb S D s ao cp w) (t : Ss) (ap : Option Addr) (cq : Nat) (ht1 : t.tn ≤ 1) : Calls Tryz.prog 107 #[.pointer (some ⟨S, 0, none⟩), .agg (trA t ap cq)] w fun e w' => e = .returned (.tuple #[]) ∧ Pb S D { t with tn := 1 - t.tn } ap cq w' ∧ Kp [S] w w' := by
  obtain ⟨q, hq⟩ : ∃ q, w.heap.size = q := ⟨_, rfl⟩
  obtain ⟨W, hW⟩ : ∃ W, w.alloc (.cells (trA t ap cq) 89) = W := ⟨_, rfl⟩
  have hx : bits .xor .u8 ((16 * t.tn : Nat) : Int) 16 = ((16 * (1 - t.tn) : Nat) : Int) := by
    obtain h0 | h0 : t.tn = 0 ∨ t.tn = 1 := by omega
    · rw [h0]; decide +kernel
    · rw [h0]; decide +kernel
  have T0 := Tb.new w t ap cq
  rw [hq, hW] at T0
  have b0 : Below w.heap.size w W := hW ▸ (Below.refl _ _).alloc (Nat.le_refl _) _
  have c3 := T0.c.2.2.2.1
  have z3 : W.frozen? ⟨q, 3, none⟩ = false := Lib.frozen_of_heap T0 3
  have T1 : Tb q { t with tn := 1 - t.tn } ap cq (W.setCell ⟨q, 3, none⟩ (.int .u8 ((16 * (1 - t.tn) : Nat) : Int))) := by
    have T0 : W.heap[q]? = some (.cells (trA t ap cq) 89 (0, 0)) := T0
    unfold Tb
    simp [World.setCell, Array.getElem?_modify, T0, trA, trC]
  have p1 : Pb S D s ao cp (W.setCell ⟨q, 3, none⟩ (.int .u8 ((16 * (1 - t.tn) : Nat) : Int))) := by
    have hl := h.lt
    exact (Below.heap_setCell W ⟨q, 3, none⟩ _ S (by show S ≠ q; omega)).trans (h.below b0)
  have b1 : Below w.heap.size w (W.setCell ⟨q, 3, none⟩ (.int .u8 ((16 * (1 - t.tn) : Nat) : Int))) := b0.setCell (p := ⟨q, 3, none⟩) (by rw [hq]; exact Nat.le_refl _) _
  obtain ⟨V, hV⟩ : ∃ V, W.setCell ⟨q, 3, none⟩ (.int .u8 ((16 * (1 - t.tn) : Nat) : Int)) = V := ⟨_, rfl⟩
  rw [hV] at T1 p1 b1
  have l1 := T1.load
  have th := p1.there
  have hP := hidOf2 (p1.set { t with tn := 1 - t.tn } ap cq)
  have hK := hidOf2 ((Kp.of_below b1).trans (Kp.sets V S 1 (trC { t with tn := 1 - t.tn } ap cq)))
  clear h T0 T1 p1 b0 b1
  obtain ⟨m, hm⟩ : ∃ m, 16 * t.tn = m := ⟨_, rfl⟩
  obtain ⟨n, hn⟩ : ∃ n, 16 * (1 - t.tn) = n := ⟨_, rfl⟩
  rw [hm] at c3 hx
  rw [hn] at hx hV
  go_enter Tryz.func107, Tryz.ntmps107
  go_wp2_with (first | (refine ldG l1 rfl _ rfl rfl ?_) | (refine sdTr th { t with tn := 1 - t.tn } ap cq rfl _ _ rfl rfl rfl ?_))
  go_end0
  exact ⟨rfl, hP.out, hK.out⟩
end
end Go.Proofs.YtahfnknbmikmkaaGreat
namespace Go.Proofs.YtahfnknbmikmkaaGreat
open Go.RowKit Go.Proofs.Ty
set_option linter.unusedVariables false
set_option maxRecDepth 1000000
set_option linter.unusedSimpArgs false
theorem due_results {Q : Nat} {s : Ss} {ao : Option Addr} {cp : Nat} {w : World} (h : Tb Q s ao cp w) (tmps : Array Value) (h2 : tmps[6]?.getD undef = .pointer (some ⟨Q, 0, none⟩)) :
    (results Tryz.f104 tmps).run Tryz.prog w = .ok (.agg (trA s ao cp)) w := by
  have l0 := h.load
  simp [Go.results, Tryz.results104, h2, asAddr, l0]
def zTA : Array Value := #[.int .u16 0, .int .u8 0, .int .i64 0, .int .u8 0, .slice none 0 0, .bool false, .int .u32 0]
section
variable {S D : Nat} {s : Ss} {ao : Option Addr} {cp : Nat} {w : World}
set_option maxHeartbeats 4000000 in
theorem due_no (h : Pb S D s ao cp w) (d : Nat) (q : F8) (hd : s.dn ≠ d) : Calls Tryz.prog 104 #[.pointer (some ⟨S, 0, none⟩), .int .i64 (d : Int), .agg q.arr] w fun e w' => e = flE 0 0 84148225 ∧ Below w.heap.size w w' := by
  have b0 : Below w.heap.size w ((w.alloc (.cells q.arr 32)).alloc (.cells zTA 89)) := ((Below.refl _ _).alloc (Nat.le_refl _) _).alloc (by rw [size_alloc]; omega) _
  have h0 := h.below b0
  have c3 := h0.c.2.2.2.1
  have hdd : ((s.dn : Int) != (d : Int)) = true := by simp; omega
  have hP : ∀ V, Calls Tryz.prog 105 #[.agg (spA 0 0), .int .u32 84148225] V fun e w' => e = flE 0 0 84148225 ∧ Below V.heap.size V w' := fun V => pass_bad 0 0 84148225 (by decide) V
  clear h h0
  go_enter Tryz.func104, Tryz.ntmps104
  go_upto_region 1 with fail
  change Code.wp Tryz.prog _ _ _ ((w.alloc (.cells q.arr 32)).alloc (.cells zTA 89))
  generalize (w.alloc (.cells q.arr 32)).alloc (.cells zTA 89) = W at *
  go_wp2_with fail
  refine (hP W).mono ?_
  rintro e w1 ⟨rfl, b1⟩
  exact ⟨rfl, rfl, b0.trans (b1.mono b0.size)⟩
set_option maxHeartbeats 4000000 in
theorem due_yes (h : Pb S D s ao cp w) (q : F8) (t : Nat) (htl : t ≤ 1) (ht : q.b0.toNat / 16 % 2 = t) : Calls Tryz.prog 104 #[.pointer (some ⟨S, 0, none⟩), .int .i64 (s.dn : Int), .agg q.arr] w fun e w' => e = (if t ≠ s.tn then flE s.ix s.sb 84082688 else .returned (.agg (trA s ao cp))) ∧ Pb S D Ss.nul none 0 w' ∧ Kp [S] w w' := by
  obtain ⟨W, hW⟩ : ∃ W, w.alloc (.cells q.arr 32) = W := ⟨_, rfl⟩
  obtain ⟨k, hk⟩ : ∃ k, w.heap.size = k := ⟨_, rfl⟩
  have hWs : W.heap.size = k + 1 := by rw [← hW, size_alloc, hk]
  have b0 : Below w.heap.size w (W.alloc (.cells zTA 89)) := (hW ▸ (Below.refl _ _).alloc (Nat.le_refl _) _).alloc (by rw [hWs, hk]; omega) _
  have h0 := h.below b0
  have q0 : Qb k q (W.alloc (.cells zTA 89)) := (Lib.alloc_old W _ k (by omega)).trans (by rw [← hk, ← hW]; exact Qb.new w q)
  have t0 : Tb (k + 1) Ss.nul none 0 (W.alloc (.cells zTA 89)) := by rw [← hWs]; exact heap_alloc_new W _
  have c3 := h0.c.2.2.2.1
  have r1 := h0.rng
  have hT : ∀ V, Calls Tryz.prog 108 #[.agg q.arr] V fun e w' => e = .returned (.int .u8 ((16 * t : Nat) : Int)) ∧ Below V.heap.size V w' := fun V => ht ▸ turn_any q V
  have hPA : ∀ V, Calls Tryz.prog 105 #[.agg (spA s.ix s.sb), .int .u32 84082688] V fun e w' => e = flE s.ix s.sb 84082688 ∧ Below V.heap.size V w' := fun V => pass_bad s.ix s.sb 84082688 (by decide) V
  have HB0 := hidOf2 b0
  have hlt := h.lt
  clear h
  go_enter Tryz.func104, Tryz.ntmps104
  go_upto_region 1 with fail
  change Code.wp Tryz.prog _ _ _ (W.alloc (.cells zTA 89))
  obtain ⟨V, hV⟩ : ∃ V, W.alloc (.cells zTA 89) = V := ⟨_, rfl⟩
  have hVs : V.heap.size = k + 2 := by rw [← hV, size_alloc, hWs]
  rw [hV] at b0 h0 q0 t0 c3 r1 HB0 ⊢
  clear b0
  have hz : Tb (k + 2) Ss.nul none 0 (V.alloc (.cells zTA 89)) := by rw [← hVs]; exact heap_alloc_new V _
  have bz : Below V.heap.size V (V.alloc (.cells zTA 89)) := (Below.refl _ _).alloc (Nat.le_refl _) _
  have hz2 := hz.row (t := s) (ap := ao) (cq := cp)
  have bz2 := below_row bz (by omega) (by rw [size_alloc]; omega) (q := k + 2) (trA s ao cp)
  have HV : Hid (∀ X, X = (V.alloc (.cells zTA 89)).setRow (k + 2) (trA s ao cp) → Tb (k + 2) s ao cp X ∧ Below V.heap.size V X) := fun X hX => by subst hX; exact ⟨hz2, bz2⟩
  clear hz2 bz2 bz
  go_upto_region 4 with (first | (refine ldTr r1 rfl _ rfl rfl ?_) | (refine sdTb (t := s) (ap := ao) (cq := cp) hz rfl _ _ rfl rfl rfl ?_))
  change Code.wp Tryz.prog _ _ _ ((V.alloc (.cells zTA 89)).setRow (k + 2) (trA s ao cp))
  generalize hX : (V.alloc (.cells zTA 89)).setRow (k + 2) (trA s ao cp) = X
  obtain ⟨t2, b2⟩ := HV.out X hX.symm
  clear HV hX hz
  have h2 := h0.below b2
  have q2 := q0.below b2
  have t1 := t0.below b2
  have hRs := Reset10_any h2
  clear h0 q0 t0 c3 r1
  go_wp2_with fail
  refine hRs.mono ?_
  rintro e w3 ⟨rfl, h3, K3⟩
  have t3 : Tb (k + 2) s ao cp w3 := (K3.block _ t2.lt (by simp; omega)).trans t2
  have q3 : Qb k q w3 := (K3.block _ q2.lt (by simp; omega)).trans q2
  have t4 : Tb (k + 1) Ss.nul none 0 w3 := (K3.block _ t1.lt (by simp; omega)).trans t1
  have HK3 := hidOf2 ((Kp.of_below (bs := [S]) (HB0.out.trans (b2.mono HB0.out.size))).trans K3)
  have HP3 := hidOf2 h3
  clear hRs K3 h2 q2 t1 t2 b2 h3 HB0
  have kq : ∀ y : Later w3, (loadVar 32 ⟨k, 0, none⟩).run Tryz.prog y.now = .ok (.agg q.arr) y.now := fun y => (q3.below y.below).load
  have kt : ∀ y : Later w3, y.now.cell? ⟨k + 2, 3, none⟩ = some (.int .u8 ((16 * s.tn : Nat) : Int)) := fun y => (t3.below y.below).c.2.2.2.1
  have hTq : ∀ y : Later w3, Calls Tryz.prog 108 #[.agg q.arr] y.now fun e w'' => e = .returned (.int .u8 ((16 * t : Nat) : Int)) ∧ ∃ z : Later w3, w'' = z.now := fun y => later (hT y.now)
  have HT3 := hidOf2 t3
  have HT4 := hidOf2 t4
  have hLq := Later.some w3
  clear hT t3 q3 t4
  go_upto_region 5 with fail
  by_cases hts : t = s.tn
  · have hd : (((16 * t : Nat) : Int) != ((16 * s.tn : Nat) : Int)) = false := by simp; omega
    obtain ⟨m1, hm1⟩ : ∃ m, 16 * t = m := ⟨_, rfl⟩
    obtain ⟨m2, hm2⟩ : ∃ m, 16 * s.tn = m := ⟨_, rfl⟩
    rw [hm1] at hd hTq
    rw [hm2] at hd kt
    refine wp_region_later (by kernel_rfl) (by kernel_rfl) ?_
    refine quiet_ldG kq rfl _ rfl rfl ?_
    simp only [Act.put, List.setIfInBounds_toArray, List.set_cons_succ, List.set_cons_zero]
    repeat (go_big_quiet_step (first | (go_at_call 108; with_reducible exact hTq _)))
    refine wpQuiet_nil ?_
    rintro _ ⟨x1, rfl⟩
    have l5 := (HT3.out.below x1.below).load
    have t5 := HT4.out.below x1.below
    have t6 := t5.row (t := s) (ap := ao) (cq := cp)
    have bl := x1.below
    have lt5 := t5.lt
    have lt4 := HT4.out.lt
    have pz : Pb S D Ss.nul none 0 (x1.now.setRow (k + 1) (trA s ao cp)) := (setRow_other _ _ _ _ (by omega)).trans (HP3.out.below x1.below)
    have Kz : Kp [S] w (x1.now.setRow (k + 1) (trA s ao cp)) := by
      have K4 := HK3.out.trans (Kp.of_below x1.below)
      refine ⟨K4.os, K4.tape, K4.output, by simpa using K4.size, fun j hj hn => ?_⟩
      rw [setRow_other _ _ _ _ (by omega)]
      exact K4.block j hj hn
    have HZ := hidOf2 (And.intro pz Kz)
    clear pz Kz bl HT3 HT4 kq kt hTq HK3 HP3
    generalize x1.now = Y at *
    go_wp2_with (first | (refine ldG l5 rfl _ rfl rfl ?_) | (refine sdTb (t := s) (ap := ao) (cq := cp) t5 rfl _ _ rfl rfl rfl ?_))
    exact bodyPost_ret (due_results t6 _ rfl) rfl ⟨by first | rfl | simp [hts], HZ.out.1, HZ.out.2⟩
  · have hd : (((16 * t : Nat) : Int) != ((16 * s.tn : Nat) : Int)) = true := by simp; omega
    obtain ⟨m1, hm1⟩ : ∃ m, 16 * t = m := ⟨_, rfl⟩
    obtain ⟨m2, hm2⟩ : ∃ m, 16 * s.tn = m := ⟨_, rfl⟩
    rw [hm1] at hd hTq
    rw [hm2] at hd kt
    refine wp_region_later (by kernel_rfl) (by kernel_rfl) ?_
    refine quiet_ldG kq rfl _ rfl rfl ?_
    simp only [Act.put, List.setIfInBounds_toArray, List.set_cons_succ, List.set_cons_zero]
    repeat (go_big_quiet_step (first | (go_at_call 108; with_reducible exact hTq _)))
    refine wpQuiet_nil ?_
    rintro _ ⟨x1, rfl⟩
    have r5 := (HT3.out.below x1.below).sp
    have pz := hidOf2 (HP3.out.below x1.below)
    have Kz := hidOf2 (HK3.out.trans (Kp.of_below x1.below))
    clear HT3 HT4 kq kt hTq HK3 HP3
    generalize x1.now = Y at *
    go_wp2_with (first | (refine ldSp r5 rfl _ rfl rfl ?_))
    refine (hPA Y).mono ?_
    rintro e w6 ⟨rfl, b6⟩
    exact ⟨rfl, by first | rfl | (simp [hts]; rfl), pz.out.below b6, Kz.out.trans (Kp.of_below b6)⟩
end
end Go.Proofs.YtahfnknbmikmkaaGreat
namespace Go.Proofs.YtahfnknbmikmkaaGreat
open Go.RowKit Go.Proofs.Ty Go.Sort Go.Lib
set_option linter.unusedVariables false
set_option maxRecDepth 1000000
set_option linter.unusedSimpArgs false
def cdT (L : List En) (ix k : Nat) : Nat := if (L.take k).any (fun e => e.ix == ix) then 101253137 else 100794368
def NoT (L : List En) (ix sb k : Nat) : Prop := ∀ m (hm : m < L.length), m < k → ¬ (L[m].ix = ix ∧ L[m].sb = sb)
theorem cdT_hit {L : List En} {ix k : Nat} (hk : k < L.length) (h : L[k].ix = ix) : cdT L ix (k + 1) = 101253137 := by
  unfold cdT
  rw [List.take_succ_eq_append_getElem hk, List.any_append, if_pos]
  simp [h]
theorem cdT_miss {L : List En} {ix k : Nat} (hk : k < L.length) (h : L[k].ix ≠ ix) : cdT L ix (k + 1) = cdT L ix k := by
  unfold cdT
  rw [List.take_succ_eq_append_getElem hk, List.any_append]
  simp [h]
theorem NoT.step {L : List En} {ix sb k : Nat} (h : NoT L ix sb k) (hk : k < L.length) (hn : ¬ (L[k].ix = ix ∧ L[k].sb = sb)) : NoT L ix sb (k + 1) := by
  intro m hm h1
  rcases Nat.lt_or_ge m k with h3 | h3
  · exact h m hm h3
  · have : m = k := by omega
    subst this; exact hn
theorem NoT.hit {L : List En} {ix sb k : Nat} (h : NoT L ix sb k) (hk : k < L.length) (h1 : L[k].ix = ix) (h2 : L[k].sb = sb) : fiN L ix sb = k ∧ fiC L ix sb = 0 := by
  have : L.findIdx? (fun e => e.ix == ix && e.sb == sb) = some k := by
    rw [List.findIdx?_eq_some_iff_getElem]
    refine ⟨hk, by simp [h1, h2], fun j hj => ?_⟩
    have := h j (by omega) hj
    simpa using this
  unfold fiN fiC
  rw [this]
  exact ⟨rfl, rfl⟩
theorem NoT.miss {L : List En} {ix sb : Nat} (h : NoT L ix sb L.length) : fiN L ix sb = 0 ∧ fiC L ix sb = cdT L ix L.length := by
  have : L.findIdx? (fun e => e.ix == ix && e.sb == sb) = none := by
    rw [List.findIdx?_eq_none_iff]
    intro e he
    obtain ⟨j, hj, rfl⟩ := List.getElem_of_mem he
    have := h j hj hj
    simpa using this
  unfold fiN fiC cdT
  rw [this, List.take_length]
  exact ⟨rfl, rfl⟩
set_option maxHeartbeats 4000000 in
theorem QFind_any {E : Nat} {L : List En} {vL : Value} {V : List Vl} {vV : Value} {w : World} (h : Rd E L vL V vV w) (hl : L.length ≤ 1024) (ix sb : Nat) :
    Calls Tryz.prog 45 #[.pointer (some ⟨E, 0, none⟩), .int .u16 ix, .int .u8 sb] w fun e w' => e = .returned (.tuple #[.int .i64 (fiN L ix sb), .int .u32 (fiC L ix sb)]) ∧ w' = w := by
  obtain ⟨aL, cL, rfl⟩ := h.rowL.wide.shape
  have c0 := h.c.1
  have HW := hidOf2 h.rowL.wide
  have HM := hidOf2 (@NoT.miss L ix sb)
  have HH := hidOf2 (fun k => @NoT.hit L ix sb k)
  generalize fiN L ix sb = FN at *
  generalize fiC L ix sb = FC at *
  clear h
  go_enter Tryz.func45, Tryz.ntmps45
  go_wp2
  go_loop [8, 9] (fun c i => ∃ k : Nat, k ≤ L.length ∧ i = .int .i64 k ∧ c = .int .u32 (cdT L ix k) ∧ Hid (NoT L ix sb k)) (fun _ i => L.length - (intOf i).toNat)
  case atStart => exact ⟨0, Nat.zero_le _, rfl, rfl, fun m hm h => by omega⟩
  case round =>
    obtain ⟨k, hk, rfl, rfl, HN⟩ := hrel
    by_cases hkl : k < L.length
    · obtain ⟨b, off, cp, hv, hb, hR⟩ := HW.out.at0 k hkl
      injection hv with hv1 _ hv3
      subst hv1
      subst hv3
      have k0 := hR 0 _ rfl
      have k1 := hR 1 _ rfl
      simp only [Nat.add_zero] at k0
      have HT := hidOf2 (HN.out.step hkl)
      have HC1 := hidOf2 (@cdT_hit L ix k hkl)
      have HC2 := hidOf2 (@cdT_miss L ix k hkl)
      have HH1 := hidOf2 (HH.out k HN.out hkl)
      clear hR hb HN
      generalize L[k].ix = X1 at *
      generalize L[k].sb = X2 at *
      by_cases hx : X1 = ix
      · subst hx
        have e0 := hidOf2 (HC1.out rfl)
        by_cases hy : X2 = sb
        · subst hy
          have e1 := hidOf2 (HH1.out rfl rfl)
          clear HC1 HC2 HT HH1
          generalize cdT L X1 k = C at *
          go_wp2
          go_ret2
          exact ⟨by rw [e1.out.1, e1.out.2]; rfl, rfl⟩
        · have d3 : ((X2 : Int) == (sb : Int)) = false := by simp; omega
          have e1 := hidOf2 (HT.out (fun h => hy h.2))
          clear HC1 HC2 HT HH1
          generalize cdT L X1 k = C at *
          go_wp2
          go_round
          case rel => exact ⟨k + 1, by omega, by go_num, by rw [e0.out]; rfl, e1⟩
          case measure => simp [intOf]; omega
      · have d3 : ((X1 : Int) == (ix : Int)) = false := by simp; omega
        have e0 := hidOf2 (HC2.out hx)
        have e1 := hidOf2 (HT.out (fun h => hx h.1))
        clear HC1 HC2 HT HH1
        generalize cdT L ix k = C at *
        go_wp2
        go_round
        case rel => exact ⟨k + 1, by omega, by go_num, by rw [e0.out], e1⟩
        case measure => simp [intOf]; omega
    · have e1 : k = L.length := by omega
      subst e1
      have e2 := hidOf2 (HM.out HN.out)
      clear HN HM HH
      generalize cdT L ix L.length = C at *
      go_wp2
      go_ret2
      exact ⟨by rw [e2.out.1, e2.out.2]; rfl, rfl⟩
/-- The k-th entry of the document's dictionary, its value. -/
theorem Rd.atI {E : Nat} {its : List Im} {vL vV : Value} {w : World} (h : Rd E (its.map Im.e) vL (its.map Im.v) vV w) {k : Nat} (hk : k < its.length) : ∃ lb lo cL vb vo cV, vL = .slice (some ⟨lb, lo, none⟩) its.length cL ∧ vV = .slice (some ⟨vb, vo, none⟩) its.length cV ∧ lb < w.heap.size ∧ vb < w.heap.size ∧ w.rangeAt lb (lo + k * 14) (enC its[k].e) ∧ w.rangeAt vb (vo + k * 3) (vlC its[k].v) := by
  obtain ⟨lb, lo, cL, h1, h2, h3⟩ := h.rowL.wide.at0 k (by simpa using hk)
  obtain ⟨vb, vo, cV, g1, g2, g3⟩ := h.rowV.wide.at0 k (by simpa using hk)
  rw [List.length_map] at h1 g1
  rw [List.getElem_map] at h3 g3
  exact ⟨lb, lo, cL, vb, vo, cV, h1, g1, h2, g2, h3, g3⟩
end Go.Proofs.YtahfnknbmikmkaaGreat
