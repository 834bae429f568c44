/- The law OdOrder holds: whatever the order in which the entries are handed in, and whatever is written, two dictionaries answer alike, list alike and save alike; no condition. -/
import Derived.Test.YtdcogpadioeclaaP6
import Derived.Test.YtdcogpadioeclaaTyO
namespace Go.Proofs.Ytdcogpadioeclaa
open Go.RowKit Go.Proofs.Ty Go.Sort Go.Lib
set_option linter.unusedVariables false
set_option maxRecDepth 1000000
set_option linter.unusedSimpArgs false
def zE : Array Value := #[.int .u16 0, .int .u8 0, .int .i64 0, .bool false, .bool false, .int .i64 0, .int .u64 0, .string ⟨#[]⟩, .int .i64 0, .int .u64 0, .string ⟨#[]⟩, .int .i64 0, .int .u64 0, .string ⟨#[]⟩]
theorem run_make_ents (n : Nat) (hn : n ≤ 1024) (w : World) : (Instr.makeSlice 22 (.int .i64 n) (.int .i64 n)).run Try.prog w = .ok (.slice (some ⟨w.heap.size, 0, none⟩) n n) (w.alloc (.cells (madeCells zE (n * 14)) 47)) := by
  obtain ⟨i0, hi, hz0, hz1, hz2⟩ := info_parts infoEz
  have := run_make (P := Try.prog) w 22 47 i0 _ Try.underlying22 hi hz0 .i64 .i64 n n (by omega) (Int.le_refl _) (by rw [hz2]; omega) (by omega)
  simp only [Int.toNat_natCast, hz1] at this
  exact this
/-- So many entries are laid down. -/
structure Ls (w : World) (g : Nat) (its : List Im) (k : Nat) (x : World) : Prop where
  bel : Below w.heap.size w x
  base : w.heap.size ≤ g
  lt : g < x.heap.size
  ht : x.there g 0 (its.length * 14)
  hn : ∀ m (hm : m < its.length), m < k → x.rangeAt g (m * 14) (enC its[m].e)
theorem Ls.start (w : World) (its : List Im) : Ls w w.heap.size its 0 (w.alloc (.cells (madeCells zE (its.length * 14)) 47)) := by
  refine ⟨(Below.refl _ _).alloc (Nat.le_refl _) _, Nat.le_refl _, by rw [size_alloc]; omega, fun j hj => ?_, fun m _ h => by omega⟩
  have hh := heap_alloc_new w (.cells (madeCells zE (its.length * 14)) 47)
  refine ⟨?_, Lib.frozen_of_heap hh _⟩
  rw [Lib.cell_of_heap hh]
  have : 0 + j < (madeCells zE (its.length * 14)).size := by rw [size_madeCells]; omega
  rw [Array.getElem?_eq_getElem this]; rfl
theorem Ls.step {w : World} {g : Nat} {its : List Im} {k : Nat} {x : World} (h : Ls w g its k x) (hk : k < its.length) : x.there g (k * 14) 14 ∧ Ls w g its (k + 1) (x.setCells g (k * 14) (enC its[k].e)) := by
  have ht : x.there g (k * 14) 14 := fun j hj => by
    have := h.ht (k * 14 + j) (by have : (k + 1) * 14 ≤ its.length * 14 := Nat.mul_le_mul_right _ hk; omega)
    rw [Nat.zero_add] at this
    exact this
  refine ⟨ht, h.bel.grown (setCells_kept x g (k * 14) _) h.bel.size (fun j hj => by cases hj; exact h.base), h.base, by rw [setCells_size]; exact h.lt, World.there_setCells h.ht _ _ _, fun m hm hmk => ?_⟩
  rcases Nat.lt_or_ge m k with h3 | h3
  · exact World.rangeAt_setCells_apart (h.hn m hm h3) g (k * 14) _ (.inr (.inl (by rw [enC_len]; omega)))
  · have : m = k := by omega
    subst this
    exact World.rangeAt_setCells_same x g (m * 14) _ (by rw [enC_len]; exact ht)
theorem Ls.wide {w : World} {g : Nat} {its : List Im} {x : World} (h : Ls w g its its.length x) : Wide 14 enC x (.slice (some ⟨g, 0, none⟩) (its.map Im.e).length its.length) (its.map Im.e) := by
  refine ⟨some ⟨g, 0, none⟩, its.length, rfl, (fun h => by cases h), fun k hk => ⟨g, 0, rfl, h.lt, ?_⟩⟩
  have hk' : k < its.length := by simpa using hk
  rw [List.getElem_map, Nat.zero_add]
  exact h.hn k hk' hk'
theorem sdEm {w : World} {b o : Nat} (ht : w.there b o 14) {ops : Array Oper} {rest : List Oper} {p : Oper} {a : Act} {Q : Exit → Act → World → Prop} (e : En) (hgd : p.guard = none) (x y : Operand) (ho : p.op = .store 47 x y) (hx : a.eval x = .pointer (some ⟨b, o, none⟩)) (hy : a.eval y = .agg e.arr)
    (hh : wpList Try.prog ops Q rest (a.put p.dst undef) (w.setCells b o (enC e))) : wpList Try.prog ops Q (p :: rest) a w :=
  wpList_store_mid hgd 47 x y ho b o e.arr hx hy ht (by show _ = some 14; exact infoE) (all_oneCell_toArray e.one) hh
end Go.Proofs.Ytdcogpadioeclaa
namespace Go.Proofs.Ytdcogpadioeclaa
open Go.RowKit Go.Proofs.Ty Go.Sort Go.Lib
set_option linter.unusedVariables false
set_option maxRecDepth 1000000
set_option linter.unusedSimpArgs false
/-- Entries held against each other. -/
def En.lits (e : En) : List Lit := [.int .u16 e.ix, .int .u8 e.sb, .int .i64 e.ac, .bool e.mp, .bool e.li] ++ e.mn.lits ++ e.mx.lits ++ e.df.lits
theorem keyE : Try.prog.keyTypeAt 4 47 = true := by kernel_rfl
theorem guardE : Try.prog.eqGuardType Try.prog.depth 47 = false := by kernel_rfl
theorem en_formed (e : En) : (Value.agg e.arr).formed Try.prog 47 = true := by
  have c1 : Try.prog.cellsOf 47 = 14 := by kernel_rfl
  simp [Value.formed, Try.underlying47, c1, En.arr, enC]
theorem en_keyLits (e : En) (d : Nat) : Try.prog.keyLits (d + 4) 47 e.arr.toList = some e.lits := by
  have h1 := e.hix
  have h2 := e.hsb
  have h3 := e.hac
  have k1 := vl_keyLits e.mn d
  have k2 := vl_keyLits e.mx d
  have k3 := vl_keyLits e.df d
  have c1 : Try.prog.cellsOf 33 = 3 := by kernel_rfl
  have c2 : Try.prog.cellsOf 3 = 1 := by kernel_rfl
  have c3 : Try.prog.cellsOf 29 = 1 := by kernel_rfl
  have c4 : Try.prog.cellsOf 5 = 1 := by kernel_rfl
  have c5 : Try.prog.cellsOf 4 = 1 := by kernel_rfl
  have c6 : Try.prog.cellsOf 47 = 14 := by kernel_rfl
  have w1 : (Lit.int .u16 e.ix).wf = true := by simp [Lit.wf, IntKind.min, IntKind.max, IntKind.signed, IntKind.bits]; omega
  have w2 : (Lit.int .u8 e.sb).wf = true := by simp [Lit.wf, IntKind.min, IntKind.max, IntKind.signed, IntKind.bits]; omega
  have w3 : (Lit.int .i64 e.ac).wf = true := by simp [Lit.wf, IntKind.min, IntKind.max, IntKind.signed, IntKind.bits]; omega
  simp only [Vl.arr] at k1 k2 k3
  have s1 : Try.prog.keyLits (d + 3) 29 [.int .u16 e.ix] = some [.int .u16 e.ix] := by simp [Program.keyLits, Try.underlying29, w1]
  have s2 : Try.prog.keyLits (d + 3) 5 [.int .u8 e.sb] = some [.int .u8 e.sb] := by simp [Program.keyLits, Try.underlying5, w2]
  have s3 : Try.prog.keyLits (d + 3) 3 [.int .i64 e.ac] = some [.int .i64 e.ac] := by simp [Program.keyLits, Try.underlying3, w3]
  have s4 : Try.prog.keyLits (d + 3) 4 [.bool e.mp] = some [.bool e.mp] := by simp [Program.keyLits, Try.underlying4]
  have s5 : Try.prog.keyLits (d + 3) 4 [.bool e.li] = some [.bool e.li] := by simp [Program.keyLits, Try.underlying4]
  unfold Program.keyLits
  simp [En.arr, enC, En.lits, Try.underlying47, c1, c2, c3, c4, c5, c6, s1, s2, s3, s4, s5, k1, k2, k3]
theorem enSame (e : En) (w : World) : (binOp .neq 47 (.agg e.arr) (.agg e.arr)).run Try.prog w = .ok (.bool false) w := by
  obtain ⟨r, hr, hiff⟩ := run_equalIn_deep (10000 - 4) 4 47 keyE w 4 4 (.agg e.arr) (.agg e.arr) e.lits e.lits (en_formed e) (en_formed e) (en_keyLits e 0) (en_keyLits e 0)
  have e1 : r = true := hiff.2 rfl
  have hq : (Op.equal 47 (.agg e.arr) (.agg e.arr)).run Try.prog w = .ok true w := by rw [← e1]; exact hr
  simp [binOp, hq]
end Go.Proofs.Ytdcogpadioeclaa
namespace Go.Proofs.Ytdcogpadioeclaa
open Go.RowKit Go.Proofs.Ty Go.Sort Go.Lib
set_option linter.unusedVariables false
set_option maxRecDepth 1000000
set_option linter.unusedSimpArgs false
set_option maxHeartbeats 2000000 in
theorem List_any {D R : Nat} {its : List Im} {w : World} (h : Dct D R its w) :
    Calls Try.prog 21 #[.pointer (some ⟨D, 0, none⟩)] w fun e w' => ∃ x, e = .returned x ∧ Wide 14 enC w' x (its.map Im.e) ∧ Below w.heap.size w w' := by
  have hl := h.len
  have HD := hidOf2 h
  have hm := run_make_ents its.length hl
  have c0 := h.cell
  have HL0 := hidOf2 (Ls.start w its)
  have HLW := hidOf2 (fun g x (hx : Ls w g its its.length x) => hx.wide)
  have k0 := (h.below (Ls.start w its).bel).cell
  obtain ⟨g, hg⟩ : ∃ g, w.heap.size = g := ⟨_, rfl⟩
  clear h
  go_enter Try.func21, Try.ntmps21
  go_wp2
  generalize (w.alloc (.cells (madeCells zE (its.length * 14)) 47)) = w1 at *
  simp only [hg] at HL0
  try simp only [hg]
  go_loopw [17] (fun i x => ∃ k : Nat, k ≤ its.length ∧ i = .int .i64 k ∧ Hid (Ls w g its k x)) (fun i _ => its.length - (intOf i).toNat)
  case atStart => exact ⟨0, Nat.zero_le _, rfl, HL0⟩
  case round =>
    clear HL0
    obtain ⟨k, hk, rfl, HL⟩ := hrel
    by_cases hkl : k < its.length
    · have hD := HD.out.below HL.out.bel
      have ca := hD.at k hkl
      have hI := hD.items its[k] (List.getElem_mem hkl)
      obtain ⟨ht, HLn0⟩ := HL.out.step hkl
      have HLn := hidOf2 HLn0
      have r0 := hI.r0
      unfold ptrI at ca
      clear HLn0 hI hD HL
      generalize its[k] = i at *
      go_upto_region 6 with (first | (refine ldE r0 rfl _ rfl rfl ?_) | (refine sdEm ht i.e rfl _ _ rfl rfl rfl ?_; clear r0 ht; generalize wr.setCells g (k * 14) (enC i.e) = w2 at *))
      go_wp2
      go_roundw
      case rel => exact ⟨k + 1, by omega, by go_num, HLn⟩
      case measure => simp [intOf]; omega
    · have e1 : k = its.length := by omega
      subst e1
      have HW := hidOf2 (HLW.out g wr HL.out)
      rw [List.length_map] at HW
      have HB := hidOf2 HL.out.bel
      clear HL
      go_wp2
      go_ret
      exact ⟨_, rfl, HW.out, HB.out⟩
end Go.Proofs.Ytdcogpadioeclaa
namespace Go.Proofs.Ytdcogpadioeclaa
open Go.RowKit Go.Proofs.Ty Go.Sort Go.Lib
set_option linter.unusedVariables false
set_option maxRecDepth 1000000
set_option linter.unusedSimpArgs false
def er (i : Im) : En × Vl := (i.e, i.v)
/-- The same entries with the same values. -/
def Tw (a b : List Im) : Prop := a.map er = b.map er
theorem Tw.e {a b : List Im} (h : Tw a b) : a.map Im.e = b.map Im.e := by
  have : ∀ l : List Im, l.map Im.e = (l.map er).map Prod.fst := fun l => by rw [List.map_map]; rfl
  rw [this, this, h]
theorem fnd_er (a : List Im) (ix sb : Nat) : (fnd a ix sb).map er = (a.map er).find? (fun p => p.1.ix == ix && p.1.sb == sb) := by
  unfold fnd
  rw [List.find?_map]
  rfl
theorem Tw.fnd {a b : List Im} (h : Tw a b) (ix sb : Nat) : (fnd a ix sb).map er = (Go.Proofs.Ytdcogpadioeclaa.fnd b ix sb).map er := by rw [fnd_er, fnd_er, h]
theorem noc_er (a : List Im) (ix : Nat) : noc a ix = if (a.map er).any (fun p => p.1.ix == ix) then 101253137 else 100794368 := by
  unfold noc
  rw [List.any_map]
  rfl
theorem Tw.wc {a b : List Im} (h : Tw a b) (ix sb : Nat) (l : List UInt8) : wc a ix sb l = Go.Proofs.Ytdcogpadioeclaa.wc b ix sb l := by
  have hf := h.fnd ix sb
  unfold Go.Proofs.Ytdcogpadioeclaa.wc
  cases ha : Go.Proofs.Ytdcogpadioeclaa.fnd a ix sb with
  | none =>
    rw [ha] at hf
    cases hb : Go.Proofs.Ytdcogpadioeclaa.fnd b ix sb with
    | none => simp only; rw [noc_er, noc_er, h]
    | some j => rw [hb] at hf; cases hf
  | some i =>
    rw [ha] at hf
    cases hb : Go.Proofs.Ytdcogpadioeclaa.fnd b ix sb with
    | none => rw [hb] at hf; cases hf
    | some j =>
      rw [hb] at hf
      simp only [Option.map_some, Option.some.injEq, er, Prod.mk.injEq] at hf
      simp only [wcode]
      rw [hf.1]
theorem setV_er {a : List Im} (hd : (a.map Im.b).Nodup) (hs : a.Pairwise (fun x y => x.e.pl < y.e.pl)) {i : Im} (hi : i ∈ a) (v : Vl) : (setV a i.b v).map er = (a.map er).map (fun p => if p.1.pl = i.e.pl then (p.1, v) else p) := by
  unfold setV
  rw [List.map_map, List.map_map]
  apply List.map_congr_left
  intro x hx
  simp only [Function.comp, er]
  by_cases e : x.b = i.b
  · have := mem_b hd hx hi e
    subst this
    rw [if_pos rfl]
    exact (if_pos (show (er x).1.pl = x.e.pl from rfl)).symm
  · have hne : ¬ x.e.pl = i.e.pl := fun h => e (by
      obtain ⟨m, hm, rfl⟩ := List.getElem_of_mem hx
      obtain ⟨n, hn, rfl⟩ := List.getElem_of_mem hi
      have h1 := List.pairwise_iff_getElem.1 hs
      have : m = n := by
        rcases Nat.lt_trichotomy m n with h2 | h2 | h2
        · have := h1 m n hm hn h2; omega
        · exact h2
        · have := h1 n m hn hm h2; omega
      subst this; rfl)
    rw [if_neg e]
    exact (if_neg (show ¬ (er x).1.pl = i.e.pl from hne)).symm
theorem Tw.wrt {a b : List Im} (h : Tw a b) (ha : (a.map Im.b).Nodup) (hb : (b.map Im.b).Nodup) (sa : a.Pairwise (fun x y => x.e.pl < y.e.pl)) (sb' : b.Pairwise (fun x y => x.e.pl < y.e.pl)) (ix sb : Nat) (l : List UInt8) : Tw (wrt a ix sb l) (Go.Proofs.Ytdcogpadioeclaa.wrt b ix sb l) := by
  unfold Go.Proofs.Ytdcogpadioeclaa.wrt
  rw [h.wc ix sb l]
  split
  · have hf := h.fnd ix sb
    cases hfa : Go.Proofs.Ytdcogpadioeclaa.fnd a ix sb with
    | none =>
      rw [hfa] at hf
      cases hfb : Go.Proofs.Ytdcogpadioeclaa.fnd b ix sb with
      | none => exact h
      | some j => rw [hfb] at hf; cases hf
    | some i =>
      rw [hfa] at hf
      cases hfb : Go.Proofs.Ytdcogpadioeclaa.fnd b ix sb with
      | none => rw [hfb] at hf; cases hf
      | some j =>
        rw [hfb] at hf
        simp only [Option.map_some, Option.some.injEq, er, Prod.mk.injEq] at hf
        show (setV a i.b (decW i.e.df.t l)).map er = (setV b j.b (decW j.e.df.t l)).map er
        rw [setV_er ha sa (fnd_mem hfa), setV_er hb sb' (fnd_mem hfb), hf.1, h]
  · exact h
theorem sav_er (a : List Im) : sav a = (a.map er).flatMap (fun p => svI ⟨0, p.1, p.2⟩) := by
  unfold sav
  rw [List.flatMap_map]
  rfl
theorem Tw.sav {a b : List Im} (h : Tw a b) : sav a = Go.Proofs.Ytdcogpadioeclaa.sav b := by rw [sav_er, sav_er, h]
/-- Entries in order, whichever way they came. -/
theorem sorted_eq {a b : List En} (ha : a.Pairwise (fun x y => x.pl < y.pl)) (hb : b.Pairwise (fun x y => x.pl < y.pl)) (hp : a.Perm b) : a = b := by
  induction a generalizing b with
  | nil => exact (List.Perm.nil_eq hp)
  | cons x r ih =>
    cases b with
    | nil => exact absurd hp.length_eq (by simp)
    | cons y s =>
      obtain ⟨h1, h2⟩ := List.pairwise_cons.1 ha
      obtain ⟨k1, k2⟩ := List.pairwise_cons.1 hb
      have hxy : x = y := by
        have m1 : x ∈ y :: s := hp.mem_iff.1 List.mem_cons_self
        have m2 : y ∈ x :: r := hp.mem_iff.2 List.mem_cons_self
        rcases List.mem_cons.1 m1 with e | m1
        · exact e
        · rcases List.mem_cons.1 m2 with e | m2
          · exact e.symm
          · have := k1 x m1; have := h1 y m2; omega
      subst hxy
      rw [ih h2 k2 (List.Perm.cons_inv hp)]
theorem tw_new {a b : List Im} {l m : List En} (sa : a.Pairwise (fun x y => x.e.pl < y.e.pl)) (sb : b.Pairwise (fun x y => x.e.pl < y.e.pl)) (va : ∀ i ∈ a, i.v = i.e.df) (vb : ∀ i ∈ b, i.v = i.e.df) (pa : (a.map Im.e).Perm (l.map En.plain)) (pb : (b.map Im.e).Perm (m.map En.plain)) (hm : m.Perm l) : Tw a b := by
  have he : a.map Im.e = b.map Im.e := sorted_eq (List.pairwise_map.2 sa) (List.pairwise_map.2 sb) (pa.trans ((hm.map En.plain).symm.trans pb.symm))
  have key : ∀ c : List Im, (∀ i ∈ c, i.v = i.e.df) → c.map er = (c.map Im.e).map (fun e => (e, e.df)) := fun c hc => by
    rw [List.map_map]
    apply List.map_congr_left
    intro i hi
    simp only [Function.comp, er, hc i hi]
  unfold Tw
  rw [key a va, key b vb, he]
theorem chkG_perm {s l : List En} (hc : ∀ e ∈ l, e.can = 0) (hn : ((s ++ l).map En.pl).Nodup) : chkG s l = 0 := by
  induction l generalizing s with
  | nil => rfl
  | cons e r ih =>
    rw [chkG, if_neg (by have := hc e List.mem_cons_self; simpa using this), if_neg, ih (fun x hx => hc x (List.mem_cons_of_mem _ hx)) (by simpa using hn)]
    rw [Bool.not_eq_true, List.any_eq_false]
    intro x hx he
    rw [List.map_append, List.nodup_append] at hn
    exact hn.2.2 x.pl (List.mem_map.2 ⟨x, hx, rfl⟩) e.pl (List.mem_map.2 ⟨e, List.mem_cons_self, rfl⟩) (by simpa using he)
/-- Entries that can be can be in whatever order. -/
theorem chkL_perm {l m : List En} (h : chkL l = 0) (hp : m.Perm l) : chkL m = 0 := by
  obtain ⟨h1, h2, h3⟩ := chkL_ok h
  unfold chkL
  rw [if_neg (by rw [hp.length_eq]; omega)]
  refine chkG_perm (fun e he => chkG_all h3 e (hp.mem_iff.1 he)) ?_
  rw [List.nil_append]
  exact (hp.map En.pl).nodup_iff.2 h2
end Go.Proofs.Ytdcogpadioeclaa
namespace Go.Proofs.Ytdcogpadioeclaa
open Go.RowKit Go.Proofs.Ty Go.Sort Go.Lib
set_option linter.unusedVariables false
set_option maxRecDepth 1000000
set_option linter.unusedSimpArgs false
theorem kp_other {D R : Nat} {its : List Im} {x y : World} (hd : Dct D R its x) (hK : Kp (its.map Im.b) x y) {q T : Nat} {A : Array Value} {fr : Nat × Nat} (hq : x.heap[q]? = some (.cells A T fr)) (ht : T ≠ 79) : y.heap[q]? = some (.cells A T fr) :=
  (hK.block q (Array.getElem?_eq_some_iff.1 hq).1 (fun hm => by
    obtain ⟨i, hi, e⟩ := List.mem_map.1 hm
    have h1 := hd.items i hi
    rw [show i.b = q from e] at h1
    have h2 : x.heap[q]? = some (.cells (imC i.e i.v).toArray 79 (0, 0)) := h1
    rw [hq] at h2
    simp at h2
    exact ht h2.2.1)).trans hq
theorem kp_dct {D R D2 R2 : Nat} {its its2 : List Im} {x y : World} (hd : Dct D R its x) (h2 : Dct D2 R2 its2 x) (hK : Kp (its.map Im.b) x y) (dis : ∀ b ∈ its2.map Im.b, b ∉ its.map Im.b) : Dct D2 R2 its2 y :=
  ⟨kp_other hd hK h2.head (by decide), kp_other hd hK h2.row (by decide), fun i hi => (hK.block i.b (h2.items i hi).lt (dis i.b (List.mem_map.2 ⟨i, hi, rfl⟩))).trans (h2.items i hi), h2.apart, h2.sorted, h2.len⟩
theorem kp_own {D R : Nat} {its : List Im} {x y : World} {B T c n : Nat} {v : Value} {xs : List Value} (h : x.ownsRow B T c v n xs) (hd : Dct D R its x) (hK : Kp (its.map Im.b) x y) (ht : T ≠ 79) : y.ownsRow B T c v n xs := by
  refine ⟨h.1, h.2.imp id ?_⟩
  rintro ⟨g, cap, cur, e1, e2, e3, e4⟩
  exact ⟨g, cap, cur, e1, e2, kp_other hd hK e3 ht, e4⟩
/-- A block of another type than the row's. -/
theorem row_other {x y : World} {r : Option Nat} (G : x.grownBy y r) {U : Nat} (hr : ∀ b, r = some b → ∃ cur, x.heap[b]? = some (.cells cur U (0, 0))) {q T : Nat} {A : Array Value} {fr : Nat × Nat} (hq : x.heap[q]? = some (.cells A T fr)) (ht : T ≠ U) : y.heap[q]? = some (.cells A T fr) :=
  (G.block q (Array.getElem?_eq_some_iff.1 hq).1 (fun e => by
    obtain ⟨cur, h1⟩ := hr q e.symm
    rw [hq] at h1
    simp at h1
    exact ht h1.2.1)).trans hq
theorem row_dct {x y : World} {r : Option Nat} (G : x.grownBy y r) {U : Nat} (hr : ∀ b, r = some b → ∃ cur, x.heap[b]? = some (.cells cur U (0, 0))) (h1 : U ≠ 73) (h2 : U ≠ 75) (h3 : U ≠ 79) {D R : Nat} {its : List Im} (h : Dct D R its x) : Dct D R its y :=
  ⟨row_other G hr h.head h1.symm, row_other G hr h.row h2.symm, fun i hi => row_other G hr (show x.heap[i.b]? = _ from h.items i hi) h3.symm, h.apart, h.sorted, h.len⟩
/-- Two dictionaries. -/
structure Se (w : World) (X D R E D2 R2 : Nat) (its its2 : List Im) (x : World) : Prop where
  d1 : Dct D R its x
  d2 : Dct D2 R2 its2 x
  pair : x.heap[X]? = some (.cells #[.pointer (some ⟨D, 0, none⟩), .pointer (some ⟨E, 0, none⟩)] 54 (0, 0))
  below : Below w.heap.size w x
  b1 : ∀ b ∈ its.map Im.b, w.heap.size ≤ b
  b2 : ∀ b ∈ its2.map Im.b, w.heap.size ≤ b
  dis : ∀ b ∈ its.map Im.b, b ∉ its2.map Im.b
  tw : Tw its its2
section
variable {w : World} {X D R E D2 R2 : Nat} {its its2 : List Im} {x y : World}
theorem Se.next (h : Se w X D R E D2 R2 its its2 x) (hb : Below x.heap.size x y) : Se w X D R E D2 R2 its its2 y :=
  ⟨h.d1.below hb, h.d2.below hb, (hb.block X (Array.getElem?_eq_some_iff.1 h.pair).1).trans h.pair, h.below.trans (hb.mono h.below.size), h.b1, h.b2, h.dis, h.tw⟩
theorem Se.cX (h : Se w X D R E D2 R2 its its2 x) : x.cell? ⟨X, 0, none⟩ = some (.pointer (some ⟨D, 0, none⟩)) := Lib.cell_of_heap h.pair 0
theorem Se.row8 (h : Se w X D R E D2 R2 its its2 x) {r : Option Nat} (G : x.grownBy y r) (hr : ∀ b, r = some b → w.heap.size ≤ b ∧ ∃ cur, x.heap[b]? = some (.cells cur 5 (0, 0))) : Se w X D R E D2 R2 its its2 y :=
  have hr2 : ∀ b, r = some b → ∃ cur, x.heap[b]? = some (.cells cur 5 (0, 0)) := fun b hb => (hr b hb).2
  ⟨row_dct G hr2 (by decide) (by decide) (by decide) h.d1, row_dct G hr2 (by decide) (by decide) (by decide) h.d2, row_other G hr2 h.pair (by decide), h.below.grown G h.below.size (fun j hj => (hr j hj).1), h.b1, h.b2, h.dis, h.tw⟩
/-- Both are written. -/
theorem Se.both {z : World} (h : Se w X D R E D2 R2 its its2 x) (ix sb : Nat) (l : List UInt8) (hd : Dct D R (wrt its ix sb l) y) (hK : Kp (its.map Im.b) x y) {y' : World} (hy : Dct D2 R2 its2 y') (hd1 : Dct D R (wrt its ix sb l) y') (hp : y'.heap[X]? = some (.cells #[.pointer (some ⟨D, 0, none⟩), .pointer (some ⟨E, 0, none⟩)] 54 (0, 0))) (hB : Below w.heap.size w y')
    (hd2 : Dct D2 R2 (wrt its2 ix sb l) z) (hK2 : Kp (its2.map Im.b) y' z) : Se w X D R E D2 R2 (wrt its ix sb l) (wrt its2 ix sb l) z := by
  have a1 := (((⟨rfl, rfl⟩ : Al (its.map Im.e) (its.map Im.b) its)).wrt ix sb l).b
  have a2 := (((⟨rfl, rfl⟩ : Al (its2.map Im.e) (its2.map Im.b) its2)).wrt ix sb l).b
  refine ⟨kp_dct hy hd1 hK2 (by rw [a1]; exact h.dis), hd2, kp_other hy hK2 hp (by decide), hK2.below hB hB.size h.b2, by rw [a1]; exact h.b1, by rw [a2]; exact h.b2, by rw [a1, a2]; exact h.dis, h.tw.wrt h.d1.apart h.d2.apart h.d1.sorted h.d2.sorted ix sb l⟩
end
def Aq (q : Nat) (a : A8) (x : World) : Prop := x.heap[q]? = some (.cells a.arr 35 (0, 0))
theorem Aq.c {q : Nat} {a : A8} {x : World} (h : Aq q a x) : x.cell? ⟨q, 1, none⟩ = some (.int .u16 a.ix) ∧ x.cell? ⟨q, 2, none⟩ = some (.int .u8 a.sb) ∧ x.cell? ⟨q, 3, none⟩ = some a.bv := ⟨Lib.cell_of_heap h 1, Lib.cell_of_heap h 2, Lib.cell_of_heap h 3⟩
theorem acC_one (a : A8) (h : a.bv.oneCell' = true) : ∀ u ∈ acC a, u.oneCell' = true := by
  intro u hu
  simp [acC] at hu
  rcases hu with rfl | rfl | rfl | rfl | rfl | rfl | rfl | rfl <;> first | rfl | exact h
section
variable {w : World} {ops : Array Oper} {rest : List Oper} {p : Oper} {a : Act} {Q : Exit → Act → World → Prop} {b o : Nat}
theorem ldA {e : A8} (h : w.rangeAt b o (acC e)) (hgd : Region.wanted p (yielded ops a.tmps) = true) (x : Operand) (ho : p.op = .load 35 x) (hx : a.eval x = .pointer (some ⟨b, o, none⟩))
    (hh : wpList Try.prog ops Q rest (a.put p.dst (.agg e.arr)) w) : wpList Try.prog ops Q (p :: rest) a w :=
  BigFrame.wpList_want hgd fun _ hK => wp_load_mid 35 x ho b o hx (acC e) _ h Try.underlying35 rfl (by rw [infoAz]; rfl) (hK _ _ hh)
theorem sdA {q : Nat} {c : Array Value} (h : w.heap[q]? = some (.cells c 35 (0, 0))) (hc : c.size = 8) (e : A8) (he : e.bv.oneCell' = true) (hgd : p.guard = none) (x y : Operand) (ho : p.op = .store 35 x y) (hx : a.eval x = .pointer (some ⟨q, 0, none⟩)) (hy : a.eval y = .agg e.arr)
    (hh : wpList Try.prog ops Q rest (a.put p.dst undef) (w.setRow q e.arr)) : wpList Try.prog ops Q (p :: rest) a w :=
  wpList_store_row hgd 35 x y ho q e.arr hx hy 35 c h (by show _ = some 8; exact infoAz) (by rw [hc]; rfl) (all_oneCell_toArray (acC_one e he)) hh
end
end Go.Proofs.Ytdcogpadioeclaa
namespace Go.Proofs.Ytdcogpadioeclaa
open Go.RowKit Go.Proofs.Ty Go.Sort Go.Lib
set_option linter.unusedVariables false
set_option maxRecDepth 1000000
set_option linter.unusedSimpArgs false
theorem quiet_neqE {W : World} {ops : Array Oper} {rest : List Oper} {o : Oper} {a : Act} {Q : Act → Prop} (e : En) (hgd : Region.wanted o (yielded ops a.tmps) = true) (x y : Operand) (ho : o.op = .binOp .neq 47 x y 47) (hx : a.eval x = .agg e.arr) (hy : a.eval y = .agg e.arr)
    (hh : wpQuiet Try.prog ops (fun w' => ∃ x : Later W, w' = x.now) Q rest (a.put o.dst (.bool false))) : wpQuiet Try.prog ops (fun w' => ∃ x : Later W, w' = x.now) Q (o :: rest) a := by
  unfold wpQuiet
  rw [if_pos hgd]
  refine ⟨.bool false, ?_, hh⟩
  rintro w' ⟨z, rfl⟩
  have hl := enSame e z.now
  have hg : (eqGuard .neq 47 x y (.agg e.arr) (.agg e.arr)).run Try.prog z.now = .ok () z.now := run_eqGuard_agg z.now .neq 47 x y e.arr e.arr guardE
  unfold Oper.quietAt execOp
  simp only [ho, hx, hy, Sem.run_bind, Sem.run_pure, hg, Result.andThen_ok, hl]
  exact ⟨rfl, rfl⟩
theorem wp_conv {o : Oper} {a : Act} {w : World} {K : Act → World → Prop} {Q : Exit → Act → World → Prop} (x : Operand) (ho : o.op = .convert 30 9 x) (v u : Value) (hx : a.eval x = v)
    (hr : (convert 30 9 v).run Try.prog w = .ok u w) (h : K (a.put o.dst u) w) : o.wp Try.prog a w K Q := by
  unfold Oper.wp execOp
  simp only [ho, hx, Sem.run_bind, Sem.run_pure, Result.andThen_ok, hr]
  exact h
end Go.Proofs.Ytdcogpadioeclaa
namespace Go.Proofs.Ytdcogpadioeclaa
open Go.RowKit Go.Proofs.Ty Go.Sort Go.Lib
set_option linter.unusedVariables false
set_option maxRecDepth 1000000
set_option linter.unusedSimpArgs false
theorem enterWo : ∀ args x, (callFunc 14 args).run Try.prog x = .ok (.enter 14 args) x := fun _ _ => by rfl
theorem enterSv : ∀ args x, (callFunc 19 args).run Try.prog x = .ok (.enter 19 args) x := fun _ _ => by rfl
theorem own_keep {x y : World} {B e c n : Nat} {v : Value} {xs : List Value} (h : x.ownsRow B e c v n xs) {r : Option Nat} (G : x.grownBy y r) (hne : v.ownBlock ≠ r) : y.ownsRow B e c v n xs := by
  refine ⟨h.1, h.2.imp id ?_⟩
  rintro ⟨g, cap, cur, e1, e2, e3, e4⟩
  subst e1
  exact ⟨g, cap, cur, rfl, e2, (G.block g (Array.getElem?_eq_some_iff.1 e3).1 (fun e => hne e)).trans e3, e4⟩
/-- Both dictionaries are written, act by act. -/
theorem rev_step (l : List En) (m : Nat) (hm : m < l.length) : (l.drop (m + 1)).reverse ++ [l[m]] = (l.drop m).reverse := by
  rw [List.drop_eq_getElem_cons hm, List.reverse_cons]
set_option maxHeartbeats 16000000 in
theorem oord_walk (v0 v1 : Value) (l : List En) (acts : List A8) (w : World) (h0 : Wide 14 enC w v0 l) (h1 : Wide 8 acC w v1 acts) (hn0 : l.length ≤ 1172812402927) (hn1 : acts.length ≤ 1759218604390) (hb : ∀ a ∈ acts, Bytes w a.bv a.bl ∧ a.bl.length ≤ 140737488351232) :
    Calls Try.prog 7 #[v0, v1] w fun e w' => e = .returned (.bool true) ∧ Below w.heap.size w w' := by
  have HW0 := hidOf2 h0
  obtain ⟨ao0, cp0, rfl⟩ := h0.shape
  obtain ⟨ao1, cp1, rfl, _, hc1⟩ := h1
  have HCA : Hid (∀ (wr : World), Below w.heap.size w wr → ∀ k (hk : k < acts.length), ∃ b off, ao1 = some ⟨b, off, none⟩ ∧ b < w.heap.size ∧ wr.rangeAt b (off + k * 8) (acC acts[k])) := fun wr hb k hk => Wide.at hc1 hb k hk
  have HBA := hidOf2 hb
  have hBg := Begins_any _ l w h0 hn0
  have hL8 := lives8_any
  clear h0 hb hc1
  go_enter Try.func7, Try.ntmps7
  go_wp2_with fail
  refine hBg.mono ?_
  rintro e w1 ⟨B1, hbad, hgood⟩
  have HG := hidOf2 hgood
  have HB2 := hidOf2 hbad
  clear hBg hgood hbad
  by_cases hc : chkL l = 0
  · obtain ⟨X, D, R, E, its, vL, vV, rfl, N1⟩ := HG.out hc
    have HN1 := hidOf2 N1
    have hlen := (chkL_ok hc).1
    have bB : Below w1.heap.size w1 (w1.alloc (.cells #[] 47)) := (Below.refl _ _).alloc (Nat.le_refl _) _
    have HD2 := hidOf2 (N1.dct.below bB)
    have HX2 := hidOf2 ((bB.block X (Array.getElem?_eq_some_iff.1 N1.pair).1).trans N1.pair)
    have HB3 := hidOf2 (B1.trans (bB.mono B1.size))
    have HP2 := hidOf2 (own_lower (own0E w1) B1.size)
    clear HG HB2 N1 bB
    go_wp2_with (first | (refine bs0E rfl rfl ?_))
    generalize w1.alloc (.cells #[] 47) = w2 at *
    try simp only [Act.put]
    go_loopw [7, 8] (fun s7 s8 x => ∃ j : Nat, j ≤ l.length ∧ s8 = .int .i64 ((j : Int) - 1) ∧ Hid (x.ownsRow w.heap.size 47 14 s7 (l.drop j).reverse.length (flatW DE (l.drop j).reverse)) ∧ Hid (Dct D R its x) ∧ Hid (x.heap[X]? = some (.cells #[.pointer (some ⟨D, 0, none⟩), .pointer (some ⟨E, 0, none⟩)] 54 (0, 0))) ∧ Hid (Below w.heap.size w x)) (fun _ s8 _ => ((intOf s8) + 1).toNat)
    case atStart => exact ⟨l.length, Nat.le_refl _, rfl, by rw [List.drop_length]; exact HP2, HD2, HX2, HB3⟩
    case round =>
      clear HP2 HD2 HX2 HB3
      obtain ⟨j, hj, rfl, HP, HD, HX, HB⟩ := hrel
      cases j with
      | succ m =>
        have em : ((m + 1 : Nat) : Int) - 1 = (m : Int) := by omega
        rw [em]
        have hml : m < l.length := hj
        obtain ⟨eb, eo, cpx, hv, hab, hR⟩ := HW0.out.at0 m hml
        injection hv with hv1 _ hv3
        subst hv1
        subst hv3
        have hRx := rng_below hR HB.out hab
        have HT := hidOf2 (rev_step l m hml)
        have hll : (l.drop (m + 1)).reverse.length ≤ 1024 := by simp; omega
        generalize l[m] = e at *
        have bA : Below wr.heap.size wr (wr.alloc (.cells (DE.dec e).toArray 47)) := (Below.refl _ _).alloc (Nat.le_refl _) _
        have P7 := ownsRow_alloc HP.out (.cells (DE.dec e).toArray 47)
        have hWv := wide_new DE wr e 47
        have hbs : w.heap.size ≤ (wr.alloc (.cells (DE.dec e).toArray 47)).heap.size := Nat.le_trans HB.out.size bA.size
        clear hR
        go_wp2_with (first | (refine ldE hRx rfl _ rfl rfl ?_) | (refine one_bs DE e 22 47 _ 120 rfl _ rfl rfl Try.underlying22 infoEz (by decide) ?_; clear hRx) | (refine apE rfl _ _ rfl w.heap.size _ (l.drop (m + 1)).reverse rfl P7 _ [e] rfl hWv (by simp at hll ⊢; omega) hbs ?_; intro v8 w8 P8 G8; have hr8 := fun b hb => (own_of P7 (g := b) hb).2; have HP8 := hidOf2 P8; have HD8 := hidOf2 (row_dct G8 hr8 (by decide) (by decide) (by decide) (HD.out.below bA)); have HX8 := hidOf2 (row_other G8 hr8 ((bA.block X (Array.getElem?_eq_some_iff.1 HX.out).1).trans HX.out) (by decide)); have HB8 := hidOf2 ((HB.out.trans (bA.mono HB.out.size)).grown G8 hbs (own_lt P7)); clear P8 G8 hr8 P7 hWv bA hbs))
        go_roundw
        case rel => exact ⟨m, by omega, rfl, by rw [← HT.out]; exact HP8, HD8, HX8, HB8⟩
        case measure => simp [intOf]
      | zero =>
        rw [List.drop_zero] at HP
        have hN := (oNew_any _ l.reverse wr (wide_of_own DE HP.out) (by simp; omega)).mono (fun _ _ h => h.2 (chkL_perm hc (List.reverse_perm l)))
        clear HP
        go_wp2_with fail
        refine hN.mono ?_
        rintro e w4 ⟨D2, R2, its2, rfl, N2⟩
        have HSe4 : Hid (Se w X D R E D2 R2 its its2 w4) := ⟨HD.out.below N2.below, N2.dct, (N2.below.block X (Array.getElem?_eq_some_iff.1 HX.out).1).trans HX.out, HB.out.trans (N2.below.mono HB.out.size),
          (fun b hb => by obtain ⟨i, hi, rfl⟩ := List.mem_map.1 hb; exact HN1.out.base i hi), (fun b hb => by obtain ⟨i, hi, rfl⟩ := List.mem_map.1 hb; exact Nat.le_trans HB.out.size (N2.base i hi)),
          (fun b hb h2 => by
            obtain ⟨i, hi, rfl⟩ := List.mem_map.1 hb
            obtain ⟨i2, hi2, e2⟩ := List.mem_map.1 h2
            have := (HD.out.items i hi).lt
            have := N2.base i2 hi2
            omega), tw_new HD.out.sorted N2.dct.sorted HN1.out.vals N2.vals HN1.out.perm N2.perm (List.reverse_perm l)⟩
        clear hN HN1 HD HX HB N2 HW0
        go_wp2
        go_loopw [11] (fun s11 x => ∃ (k : Nat) (its its2 : List Im), k ≤ acts.length ∧ s11 = .int .i64 k ∧ Hid (Se w X D R E D2 R2 its its2 x)) (fun s11 _ => acts.length - (intOf s11).toNat)
        case atStart => exact ⟨0, its, its2, Nat.zero_le _, rfl, HSe4⟩
        case round =>
          clear HSe4
          obtain ⟨k, its, its2, hk, rfl, HSe⟩ := hrel
          by_cases hka : k < acts.length
          · obtain ⟨ab, ao, hao, hab, hR⟩ := HCA.out wr HSe.out.below k hka
            subst hao
            have HBy := hidOf2 (HBA.out acts[k] (List.getElem_mem hka))
            generalize acts[k] = A at *
            obtain ⟨aob, cpb, hbv⟩ := bytes_shape HBy.out.1
            rw [hbv] at HBy
            have hbo : A.bv.oneCell' = true := by rw [hbv]; rfl
            have hz : (wr.alloc (.cells #[.int .i64 0, .int .u16 0, .int .u8 0, .slice none 0 0, .int .i64 0, .int .u64 0, .string ⟨#[]⟩, .int .u16 0] 35)).heap[wr.heap.size]? = some (.cells #[.int .i64 0, .int .u16 0, .int .u8 0, .slice none 0 0, .int .i64 0, .int .u64 0, .string ⟨#[]⟩, .int .u16 0] 35 (0, 0)) := heap_alloc_new _ _
            have hA3 : Aq wr.heap.size A ((wr.alloc (.cells #[.int .i64 0, .int .u16 0, .int .u8 0, .slice none 0 0, .int .i64 0, .int .u64 0, .string ⟨#[]⟩, .int .u16 0] 35)).setRow wr.heap.size A.arr) := setRow_heap _ _ _ _ _ _ hz
            have bq : Below wr.heap.size wr ((wr.alloc (.cells #[.int .i64 0, .int .u16 0, .int .u8 0, .slice none 0 0, .int .i64 0, .int .u64 0, .string ⟨#[]⟩, .int .u16 0] 35)).setRow wr.heap.size A.arr) := below_row ((Below.refl _ _).alloc (Nat.le_refl _) _) (Nat.le_refl _) (by rw [size_alloc]; omega) _
            have hSe3 := HSe.out.next bq
            have HA3 := hidOf2 hA3
            have HS3 := hidOf2 hSe3
            clear hA3 hSe3 bq
            go_upto_region 16 with (first | (refine ldA hR rfl _ rfl rfl ?_; clear hR) | (refine sdA hz rfl A hbo rfl _ _ rfl rfl rfl ?_; clear hz))
            obtain ⟨q, hq⟩ : ∃ q, wr.heap.size = q := ⟨_, rfl⟩
            try simp only [hq]
            rw [hq] at HA3 HS3
            generalize (wr.alloc (.cells #[.int .i64 0, .int .u16 0, .int .u8 0, .slice none 0 0, .int .i64 0, .int .u64 0, .string ⟨#[]⟩, .int .u16 0] 35)).setRow q A.arr = w3 at *
            have hAc : ∀ {x : World}, Aq q A x → x.cell? ⟨q, 1, none⟩ = some (.int .u16 A.ix) ∧ x.cell? ⟨q, 2, none⟩ = some (.int .u8 A.sb) ∧ x.cell? ⟨q, 3, none⟩ = some (.slice aob A.bl.length cpb) := fun h => by
              have h2 := Aq.c h
              rw [hbv] at h2
              exact h2
            have O0 := HS3.out.next (bdr (Below.refl _ w3) 1)
            have A0 : Aq q A w3.drew := ((bdr (Below.refl _ w3) 1).block q (Array.getElem?_eq_some_iff.1 HA3.out).1).trans HA3.out
            have S0 : w3.drew.cell? ⟨X, 0, none⟩ = some (.pointer (some ⟨D, 0, none⟩)) ∧ w3.drew.cell? ⟨q, 1, none⟩ = some (.int .u16 A.ix) ∧ w3.drew.cell? ⟨q, 2, none⟩ = some (.int .u8 A.sb) ∧ w3.drew.cell? ⟨q, 3, none⟩ = some (.slice aob A.bl.length cpb) := ⟨O0.cX, (hAc A0).1, (hAc A0).2.1, (hAc A0).2.2⟩
            clear hbv hbo HA3 HS3 HCA HBA hab
            refine wp_region_held (S := fun x => x.cell? ⟨X, 0, none⟩ = some (.pointer (some ⟨D, 0, none⟩)) ∧ x.cell? ⟨q, 1, none⟩ = some (.int .u16 A.ix) ∧ x.cell? ⟨q, 2, none⟩ = some (.int .u8 A.sb) ∧ x.cell? ⟨q, 3, none⟩ = some (.slice aob A.bl.length cpb)) (by kernel_rfl) ?_
            change wpAnyH _ _ _ _ _ _ _ _ w3.drew
            refine wpAnyH_take (i := 0) (v := (.pointer (some ⟨X, 0, none⟩))) rfl (by kernel_rfl) (by kernel_rfl) (by kernel_rfl) (fun _ _ _ h => h) (.inl ⟨rfl, fun _ hS => rfl⟩) S0 ?_
            simp only [List.getElem_toArray, List.getElem_cons_succ, List.getElem_cons_zero, Act.put, List.setIfInBounds_toArray, List.set_cons_succ, List.set_cons_zero]
            refine wpAnyH_take (i := 1) (v := (.pointer (some ⟨X, 0, none⟩))) rfl (by kernel_rfl) (by kernel_rfl) (by kernel_rfl) (fun _ _ _ h => h) (.inl ⟨rfl, fun _ hS => by simp [execOp, go_sem, Act.eval]⟩) S0 ?_
            simp only [List.getElem_toArray, List.getElem_cons_succ, List.getElem_cons_zero, Act.put, List.setIfInBounds_toArray, List.set_cons_succ, List.set_cons_zero]
            refine wpAnyH_take (i := 2) (v := (.pointer (some ⟨X, 0, none⟩))) rfl (by kernel_rfl) (by kernel_rfl) (by kernel_rfl) (fun _ _ _ h => h) (.inl ⟨rfl, fun _ hS => by simp [execOp, go_sem, Act.eval]⟩) S0 ?_
            simp only [List.getElem_toArray, List.getElem_cons_succ, List.getElem_cons_zero, Act.put, List.setIfInBounds_toArray, List.set_cons_succ, List.set_cons_zero]
            refine wpAnyH_take (i := 3) (v := (.pointer (some ⟨D, 0, none⟩))) rfl (by kernel_rfl) (by kernel_rfl) (by kernel_rfl) (fun _ _ _ h => h) (.inl ⟨rfl, fun _ hS => exec_load rfl rfl (load_pd _ _ _ _ hS.1)⟩) S0 ?_
            simp only [List.getElem_toArray, List.getElem_cons_succ, List.getElem_cons_zero, Act.put, List.setIfInBounds_toArray, List.set_cons_succ, List.set_cons_zero]
            refine wpAnyH_take (i := 4) (v := (.pointer (some ⟨q, 1, none⟩))) rfl (by kernel_rfl) (by kernel_rfl) (by kernel_rfl) (fun _ _ _ h => h) (.inl ⟨rfl, fun _ hS => by simp [execOp, go_sem, Act.eval]⟩) S0 ?_
            simp only [List.getElem_toArray, List.getElem_cons_succ, List.getElem_cons_zero, Act.put, List.setIfInBounds_toArray, List.set_cons_succ, List.set_cons_zero]
            refine wpAnyH_take (i := 5) (v := (.int .u16 A.ix)) rfl (by kernel_rfl) (by kernel_rfl) (by kernel_rfl) (fun _ _ _ h => h) (.inl ⟨rfl, fun _ hS => exec_load rfl rfl (load_u16 _ _ _ _ hS.2.1)⟩) S0 ?_
            simp only [List.getElem_toArray, List.getElem_cons_succ, List.getElem_cons_zero, Act.put, List.setIfInBounds_toArray, List.set_cons_succ, List.set_cons_zero]
            refine wpAnyH_take (i := 6) (v := (.pointer (some ⟨q, 2, none⟩))) rfl (by kernel_rfl) (by kernel_rfl) (by kernel_rfl) (fun _ _ _ h => h) (.inl ⟨rfl, fun _ hS => by simp [execOp, go_sem, Act.eval]⟩) S0 ?_
            simp only [List.getElem_toArray, List.getElem_cons_succ, List.getElem_cons_zero, Act.put, List.setIfInBounds_toArray, List.set_cons_succ, List.set_cons_zero]
            refine wpAnyH_take (i := 7) (v := (.int .u8 A.sb)) rfl (by kernel_rfl) (by kernel_rfl) (by kernel_rfl) (fun _ _ _ h => h) (.inl ⟨rfl, fun _ hS => exec_load rfl rfl (load_u8 _ _ _ _ hS.2.2.1)⟩) S0 ?_
            simp only [List.getElem_toArray, List.getElem_cons_succ, List.getElem_cons_zero, Act.put, List.setIfInBounds_toArray, List.set_cons_succ, List.set_cons_zero]
            refine wpAnyH_take (i := 9) (v := (.pointer (some ⟨q, 3, none⟩))) rfl (by kernel_rfl) (by kernel_rfl) (by kernel_rfl) (fun _ _ _ h => h) (.inl ⟨rfl, fun _ hS => by simp [execOp, go_sem, Act.eval]⟩) S0 ?_
            simp only [List.getElem_toArray, List.getElem_cons_succ, List.getElem_cons_zero, Act.put, List.setIfInBounds_toArray, List.set_cons_succ, List.set_cons_zero]
            refine wpAnyH_take (i := 10) (v := (.slice aob A.bl.length cpb)) rfl (by kernel_rfl) (by kernel_rfl) (by kernel_rfl) (fun _ _ _ h => h) (.inl ⟨rfl, fun _ hS => exec_load rfl rfl (load_bytes _ _ _ _ _ _ hS.2.2.2)⟩) S0 ?_
            simp only [List.getElem_toArray, List.getElem_cons_succ, List.getElem_cons_zero, Act.put, List.setIfInBounds_toArray, List.set_cons_succ, List.set_cons_zero]
            refine wpAnyH_take (i := 13) (v := (.pointer (some ⟨D2, 0, none⟩))) rfl (by kernel_rfl) (by kernel_rfl) (by kernel_rfl) (fun _ _ _ h => h) (.inl ⟨rfl, fun _ hS => rfl⟩) S0 ?_
            simp only [List.getElem_toArray, List.getElem_cons_succ, List.getElem_cons_zero, Act.put, List.setIfInBounds_toArray, List.set_cons_succ, List.set_cons_zero]
            refine wpAnyH_take (i := 14) (v := (.pointer (some ⟨q, 1, none⟩))) rfl (by kernel_rfl) (by kernel_rfl) (by kernel_rfl) (fun _ _ _ h => h) (.inl ⟨rfl, fun _ hS => by simp [execOp, go_sem, Act.eval]⟩) S0 ?_
            simp only [List.getElem_toArray, List.getElem_cons_succ, List.getElem_cons_zero, Act.put, List.setIfInBounds_toArray, List.set_cons_succ, List.set_cons_zero]
            refine wpAnyH_take (i := 15) (v := (.int .u16 A.ix)) rfl (by kernel_rfl) (by kernel_rfl) (by kernel_rfl) (fun _ _ _ h => h) (.inl ⟨rfl, fun _ hS => exec_load rfl rfl (load_u16 _ _ _ _ hS.2.1)⟩) S0 ?_
            simp only [List.getElem_toArray, List.getElem_cons_succ, List.getElem_cons_zero, Act.put, List.setIfInBounds_toArray, List.set_cons_succ, List.set_cons_zero]
            refine wpAnyH_take (i := 16) (v := (.pointer (some ⟨q, 2, none⟩))) rfl (by kernel_rfl) (by kernel_rfl) (by kernel_rfl) (fun _ _ _ h => h) (.inl ⟨rfl, fun _ hS => by simp [execOp, go_sem, Act.eval]⟩) S0 ?_
            simp only [List.getElem_toArray, List.getElem_cons_succ, List.getElem_cons_zero, Act.put, List.setIfInBounds_toArray, List.set_cons_succ, List.set_cons_zero]
            refine wpAnyH_take (i := 17) (v := (.int .u8 A.sb)) rfl (by kernel_rfl) (by kernel_rfl) (by kernel_rfl) (fun _ _ _ h => h) (.inl ⟨rfl, fun _ hS => exec_load rfl rfl (load_u8 _ _ _ _ hS.2.2.1)⟩) S0 ?_
            simp only [List.getElem_toArray, List.getElem_cons_succ, List.getElem_cons_zero, Act.put, List.setIfInBounds_toArray, List.set_cons_succ, List.set_cons_zero]
            refine wpAnyH_take (i := 19) (v := (.pointer (some ⟨q, 3, none⟩))) rfl (by kernel_rfl) (by kernel_rfl) (by kernel_rfl) (fun _ _ _ h => h) (.inl ⟨rfl, fun _ hS => by simp [execOp, go_sem, Act.eval]⟩) S0 ?_
            simp only [List.getElem_toArray, List.getElem_cons_succ, List.getElem_cons_zero, Act.put, List.setIfInBounds_toArray, List.set_cons_succ, List.set_cons_zero]
            refine wpAnyH_take (i := 20) (v := (.slice aob A.bl.length cpb)) rfl (by kernel_rfl) (by kernel_rfl) (by kernel_rfl) (fun _ _ _ h => h) (.inl ⟨rfl, fun _ hS => exec_load rfl rfl (load_bytes _ _ _ _ _ _ hS.2.2.2)⟩) S0 ?_
            simp only [List.getElem_toArray, List.getElem_cons_succ, List.getElem_cons_zero, Act.put, List.setIfInBounds_toArray, List.set_cons_succ, List.set_cons_zero]
            refine wpAnyH_all (rs := [8, 18]) (by kernel_rfl) (by simp) ?_
            intro k hk
            simp only [List.mem_cons, List.mem_nil_iff, or_false] at hk
            rcases hk with rfl | rfl
            · refine wpOp_run rfl rfl (wp_bs0g Try.underlying30 info5 rfl ?_)
              obtain ⟨q1, hq1⟩ : ∃ q, w3.drew.heap.size = q := ⟨_, rfl⟩
              have P11 := own_lower (own_empty w3.drew) O0.below.size
              have bb11 : Below w3.drew.heap.size w3.drew (w3.drew.alloc (.cells #[] 5)) := (Below.refl _ _).alloc (Nat.le_refl _) _
              have O11 := O0.next bb11
              have A11 : Aq q A (w3.drew.alloc (.cells #[] 5)) := (Lib.alloc_old w3.drew _ q (Array.getElem?_eq_some_iff.1 A0).1).trans A0
              rw [hq1] at P11 ⊢
              generalize w3.drew.alloc (.cells #[] 5) = w11 at *
              refine ⟨⟨O11.cX, (hAc A11).1, (hAc A11).2.1, (hAc A11).2.2⟩, ?_⟩
              simp only [List.getElem_toArray, List.getElem_cons_succ, List.getElem_cons_zero, Act.put, List.setIfInBounds_toArray, List.set_cons_succ, List.set_cons_zero]
              refine wpAnyH_all (rs := [11, 18]) (by kernel_rfl) (by simp) ?_
              intro k hk
              simp only [List.mem_cons, List.mem_nil_iff, or_false] at hk
              rcases hk with rfl | rfl
              · refine wpOp_run rfl rfl (wp_append_bytes _ _ rfl w.heap.size (.slice (some ⟨q1, 0, none⟩) 0 0) [] rfl P11 _ A.bl rfl (HBy.out.1.below O11.below) (by have := HBy.out.2; simp; omega) O11.below.size ?_)
                intro v1 w12 P12 G12 _
                rw [List.nil_append] at P12
                have O12 := O11.row8 G12 (fun b hb => own_of P11 hb)
                have A12 : Aq q A w12 := row_other G12 (fun b hb => (own_of P11 hb).2) A11 (by decide)
                refine ⟨⟨O12.cX, (hAc A12).1, (hAc A12).2.1, (hAc A12).2.2⟩, ?_⟩
                simp only [List.getElem_toArray, List.getElem_cons_succ, List.getElem_cons_zero, Act.put, List.setIfInBounds_toArray, List.set_cons_succ, List.set_cons_zero]
                refine wpAnyH_all (rs := [12, 18]) (by kernel_rfl) (by simp) ?_
                intro k hk
                simp only [List.mem_cons, List.mem_nil_iff, or_false] at hk
                rcases hk with rfl | rfl
                · refine wpOp_run rfl rfl (wp_call_fn 14 #[.pointer (some ⟨D, 0, none⟩), .int .u16 A.ix, .int .u8 A.sb, v1] (by simp [execOp, go_sem, Act.eval, resolve, invoke, enterWo]) ?_)
                  refine (Write_any O12.d1 A.ix A.sb A.hix A.hsb v1 A.bl (bytes_of_own P12)).mono ?_
                  rintro e w13 ⟨rfl, D13, K13⟩
                  have E13 := kp_dct O12.d1 O12.d2 K13 (fun b h1 h2 => O12.dis b h2 h1)
                  have X13 := kp_other O12.d1 K13 O12.pair (by decide)
                  have A13 : Aq q A w13 := kp_other O12.d1 K13 A12 (by decide)
                  have B13 := K13.below O12.below O12.below.size O12.b1
                  refine ⟨⟨Lib.cell_of_heap X13 0, (hAc A13).1, (hAc A13).2.1, (hAc A13).2.2⟩, ?_⟩
                  simp only [List.getElem_toArray, List.getElem_cons_succ, List.getElem_cons_zero, Act.put, List.setIfInBounds_toArray, List.set_cons_succ, List.set_cons_zero]
                  refine wpAnyH_all (rs := [18]) (by kernel_rfl) (by simp) ?_
                  intro k hk
                  simp only [List.mem_cons, List.mem_nil_iff, or_false] at hk
                  subst hk
                  refine wpOp_run rfl rfl (wp_bs0g Try.underlying30 info5 rfl ?_)
                  obtain ⟨q2, hq2⟩ : ∃ q, w13.heap.size = q := ⟨_, rfl⟩
                  have P14 := own_lower (own_empty w13) B13.size
                  have bb14 : Below w13.heap.size w13 (w13.alloc (.cells #[] 5)) := (Below.refl _ _).alloc (Nat.le_refl _) _
                  have D14 := D13.below bb14
                  have E14 := E13.below bb14
                  have X14 := (bb14.block X (Array.getElem?_eq_some_iff.1 X13).1).trans X13
                  have B14 := B13.trans (bb14.mono B13.size)
                  have A14 : Aq q A (w13.alloc (.cells #[] 5)) := (Lib.alloc_old w13 _ q (Array.getElem?_eq_some_iff.1 A13).1).trans A13
                  rw [hq2] at P14 ⊢
                  generalize w13.alloc (.cells #[] 5) = w14 at *
                  refine ⟨⟨Lib.cell_of_heap X14 0, (hAc A14).1, (hAc A14).2.1, (hAc A14).2.2⟩, ?_⟩
                  simp only [List.getElem_toArray, List.getElem_cons_succ, List.getElem_cons_zero, Act.put, List.setIfInBounds_toArray, List.set_cons_succ, List.set_cons_zero]
                  refine wpAnyH_all (rs := [21]) (by kernel_rfl) (by simp) ?_
                  intro k hk
                  simp only [List.mem_cons, List.mem_nil_iff, or_false] at hk
                  subst hk
                  refine wpOp_run rfl rfl (wp_append_bytes _ _ rfl w.heap.size (.slice (some ⟨q2, 0, none⟩) 0 0) [] rfl P14 _ A.bl rfl (HBy.out.1.below B14) (by have := HBy.out.2; simp; omega) B14.size ?_)
                  intro v2 w15 P15 G15 _
                  rw [List.nil_append] at P15
                  have hr15 := fun b hb => (own_of P14 (g := b) hb).2
                  have D15 := row_dct G15 hr15 (by decide) (by decide) (by decide) D14
                  have E15 := row_dct G15 hr15 (by decide) (by decide) (by decide) E14
                  have X15 := row_other G15 hr15 X14 (by decide)
                  have A15 : Aq q A w15 := row_other G15 hr15 A14 (by decide)
                  have B15 := B14.grown G15 B14.size (own_lt P14)
                  refine ⟨⟨Lib.cell_of_heap X15 0, (hAc A15).1, (hAc A15).2.1, (hAc A15).2.2⟩, ?_⟩
                  simp only [List.getElem_toArray, List.getElem_cons_succ, List.getElem_cons_zero, Act.put, List.setIfInBounds_toArray, List.set_cons_succ, List.set_cons_zero]
                  refine wpAnyH_all (rs := [22]) (by kernel_rfl) (by simp) ?_
                  intro k hk
                  simp only [List.mem_cons, List.mem_nil_iff, or_false] at hk
                  subst hk
                  refine wpOp_run rfl rfl (wp_call_fn 14 #[.pointer (some ⟨D2, 0, none⟩), .int .u16 A.ix, .int .u8 A.sb, v2] (by simp [execOp, go_sem, Act.eval, resolve, invoke, enterWo]) ?_)
                  refine (Write_any E15 A.ix A.sb A.hix A.hsb v2 A.bl (bytes_of_own P15)).mono ?_
                  rintro e wZ ⟨rfl, DZ, KZ⟩
                  rw [← HSe.out.tw.wc A.ix A.sb A.bl]
                  have OZ := Se.both O12 A.ix A.sb A.bl D13 K13 E15 D15 X15 B15 DZ KZ
                  have AZ : Aq q A wZ := kp_other E15 KZ A15 (by decide)
                  refine ⟨⟨OZ.cX, (hAc AZ).1, (hAc AZ).2.1, (hAc AZ).2.2⟩, ?_⟩
                  simp only [List.getElem_toArray, List.getElem_cons_succ, List.getElem_cons_zero, Act.put, List.setIfInBounds_toArray, List.set_cons_succ, List.set_cons_zero]
                  refine wpAnyH_take (i := 23) (v := (.bool false)) rfl (by kernel_rfl) (by kernel_rfl) (by kernel_rfl) (fun _ _ _ h => h) (.inl ⟨rfl, fun _ hS => by simp [execOp, go_sem, Act.eval]⟩) ⟨OZ.cX, (hAc AZ).1, (hAc AZ).2.1, (hAc AZ).2.2⟩ ?_
                  simp only [List.getElem_toArray, List.getElem_cons_succ, List.getElem_cons_zero, Act.put, List.setIfInBounds_toArray, List.set_cons_succ, List.set_cons_zero]
                  refine wpAnyH_done (by kernel_rfl) ?_ _
                  have HOZ := hidOf2 OZ
                  clear OZ AZ DZ KZ hAc HSe
                  generalize wrt its A.ix A.sb A.bl = jts at *
                  generalize wrt its2 A.ix A.sb A.bl = jts2 at *
                  go_wp2
                  go_roundw
                  case rel => exact ⟨k + 1, jts, jts2, by omega, by go_num, HOZ⟩
                  case measure => simp [intOf]; omega
                · refine wpOp_run rfl rfl (wp_bs0g Try.underlying30 info5 rfl ?_)
                  obtain ⟨q2, hq2⟩ : ∃ q, w12.heap.size = q := ⟨_, rfl⟩
                  have P13 := own_lower (own_empty w12) O12.below.size
                  have bb13 : Below w12.heap.size w12 (w12.alloc (.cells #[] 5)) := (Below.refl _ _).alloc (Nat.le_refl _) _
                  have O13 := O12.next bb13
                  have A13 : Aq q A (w12.alloc (.cells #[] 5)) := (Lib.alloc_old w12 _ q (Array.getElem?_eq_some_iff.1 A12).1).trans A12
                  have R13 := ownsRow_alloc P12 (.cells #[] 5)
                  rw [hq2] at P13 ⊢
                  generalize w12.alloc (.cells #[] 5) = w13 at *
                  refine ⟨⟨O13.cX, (hAc A13).1, (hAc A13).2.1, (hAc A13).2.2⟩, ?_⟩
                  simp only [List.getElem_toArray, List.getElem_cons_succ, List.getElem_cons_zero, Act.put, List.setIfInBounds_toArray, List.set_cons_succ, List.set_cons_zero]
                  refine wpAnyH_all (rs := [12]) (by kernel_rfl) (by simp) ?_
                  intro k hk
                  simp only [List.mem_cons, List.mem_nil_iff, or_false] at hk
                  subst hk
                  refine wpOp_run rfl rfl (wp_call_fn 14 #[.pointer (some ⟨D, 0, none⟩), .int .u16 A.ix, .int .u8 A.sb, v1] (by simp [execOp, go_sem, Act.eval, resolve, invoke, enterWo]) ?_)
                  refine (Write_any O13.d1 A.ix A.sb A.hix A.hsb v1 A.bl (bytes_of_own R13)).mono ?_
                  rintro e w14 ⟨rfl, D14, K14⟩
                  have E14 := kp_dct O13.d1 O13.d2 K14 (fun b h1 h2 => O13.dis b h2 h1)
                  have X14 := kp_other O13.d1 K14 O13.pair (by decide)
                  have A14 : Aq q A w14 := kp_other O13.d1 K14 A13 (by decide)
                  have B14 := K14.below O13.below O13.below.size O13.b1
                  have R14 := kp_own P13 O13.d1 K14 (by decide)
                  refine ⟨⟨Lib.cell_of_heap X14 0, (hAc A14).1, (hAc A14).2.1, (hAc A14).2.2⟩, ?_⟩
                  simp only [List.getElem_toArray, List.getElem_cons_succ, List.getElem_cons_zero, Act.put, List.setIfInBounds_toArray, List.set_cons_succ, List.set_cons_zero]
                  refine wpAnyH_all (rs := [21]) (by kernel_rfl) (by simp) ?_
                  intro k hk
                  simp only [List.mem_cons, List.mem_nil_iff, or_false] at hk
                  subst hk
                  refine wpOp_run rfl rfl (wp_append_bytes _ _ rfl w.heap.size (.slice (some ⟨q2, 0, none⟩) 0 0) [] rfl R14 _ A.bl rfl (HBy.out.1.below B14) (by have := HBy.out.2; simp; omega) B14.size ?_)
                  intro v2 w15 P15 G15 _
                  rw [List.nil_append] at P15
                  have hr15 := fun b hb => (own_of R14 (g := b) hb).2
                  have D15 := row_dct G15 hr15 (by decide) (by decide) (by decide) D14
                  have E15 := row_dct G15 hr15 (by decide) (by decide) (by decide) E14
                  have X15 := row_other G15 hr15 X14 (by decide)
                  have A15 : Aq q A w15 := row_other G15 hr15 A14 (by decide)
                  have B15 := B14.grown G15 B14.size (own_lt R14)
                  refine ⟨⟨Lib.cell_of_heap X15 0, (hAc A15).1, (hAc A15).2.1, (hAc A15).2.2⟩, ?_⟩
                  simp only [List.getElem_toArray, List.getElem_cons_succ, List.getElem_cons_zero, Act.put, List.setIfInBounds_toArray, List.set_cons_succ, List.set_cons_zero]
                  refine wpAnyH_all (rs := [22]) (by kernel_rfl) (by simp) ?_
                  intro k hk
                  simp only [List.mem_cons, List.mem_nil_iff, or_false] at hk
                  subst hk
                  refine wpOp_run rfl rfl (wp_call_fn 14 #[.pointer (some ⟨D2, 0, none⟩), .int .u16 A.ix, .int .u8 A.sb, v2] (by simp [execOp, go_sem, Act.eval, resolve, invoke, enterWo]) ?_)
                  refine (Write_any E15 A.ix A.sb A.hix A.hsb v2 A.bl (bytes_of_own P15)).mono ?_
                  rintro e wZ ⟨rfl, DZ, KZ⟩
                  rw [← HSe.out.tw.wc A.ix A.sb A.bl]
                  have OZ := Se.both O13 A.ix A.sb A.bl D14 K14 E15 D15 X15 B15 DZ KZ
                  have AZ : Aq q A wZ := kp_other E15 KZ A15 (by decide)
                  refine ⟨⟨OZ.cX, (hAc AZ).1, (hAc AZ).2.1, (hAc AZ).2.2⟩, ?_⟩
                  simp only [List.getElem_toArray, List.getElem_cons_succ, List.getElem_cons_zero, Act.put, List.setIfInBounds_toArray, List.set_cons_succ, List.set_cons_zero]
                  refine wpAnyH_take (i := 23) (v := (.bool false)) rfl (by kernel_rfl) (by kernel_rfl) (by kernel_rfl) (fun _ _ _ h => h) (.inl ⟨rfl, fun _ hS => by simp [execOp, go_sem, Act.eval]⟩) ⟨OZ.cX, (hAc AZ).1, (hAc AZ).2.1, (hAc AZ).2.2⟩ ?_
                  simp only [List.getElem_toArray, List.getElem_cons_succ, List.getElem_cons_zero, Act.put, List.setIfInBounds_toArray, List.set_cons_succ, List.set_cons_zero]
                  refine wpAnyH_done (by kernel_rfl) ?_ _
                  have HOZ := hidOf2 OZ
                  clear OZ AZ DZ KZ hAc HSe
                  generalize wrt its A.ix A.sb A.bl = jts at *
                  generalize wrt its2 A.ix A.sb A.bl = jts2 at *
                  go_wp2
                  go_roundw
                  case rel => exact ⟨k + 1, jts, jts2, by omega, by go_num, HOZ⟩
                  case measure => simp [intOf]; omega
              · refine wpOp_run rfl rfl (wp_bs0g Try.underlying30 info5 rfl ?_)
                obtain ⟨q2, hq2⟩ : ∃ q, w11.heap.size = q := ⟨_, rfl⟩
                have P12 := own_lower (own_empty w11) O11.below.size
                have bb12 : Below w11.heap.size w11 (w11.alloc (.cells #[] 5)) := (Below.refl _ _).alloc (Nat.le_refl _) _
                have O12 := O11.next bb12
                have A12 : Aq q A (w11.alloc (.cells #[] 5)) := (Lib.alloc_old w11 _ q (Array.getElem?_eq_some_iff.1 A11).1).trans A11
                have R12 := ownsRow_alloc P11 (.cells #[] 5)
                have hne : q1 ≠ q2 := by have := own_block_lt P11 q1 rfl; omega
                rw [hq2] at P12 ⊢
                generalize w11.alloc (.cells #[] 5) = w12 at *
                refine ⟨⟨O12.cX, (hAc A12).1, (hAc A12).2.1, (hAc A12).2.2⟩, ?_⟩
                simp only [List.getElem_toArray, List.getElem_cons_succ, List.getElem_cons_zero, Act.put, List.setIfInBounds_toArray, List.set_cons_succ, List.set_cons_zero]
                refine wpAnyH_all (rs := [11]) (by kernel_rfl) (by simp) ?_
                intro k hk
                simp only [List.mem_cons, List.mem_nil_iff, or_false] at hk
                subst hk
                refine wpOp_run rfl rfl (wp_append_bytes _ _ rfl w.heap.size (.slice (some ⟨q1, 0, none⟩) 0 0) [] rfl R12 _ A.bl rfl (HBy.out.1.below O12.below) (by have := HBy.out.2; simp; omega) O12.below.size ?_)
                intro v1 w13 P13 G13 _
                rw [List.nil_append] at P13
                have O13 := O12.row8 G13 (fun b hb => own_of R12 hb)
                have A13 : Aq q A w13 := row_other G13 (fun b hb => (own_of R12 hb).2) A12 (by decide)
                have R13 := own_keep P12 G13 (fun e => by simp only [Value.ownBlock, Option.some.injEq] at e; omega)
                refine ⟨⟨O13.cX, (hAc A13).1, (hAc A13).2.1, (hAc A13).2.2⟩, ?_⟩
                simp only [List.getElem_toArray, List.getElem_cons_succ, List.getElem_cons_zero, Act.put, List.setIfInBounds_toArray, List.set_cons_succ, List.set_cons_zero]
                refine wpAnyH_all (rs := [12]) (by kernel_rfl) (by simp) ?_
                intro k hk
                simp only [List.mem_cons, List.mem_nil_iff, or_false] at hk
                subst hk
                refine wpOp_run rfl rfl (wp_call_fn 14 #[.pointer (some ⟨D, 0, none⟩), .int .u16 A.ix, .int .u8 A.sb, v1] (by simp [execOp, go_sem, Act.eval, resolve, invoke, enterWo]) ?_)
                refine (Write_any O13.d1 A.ix A.sb A.hix A.hsb v1 A.bl (bytes_of_own P13)).mono ?_
                rintro e w14 ⟨rfl, D14, K14⟩
                have E14 := kp_dct O13.d1 O13.d2 K14 (fun b h1 h2 => O13.dis b h2 h1)
                have X14 := kp_other O13.d1 K14 O13.pair (by decide)
                have A14 : Aq q A w14 := kp_other O13.d1 K14 A13 (by decide)
                have B14 := K14.below O13.below O13.below.size O13.b1
                have R14 := kp_own R13 O13.d1 K14 (by decide)
                refine ⟨⟨Lib.cell_of_heap X14 0, (hAc A14).1, (hAc A14).2.1, (hAc A14).2.2⟩, ?_⟩
                simp only [List.getElem_toArray, List.getElem_cons_succ, List.getElem_cons_zero, Act.put, List.setIfInBounds_toArray, List.set_cons_succ, List.set_cons_zero]
                refine wpAnyH_all (rs := [21]) (by kernel_rfl) (by simp) ?_
                intro k hk
                simp only [List.mem_cons, List.mem_nil_iff, or_false] at hk
                subst hk
                refine wpOp_run rfl rfl (wp_append_bytes _ _ rfl w.heap.size (.slice (some ⟨q2, 0, none⟩) 0 0) [] rfl R14 _ A.bl rfl (HBy.out.1.below B14) (by have := HBy.out.2; simp; omega) B14.size ?_)
                intro v2 w15 P15 G15 _
                rw [List.nil_append] at P15
                have hr15 := fun b hb => (own_of R14 (g := b) hb).2
                have D15 := row_dct G15 hr15 (by decide) (by decide) (by decide) D14
                have E15 := row_dct G15 hr15 (by decide) (by decide) (by decide) E14
                have X15 := row_other G15 hr15 X14 (by decide)
                have A15 : Aq q A w15 := row_other G15 hr15 A14 (by decide)
                have B15 := B14.grown G15 B14.size (own_lt R14)
                refine ⟨⟨Lib.cell_of_heap X15 0, (hAc A15).1, (hAc A15).2.1, (hAc A15).2.2⟩, ?_⟩
                simp only [List.getElem_toArray, List.getElem_cons_succ, List.getElem_cons_zero, Act.put, List.setIfInBounds_toArray, List.set_cons_succ, List.set_cons_zero]
                refine wpAnyH_all (rs := [22]) (by kernel_rfl) (by simp) ?_
                intro k hk
                simp only [List.mem_cons, List.mem_nil_iff, or_false] at hk
                subst hk
                refine wpOp_run rfl rfl (wp_call_fn 14 #[.pointer (some ⟨D2, 0, none⟩), .int .u16 A.ix, .int .u8 A.sb, v2] (by simp [execOp, go_sem, Act.eval, resolve, invoke, enterWo]) ?_)
                refine (Write_any E15 A.ix A.sb A.hix A.hsb v2 A.bl (bytes_of_own P15)).mono ?_
                rintro e wZ ⟨rfl, DZ, KZ⟩
                rw [← HSe.out.tw.wc A.ix A.sb A.bl]
                have OZ := Se.both O13 A.ix A.sb A.bl D14 K14 E15 D15 X15 B15 DZ KZ
                have AZ : Aq q A wZ := kp_other E15 KZ A15 (by decide)
                refine ⟨⟨OZ.cX, (hAc AZ).1, (hAc AZ).2.1, (hAc AZ).2.2⟩, ?_⟩
                simp only [List.getElem_toArray, List.getElem_cons_succ, List.getElem_cons_zero, Act.put, List.setIfInBounds_toArray, List.set_cons_succ, List.set_cons_zero]
                refine wpAnyH_take (i := 23) (v := (.bool false)) rfl (by kernel_rfl) (by kernel_rfl) (by kernel_rfl) (fun _ _ _ h => h) (.inl ⟨rfl, fun _ hS => by simp [execOp, go_sem, Act.eval]⟩) ⟨OZ.cX, (hAc AZ).1, (hAc AZ).2.1, (hAc AZ).2.2⟩ ?_
                simp only [List.getElem_toArray, List.getElem_cons_succ, List.getElem_cons_zero, Act.put, List.setIfInBounds_toArray, List.set_cons_succ, List.set_cons_zero]
                refine wpAnyH_done (by kernel_rfl) ?_ _
                have HOZ := hidOf2 OZ
                clear OZ AZ DZ KZ hAc HSe
                generalize wrt its A.ix A.sb A.bl = jts at *
                generalize wrt its2 A.ix A.sb A.bl = jts2 at *
                go_wp2
                go_roundw
                case rel => exact ⟨k + 1, jts, jts2, by omega, by go_num, HOZ⟩
                case measure => simp [intOf]; omega
            · refine wpOp_run rfl rfl (wp_bs0g Try.underlying30 info5 rfl ?_)
              obtain ⟨q2, hq2⟩ : ∃ q, w3.drew.heap.size = q := ⟨_, rfl⟩
              have P11 := own_lower (own_empty w3.drew) O0.below.size
              have bb11 : Below w3.drew.heap.size w3.drew (w3.drew.alloc (.cells #[] 5)) := (Below.refl _ _).alloc (Nat.le_refl _) _
              have O11 := O0.next bb11
              have A11 : Aq q A (w3.drew.alloc (.cells #[] 5)) := (Lib.alloc_old w3.drew _ q (Array.getElem?_eq_some_iff.1 A0).1).trans A0
              rw [hq2] at P11 ⊢
              generalize w3.drew.alloc (.cells #[] 5) = w11 at *
              refine ⟨⟨O11.cX, (hAc A11).1, (hAc A11).2.1, (hAc A11).2.2⟩, ?_⟩
              simp only [List.getElem_toArray, List.getElem_cons_succ, List.getElem_cons_zero, Act.put, List.setIfInBounds_toArray, List.set_cons_succ, List.set_cons_zero]
              refine wpAnyH_all (rs := [8]) (by kernel_rfl) (by simp) ?_
              intro k hk
              simp only [List.mem_cons, List.mem_nil_iff, or_false] at hk
              subst hk
              refine wpOp_run rfl rfl (wp_bs0g Try.underlying30 info5 rfl ?_)
              obtain ⟨q1, hq1⟩ : ∃ q, w11.heap.size = q := ⟨_, rfl⟩
              have P12 := own_lower (own_empty w11) O11.below.size
              have bb12 : Below w11.heap.size w11 (w11.alloc (.cells #[] 5)) := (Below.refl _ _).alloc (Nat.le_refl _) _
              have O12 := O11.next bb12
              have A12 : Aq q A (w11.alloc (.cells #[] 5)) := (Lib.alloc_old w11 _ q (Array.getElem?_eq_some_iff.1 A11).1).trans A11
              have R12 := ownsRow_alloc P11 (.cells #[] 5)
              have hne : q2 ≠ q1 := by have := own_block_lt P11 q2 rfl; omega
              rw [hq1] at P12 ⊢
              generalize w11.alloc (.cells #[] 5) = w12 at *
              refine ⟨⟨O12.cX, (hAc A12).1, (hAc A12).2.1, (hAc A12).2.2⟩, ?_⟩
              simp only [List.getElem_toArray, List.getElem_cons_succ, List.getElem_cons_zero, Act.put, List.setIfInBounds_toArray, List.set_cons_succ, List.set_cons_zero]
              refine wpAnyH_all (rs := [11]) (by kernel_rfl) (by simp) ?_
              intro k hk
              simp only [List.mem_cons, List.mem_nil_iff, or_false] at hk
              subst hk
              refine wpOp_run rfl rfl (wp_append_bytes _ _ rfl w.heap.size (.slice (some ⟨q1, 0, none⟩) 0 0) [] rfl P12 _ A.bl rfl (HBy.out.1.below O12.below) (by have := HBy.out.2; simp; omega) O12.below.size ?_)
              intro v1 w13 P13 G13 _
              rw [List.nil_append] at P13
              have O13 := O12.row8 G13 (fun b hb => own_of P12 hb)
              have A13 : Aq q A w13 := row_other G13 (fun b hb => (own_of P12 hb).2) A12 (by decide)
              have R13 := own_keep R12 G13 (fun e => by simp only [Value.ownBlock, Option.some.injEq] at e; omega)
              refine ⟨⟨O13.cX, (hAc A13).1, (hAc A13).2.1, (hAc A13).2.2⟩, ?_⟩
              simp only [List.getElem_toArray, List.getElem_cons_succ, List.getElem_cons_zero, Act.put, List.setIfInBounds_toArray, List.set_cons_succ, List.set_cons_zero]
              refine wpAnyH_all (rs := [12]) (by kernel_rfl) (by simp) ?_
              intro k hk
              simp only [List.mem_cons, List.mem_nil_iff, or_false] at hk
              subst hk
              refine wpOp_run rfl rfl (wp_call_fn 14 #[.pointer (some ⟨D, 0, none⟩), .int .u16 A.ix, .int .u8 A.sb, v1] (by simp [execOp, go_sem, Act.eval, resolve, invoke, enterWo]) ?_)
              refine (Write_any O13.d1 A.ix A.sb A.hix A.hsb v1 A.bl (bytes_of_own P13)).mono ?_
              rintro e w14 ⟨rfl, D14, K14⟩
              have E14 := kp_dct O13.d1 O13.d2 K14 (fun b h1 h2 => O13.dis b h2 h1)
              have X14 := kp_other O13.d1 K14 O13.pair (by decide)
              have A14 : Aq q A w14 := kp_other O13.d1 K14 A13 (by decide)
              have B14 := K14.below O13.below O13.below.size O13.b1
              have R14 := kp_own R13 O13.d1 K14 (by decide)
              refine ⟨⟨Lib.cell_of_heap X14 0, (hAc A14).1, (hAc A14).2.1, (hAc A14).2.2⟩, ?_⟩
              simp only [List.getElem_toArray, List.getElem_cons_succ, List.getElem_cons_zero, Act.put, List.setIfInBounds_toArray, List.set_cons_succ, List.set_cons_zero]
              refine wpAnyH_all (rs := [21]) (by kernel_rfl) (by simp) ?_
              intro k hk
              simp only [List.mem_cons, List.mem_nil_iff, or_false] at hk
              subst hk
              refine wpOp_run rfl rfl (wp_append_bytes _ _ rfl w.heap.size (.slice (some ⟨q2, 0, none⟩) 0 0) [] rfl R14 _ A.bl rfl (HBy.out.1.below B14) (by have := HBy.out.2; simp; omega) B14.size ?_)
              intro v2 w15 P15 G15 _
              rw [List.nil_append] at P15
              have hr15 := fun b hb => (own_of R14 (g := b) hb).2
              have D15 := row_dct G15 hr15 (by decide) (by decide) (by decide) D14
              have E15 := row_dct G15 hr15 (by decide) (by decide) (by decide) E14
              have X15 := row_other G15 hr15 X14 (by decide)
              have A15 : Aq q A w15 := row_other G15 hr15 A14 (by decide)
              have B15 := B14.grown G15 B14.size (own_lt R14)
              refine ⟨⟨Lib.cell_of_heap X15 0, (hAc A15).1, (hAc A15).2.1, (hAc A15).2.2⟩, ?_⟩
              simp only [List.getElem_toArray, List.getElem_cons_succ, List.getElem_cons_zero, Act.put, List.setIfInBounds_toArray, List.set_cons_succ, List.set_cons_zero]
              refine wpAnyH_all (rs := [22]) (by kernel_rfl) (by simp) ?_
              intro k hk
              simp only [List.mem_cons, List.mem_nil_iff, or_false] at hk
              subst hk
              refine wpOp_run rfl rfl (wp_call_fn 14 #[.pointer (some ⟨D2, 0, none⟩), .int .u16 A.ix, .int .u8 A.sb, v2] (by simp [execOp, go_sem, Act.eval, resolve, invoke, enterWo]) ?_)
              refine (Write_any E15 A.ix A.sb A.hix A.hsb v2 A.bl (bytes_of_own P15)).mono ?_
              rintro e wZ ⟨rfl, DZ, KZ⟩
              rw [← HSe.out.tw.wc A.ix A.sb A.bl]
              have OZ := Se.both O13 A.ix A.sb A.bl D14 K14 E15 D15 X15 B15 DZ KZ
              have AZ : Aq q A wZ := kp_other E15 KZ A15 (by decide)
              refine ⟨⟨OZ.cX, (hAc AZ).1, (hAc AZ).2.1, (hAc AZ).2.2⟩, ?_⟩
              simp only [List.getElem_toArray, List.getElem_cons_succ, List.getElem_cons_zero, Act.put, List.setIfInBounds_toArray, List.set_cons_succ, List.set_cons_zero]
              refine wpAnyH_take (i := 23) (v := (.bool false)) rfl (by kernel_rfl) (by kernel_rfl) (by kernel_rfl) (fun _ _ _ h => h) (.inl ⟨rfl, fun _ hS => by simp [execOp, go_sem, Act.eval]⟩) ⟨OZ.cX, (hAc AZ).1, (hAc AZ).2.1, (hAc AZ).2.2⟩ ?_
              simp only [List.getElem_toArray, List.getElem_cons_succ, List.getElem_cons_zero, Act.put, List.setIfInBounds_toArray, List.set_cons_succ, List.set_cons_zero]
              refine wpAnyH_done (by kernel_rfl) ?_ _
              have HOZ := hidOf2 OZ
              clear OZ AZ DZ KZ hAc HSe
              generalize wrt its A.ix A.sb A.bl = jts at *
              generalize wrt its2 A.ix A.sb A.bl = jts2 at *
              go_wp2
              go_roundw
              case rel => exact ⟨k + 1, jts, jts2, by omega, by go_num, HOZ⟩
              case measure => simp [intOf]; omega
          · clear HCA HBA
            have cX := HSe.out.cX
            have hL1 := List_any HSe.out.d1
            go_wp2_with fail
            refine hL1.mono ?_
            rintro e w5 ⟨v13, rfl, W13, b5⟩
            have HSe5 := hidOf2 (HSe.out.next b5)
            have hL2 := List_any HSe5.out.d2
            have HW13a := hidOf2 W13
            clear hL1 HSe cX b5 W13
            go_wp2_with fail
            refine hL2.mono ?_
            rintro e w6 ⟨v14, rfl, W14, b6⟩
            have HSe6 := hidOf2 (HSe5.out.next b6)
            rw [← HSe6.out.tw.e] at W14
            obtain ⟨ao13, cp13, rfl⟩ := HW13a.out.shape
            obtain ⟨ao14, cp14, rfl⟩ := W14.shape
            have HW13 := hidOf2 (HW13a.out.same b6.size (fun b _ hl => b6.block b hl))
            have HW14 := hidOf2 W14
            clear hL2 HSe5 HW13a b6 W14
            obtain ⟨es, hes⟩ : ∃ es, its.map Im.e = es := ⟨_, rfl⟩
            rw [hes] at HW13 HW14
            have hel : es.length ≤ 1024 := by rw [← hes, List.length_map]; exact HSe6.out.d1.len
            simp only [hes]
            clear hes
            have h0 : Below w6.heap.size w6 w6.drew := bdr (Below.refl _ _) 1
            have O0 := HSe6.out.next h0
            have S0 := O0.cX
            go_upto_region 19 with fail
            refine wp_region_held (S := fun x => x.cell? ⟨X, 0, none⟩ = some (.pointer (some ⟨D, 0, none⟩))) (by kernel_rfl) ?_
            change wpAnyH _ _ _ _ _ _ _ _ w6.drew
            refine wpAnyH_take (i := 0) (v := (.slice ao13 es.length cp13)) rfl (by kernel_rfl) (by kernel_rfl) (by kernel_rfl) (fun _ _ _ h => h) (.inl ⟨rfl, fun _ hS => rfl⟩) S0 ?_
            simp only [List.getElem_toArray, List.getElem_cons_succ, List.getElem_cons_zero, Act.put, List.setIfInBounds_toArray, List.set_cons_succ, List.set_cons_zero]
            refine wpAnyH_take (i := 1) (v := (.int .i64 (es.length : Int))) rfl (by kernel_rfl) (by kernel_rfl) (by kernel_rfl) (fun _ _ _ h => h) (.inl ⟨rfl, fun _ hS => by simp [execOp, go_sem, Act.eval, resolve, invoke]⟩) S0 ?_
            simp only [List.getElem_toArray, List.getElem_cons_succ, List.getElem_cons_zero, Act.put, List.setIfInBounds_toArray, List.set_cons_succ, List.set_cons_zero]
            refine wpAnyH_take (i := 2) (v := (.slice ao14 es.length cp14)) rfl (by kernel_rfl) (by kernel_rfl) (by kernel_rfl) (fun _ _ _ h => h) (.inl ⟨rfl, fun _ hS => rfl⟩) S0 ?_
            simp only [List.getElem_toArray, List.getElem_cons_succ, List.getElem_cons_zero, Act.put, List.setIfInBounds_toArray, List.set_cons_succ, List.set_cons_zero]
            refine wpAnyH_take (i := 3) (v := (.int .i64 (es.length : Int))) rfl (by kernel_rfl) (by kernel_rfl) (by kernel_rfl) (fun _ _ _ h => h) (.inl ⟨rfl, fun _ hS => by simp [execOp, go_sem, Act.eval, resolve, invoke]⟩) S0 ?_
            simp only [List.getElem_toArray, List.getElem_cons_succ, List.getElem_cons_zero, Act.put, List.setIfInBounds_toArray, List.set_cons_succ, List.set_cons_zero]
            refine wpAnyH_take (i := 4) (v := (.bool false)) rfl (by kernel_rfl) (by kernel_rfl) (by kernel_rfl) (fun _ _ _ h => h) (.inl ⟨rfl, fun _ hS => by simp [execOp, go_sem, Act.eval]⟩) S0 ?_
            simp only [List.getElem_toArray, List.getElem_cons_succ, List.getElem_cons_zero, Act.put, List.setIfInBounds_toArray, List.set_cons_succ, List.set_cons_zero]
            refine wpAnyH_take (i := 5) (v := (.bool false)) rfl (by kernel_rfl) (by kernel_rfl) (by kernel_rfl) (fun _ _ _ h => h) (.inl ⟨rfl, fun _ hS => rfl⟩) S0 ?_
            simp only [List.getElem_toArray, List.getElem_cons_succ, List.getElem_cons_zero, Act.put, List.setIfInBounds_toArray, List.set_cons_succ, List.set_cons_zero]
            refine wpAnyH_take (i := 6) (v := (.pointer (some ⟨X, 0, none⟩))) rfl (by kernel_rfl) (by kernel_rfl) (by kernel_rfl) (fun _ _ _ h => h) (.inl ⟨rfl, fun _ hS => rfl⟩) S0 ?_
            simp only [List.getElem_toArray, List.getElem_cons_succ, List.getElem_cons_zero, Act.put, List.setIfInBounds_toArray, List.set_cons_succ, List.set_cons_zero]
            refine wpAnyH_take (i := 7) (v := (.pointer (some ⟨X, 0, none⟩))) rfl (by kernel_rfl) (by kernel_rfl) (by kernel_rfl) (fun _ _ _ h => h) (.inl ⟨rfl, fun _ hS => by simp [execOp, go_sem, Act.eval]⟩) S0 ?_
            simp only [List.getElem_toArray, List.getElem_cons_succ, List.getElem_cons_zero, Act.put, List.setIfInBounds_toArray, List.set_cons_succ, List.set_cons_zero]
            refine wpAnyH_take (i := 8) (v := (.pointer (some ⟨X, 0, none⟩))) rfl (by kernel_rfl) (by kernel_rfl) (by kernel_rfl) (fun _ _ _ h => h) (.inl ⟨rfl, fun _ hS => by simp [execOp, go_sem, Act.eval]⟩) S0 ?_
            simp only [List.getElem_toArray, List.getElem_cons_succ, List.getElem_cons_zero, Act.put, List.setIfInBounds_toArray, List.set_cons_succ, List.set_cons_zero]
            refine wpAnyH_take (i := 9) (v := (.pointer (some ⟨D, 0, none⟩))) rfl (by kernel_rfl) (by kernel_rfl) (by kernel_rfl) (fun _ _ _ h => h) (.inl ⟨rfl, fun _ hS => exec_load rfl rfl (load_pd _ _ _ _ hS)⟩) S0 ?_
            simp only [List.getElem_toArray, List.getElem_cons_succ, List.getElem_cons_zero, Act.put, List.setIfInBounds_toArray, List.set_cons_succ, List.set_cons_zero]
            refine wpAnyH_take (i := 12) (v := (.pointer (some ⟨D2, 0, none⟩))) rfl (by kernel_rfl) (by kernel_rfl) (by kernel_rfl) (fun _ _ _ h => h) (.inl ⟨rfl, fun _ hS => rfl⟩) S0 ?_
            simp only [List.getElem_toArray, List.getElem_cons_succ, List.getElem_cons_zero, Act.put, List.setIfInBounds_toArray, List.set_cons_succ, List.set_cons_zero]
            refine wpAnyH_all (rs := [10]) (by kernel_rfl) (by simp) ?_
            intro k hk
            simp only [List.mem_cons, List.mem_nil_iff, or_false] at hk
            subst hk
            refine wpOp_runw rfl rfl (wp_call_fn 19 #[.pointer (some ⟨D, 0, none⟩)] (by simp [execOp, go_sem, Act.eval, resolve, invoke, enterSv]) ?_)
            refine (Save_any O0.d1).mono ?_
            rintro e wA ⟨x1, rfl, P1, b1⟩
            have O1 := O0.next b1
            have hT1 := bytes_of_own P1
            have h1 := h0.trans (b1.mono h0.size)
            refine ⟨O1.cX, ?_⟩
            simp only [List.getElem_toArray, List.getElem_cons_succ, List.getElem_cons_zero, Act.put, List.setIfInBounds_toArray, List.set_cons_succ, List.set_cons_zero]
            refine wpAnyH_all (rs := [11, 13]) (by kernel_rfl) (by simp) ?_
            intro k hk
            simp only [List.mem_cons, List.mem_nil_iff, or_false] at hk
            rcases hk with rfl | rfl
            · refine wpOp_runw rfl rfl (wp_conv _ rfl _ (.string ⟨(sav its).toArray⟩) rfl hT1.text ?_)
              refine ⟨O1.cX, ?_⟩
              simp only [List.getElem_toArray, List.getElem_cons_succ, List.getElem_cons_zero, Act.put, List.setIfInBounds_toArray, List.set_cons_succ, List.set_cons_zero]
              refine wpAnyH_all (rs := [13]) (by kernel_rfl) (by simp) ?_
              intro k hk
              simp only [List.mem_cons, List.mem_nil_iff, or_false] at hk
              subst hk
              refine wpOp_runw rfl rfl (wp_call_fn 19 #[.pointer (some ⟨D2, 0, none⟩)] (by simp [execOp, go_sem, Act.eval, resolve, invoke, enterSv]) ?_)
              refine (Save_any O1.d2).mono ?_
              rintro e wB ⟨x2, rfl, P2, b2⟩
              have O2 := O1.next b2
              rw [← HSe6.out.tw.sav] at P2
              have hT2 := bytes_of_own P2
              have hT1b := hT1.below b2
              have h2 := h1.trans (b2.mono h1.size)
              refine ⟨O2.cX, ?_⟩
              simp only [List.getElem_toArray, List.getElem_cons_succ, List.getElem_cons_zero, Act.put, List.setIfInBounds_toArray, List.set_cons_succ, List.set_cons_zero]
              refine wpAnyH_all (rs := [14]) (by kernel_rfl) (by simp) ?_
              intro k hk
              simp only [List.mem_cons, List.mem_nil_iff, or_false] at hk
              subst hk
              refine wpOp_runw rfl rfl (wp_conv _ rfl _ (.string ⟨(sav its).toArray⟩) rfl hT2.text ?_)
              refine ⟨O2.cX, ?_⟩
              simp only [List.getElem_toArray, List.getElem_cons_succ, List.getElem_cons_zero, Act.put, List.setIfInBounds_toArray, List.set_cons_succ, List.set_cons_zero]
              refine wpAnyH_take (i := 15) (v := (.bool false)) rfl (by kernel_rfl) (by kernel_rfl) (by kernel_rfl) (fun _ _ _ h => h) (.inl ⟨rfl, fun _ hS => by simp [execOp, go_sem, Act.eval]⟩) O2.cX ?_
              simp only [List.getElem_toArray, List.getElem_cons_succ, List.getElem_cons_zero, Act.put, List.setIfInBounds_toArray, List.set_cons_succ, List.set_cons_zero]
              refine wpAnyH_take (i := 16) (v := (.bool false)) rfl (by kernel_rfl) (by kernel_rfl) (by kernel_rfl) (fun _ _ _ h => h) (.inl ⟨rfl, fun _ hS => by simp [execOp, go_sem, Act.eval]⟩) O2.cX ?_
              simp only [List.getElem_toArray, List.getElem_cons_succ, List.getElem_cons_zero, Act.put, List.setIfInBounds_toArray, List.set_cons_succ, List.set_cons_zero]
              refine wpAnyH_done (by kernel_rfl) ?_ _
              have HE13 := hidOf2 (HW13.out.same h2.size (fun b _ hl => h2.block b hl))
              have HE14 := hidOf2 (HW14.out.same h2.size (fun b _ hl => h2.block b hl))
              have HEB := hidOf2 O2.below
              clear O0 O1 O2 h0 h1 h2 b1 b2 P1 P2 hT1 hT2 hT1b HW13 HW14 HSe6
              go_wp2
              go_loopw [15] (fun s15 x => ∃ k : Nat, k ≤ es.length ∧ s15 = .int .i64 k ∧ Hid (Wide 14 enC x (.slice ao13 es.length cp13) es) ∧ Hid (Wide 14 enC x (.slice ao14 es.length cp14) es) ∧ Hid (Below w.heap.size w x)) (fun s15 _ => es.length - (intOf s15).toNat)
              case atStart => exact ⟨0, Nat.zero_le _, rfl, HE13, HE14, HEB⟩
              case round =>
                clear HE13 HE14 HEB
                obtain ⟨k, hk, rfl, HE13, HE14, HEB⟩ := hrel
                by_cases hkl : k < es.length
                · obtain ⟨b3, o3, c3, hv3, hb3, hR3⟩ := HE13.out.at0 k hkl
                  obtain ⟨b4, o4, c4, hv4, hb4, hR4⟩ := HE14.out.at0 k hkl
                  injection hv3 with hv3a _ hv3c
                  subst hv3a
                  subst hv3c
                  injection hv4 with hv4a _ hv4c
                  subst hv4a
                  subst hv4c
                  generalize es[k] = E8 at *
                  have hLq := Later.some wr
                  go_upto_region 24 with fail
                  refine wp_region_later (by kernel_rfl) (by kernel_rfl) ?_
                  repeat (go_big_quiet_step (fail))
                  first | (refine quiet_pure (.pointer (some ⟨b3, o3 + k * 14, none⟩)) rfl (fun w => exec_idxE rfl rfl rfl hkl w) ?_; simp only [Act.put, List.setIfInBounds_toArray, List.set_cons_succ, List.set_cons_zero]) | skip
                  refine quiet_ldE hR3 hb3 rfl _ rfl rfl ?_
                  simp only [Act.put, List.setIfInBounds_toArray, List.set_cons_succ, List.set_cons_zero]
                  repeat (go_big_quiet_step (fail))
                  first | (refine quiet_pure (.pointer (some ⟨b4, o4 + k * 14, none⟩)) rfl (fun w => exec_idxE rfl rfl rfl hkl w) ?_; simp only [Act.put, List.setIfInBounds_toArray, List.set_cons_succ, List.set_cons_zero]) | skip
                  refine quiet_ldE hR4 hb4 rfl _ rfl rfl ?_
                  simp only [Act.put, List.setIfInBounds_toArray, List.set_cons_succ, List.set_cons_zero]
                  refine quiet_neqE E8 rfl _ _ rfl rfl rfl ?_
                  simp only [Act.put, List.setIfInBounds_toArray, List.set_cons_succ, List.set_cons_zero]
                  refine wpQuiet_nil ?_
                  rintro _ ⟨x1, rfl⟩
                  have F13 := hidOf2 (HE13.out.same x1.below.size (fun b _ hl => x1.below.block b hl))
                  have F14 := hidOf2 (HE14.out.same x1.below.size (fun b _ hl => x1.below.block b hl))
                  have FB := hidOf2 (HEB.out.trans (x1.below.mono HEB.out.size))
                  clear hLq hR3 hR4 HE13 HE14 HEB hb3 hb4
                  generalize x1.now = w9 at *
                  clear x1
                  go_wp2
                  go_roundw
                  case rel => exact ⟨k + 1, by omega, by go_num, F13, F14, FB⟩
                  case measure => simp [intOf]; omega
                · have hS := hL8 wr
                  go_wp2_with fail
                  refine hS.mono ?_
                  rintro e w3 ⟨rfl, b3⟩
                  have B3 := HEB.out.trans (b3.mono HEB.out.size)
                  clear hS
                  go_wp2
                  go_ret
                  exact ⟨rfl, B3⟩
            · refine wpOp_runw rfl rfl (wp_call_fn 19 #[.pointer (some ⟨D2, 0, none⟩)] (by simp [execOp, go_sem, Act.eval, resolve, invoke, enterSv]) ?_)
              refine (Save_any O1.d2).mono ?_
              rintro e wB ⟨x2, rfl, P2, b2⟩
              have O2 := O1.next b2
              rw [← HSe6.out.tw.sav] at P2
              have hT2 := bytes_of_own P2
              have hT1b := hT1.below b2
              have h2 := h1.trans (b2.mono h1.size)
              refine ⟨O2.cX, ?_⟩
              simp only [List.getElem_toArray, List.getElem_cons_succ, List.getElem_cons_zero, Act.put, List.setIfInBounds_toArray, List.set_cons_succ, List.set_cons_zero]
              refine wpAnyH_all (rs := [11, 14]) (by kernel_rfl) (by simp) ?_
              intro k hk
              simp only [List.mem_cons, List.mem_nil_iff, or_false] at hk
              rcases hk with rfl | rfl
              · refine wpOp_runw rfl rfl (wp_conv _ rfl _ (.string ⟨(sav its).toArray⟩) rfl hT1b.text ?_)
                refine ⟨O2.cX, ?_⟩
                simp only [List.getElem_toArray, List.getElem_cons_succ, List.getElem_cons_zero, Act.put, List.setIfInBounds_toArray, List.set_cons_succ, List.set_cons_zero]
                refine wpAnyH_all (rs := [14]) (by kernel_rfl) (by simp) ?_
                intro k hk
                simp only [List.mem_cons, List.mem_nil_iff, or_false] at hk
                subst hk
                refine wpOp_runw rfl rfl (wp_conv _ rfl _ (.string ⟨(sav its).toArray⟩) rfl hT2.text ?_)
                refine ⟨O2.cX, ?_⟩
                simp only [List.getElem_toArray, List.getElem_cons_succ, List.getElem_cons_zero, Act.put, List.setIfInBounds_toArray, List.set_cons_succ, List.set_cons_zero]
                refine wpAnyH_take (i := 15) (v := (.bool false)) rfl (by kernel_rfl) (by kernel_rfl) (by kernel_rfl) (fun _ _ _ h => h) (.inl ⟨rfl, fun _ hS => by simp [execOp, go_sem, Act.eval]⟩) O2.cX ?_
                simp only [List.getElem_toArray, List.getElem_cons_succ, List.getElem_cons_zero, Act.put, List.setIfInBounds_toArray, List.set_cons_succ, List.set_cons_zero]
                refine wpAnyH_take (i := 16) (v := (.bool false)) rfl (by kernel_rfl) (by kernel_rfl) (by kernel_rfl) (fun _ _ _ h => h) (.inl ⟨rfl, fun _ hS => by simp [execOp, go_sem, Act.eval]⟩) O2.cX ?_
                simp only [List.getElem_toArray, List.getElem_cons_succ, List.getElem_cons_zero, Act.put, List.setIfInBounds_toArray, List.set_cons_succ, List.set_cons_zero]
                refine wpAnyH_done (by kernel_rfl) ?_ _
                have HE13 := hidOf2 (HW13.out.same h2.size (fun b _ hl => h2.block b hl))
                have HE14 := hidOf2 (HW14.out.same h2.size (fun b _ hl => h2.block b hl))
                have HEB := hidOf2 O2.below
                clear O0 O1 O2 h0 h1 h2 b1 b2 P1 P2 hT1 hT2 hT1b HW13 HW14 HSe6
                go_wp2
                go_loopw [15] (fun s15 x => ∃ k : Nat, k ≤ es.length ∧ s15 = .int .i64 k ∧ Hid (Wide 14 enC x (.slice ao13 es.length cp13) es) ∧ Hid (Wide 14 enC x (.slice ao14 es.length cp14) es) ∧ Hid (Below w.heap.size w x)) (fun s15 _ => es.length - (intOf s15).toNat)
                case atStart => exact ⟨0, Nat.zero_le _, rfl, HE13, HE14, HEB⟩
                case round =>
                  clear HE13 HE14 HEB
                  obtain ⟨k, hk, rfl, HE13, HE14, HEB⟩ := hrel
                  by_cases hkl : k < es.length
                  · obtain ⟨b3, o3, c3, hv3, hb3, hR3⟩ := HE13.out.at0 k hkl
                    obtain ⟨b4, o4, c4, hv4, hb4, hR4⟩ := HE14.out.at0 k hkl
                    injection hv3 with hv3a _ hv3c
                    subst hv3a
                    subst hv3c
                    injection hv4 with hv4a _ hv4c
                    subst hv4a
                    subst hv4c
                    generalize es[k] = E8 at *
                    have hLq := Later.some wr
                    go_upto_region 24 with fail
                    refine wp_region_later (by kernel_rfl) (by kernel_rfl) ?_
                    repeat (go_big_quiet_step (fail))
                    first | (refine quiet_pure (.pointer (some ⟨b3, o3 + k * 14, none⟩)) rfl (fun w => exec_idxE rfl rfl rfl hkl w) ?_; simp only [Act.put, List.setIfInBounds_toArray, List.set_cons_succ, List.set_cons_zero]) | skip
                    refine quiet_ldE hR3 hb3 rfl _ rfl rfl ?_
                    simp only [Act.put, List.setIfInBounds_toArray, List.set_cons_succ, List.set_cons_zero]
                    repeat (go_big_quiet_step (fail))
                    first | (refine quiet_pure (.pointer (some ⟨b4, o4 + k * 14, none⟩)) rfl (fun w => exec_idxE rfl rfl rfl hkl w) ?_; simp only [Act.put, List.setIfInBounds_toArray, List.set_cons_succ, List.set_cons_zero]) | skip
                    refine quiet_ldE hR4 hb4 rfl _ rfl rfl ?_
                    simp only [Act.put, List.setIfInBounds_toArray, List.set_cons_succ, List.set_cons_zero]
                    refine quiet_neqE E8 rfl _ _ rfl rfl rfl ?_
                    simp only [Act.put, List.setIfInBounds_toArray, List.set_cons_succ, List.set_cons_zero]
                    refine wpQuiet_nil ?_
                    rintro _ ⟨x1, rfl⟩
                    have F13 := hidOf2 (HE13.out.same x1.below.size (fun b _ hl => x1.below.block b hl))
                    have F14 := hidOf2 (HE14.out.same x1.below.size (fun b _ hl => x1.below.block b hl))
                    have FB := hidOf2 (HEB.out.trans (x1.below.mono HEB.out.size))
                    clear hLq hR3 hR4 HE13 HE14 HEB hb3 hb4
                    generalize x1.now = w9 at *
                    clear x1
                    go_wp2
                    go_roundw
                    case rel => exact ⟨k + 1, by omega, by go_num, F13, F14, FB⟩
                    case measure => simp [intOf]; omega
                  · have hS := hL8 wr
                    go_wp2_with fail
                    refine hS.mono ?_
                    rintro e w3 ⟨rfl, b3⟩
                    have B3 := HEB.out.trans (b3.mono HEB.out.size)
                    clear hS
                    go_wp2
                    go_ret
                    exact ⟨rfl, B3⟩
              · refine wpOp_runw rfl rfl (wp_conv _ rfl _ (.string ⟨(sav its).toArray⟩) rfl hT2.text ?_)
                refine ⟨O2.cX, ?_⟩
                simp only [List.getElem_toArray, List.getElem_cons_succ, List.getElem_cons_zero, Act.put, List.setIfInBounds_toArray, List.set_cons_succ, List.set_cons_zero]
                refine wpAnyH_all (rs := [11]) (by kernel_rfl) (by simp) ?_
                intro k hk
                simp only [List.mem_cons, List.mem_nil_iff, or_false] at hk
                subst hk
                refine wpOp_runw rfl rfl (wp_conv _ rfl _ (.string ⟨(sav its).toArray⟩) rfl hT1b.text ?_)
                refine ⟨O2.cX, ?_⟩
                simp only [List.getElem_toArray, List.getElem_cons_succ, List.getElem_cons_zero, Act.put, List.setIfInBounds_toArray, List.set_cons_succ, List.set_cons_zero]
                refine wpAnyH_take (i := 15) (v := (.bool false)) rfl (by kernel_rfl) (by kernel_rfl) (by kernel_rfl) (fun _ _ _ h => h) (.inl ⟨rfl, fun _ hS => by simp [execOp, go_sem, Act.eval]⟩) O2.cX ?_
                simp only [List.getElem_toArray, List.getElem_cons_succ, List.getElem_cons_zero, Act.put, List.setIfInBounds_toArray, List.set_cons_succ, List.set_cons_zero]
                refine wpAnyH_take (i := 16) (v := (.bool false)) rfl (by kernel_rfl) (by kernel_rfl) (by kernel_rfl) (fun _ _ _ h => h) (.inl ⟨rfl, fun _ hS => by simp [execOp, go_sem, Act.eval]⟩) O2.cX ?_
                simp only [List.getElem_toArray, List.getElem_cons_succ, List.getElem_cons_zero, Act.put, List.setIfInBounds_toArray, List.set_cons_succ, List.set_cons_zero]
                refine wpAnyH_done (by kernel_rfl) ?_ _
                have HE13 := hidOf2 (HW13.out.same h2.size (fun b _ hl => h2.block b hl))
                have HE14 := hidOf2 (HW14.out.same h2.size (fun b _ hl => h2.block b hl))
                have HEB := hidOf2 O2.below
                clear O0 O1 O2 h0 h1 h2 b1 b2 P1 P2 hT1 hT2 hT1b HW13 HW14 HSe6
                go_wp2
                go_loopw [15] (fun s15 x => ∃ k : Nat, k ≤ es.length ∧ s15 = .int .i64 k ∧ Hid (Wide 14 enC x (.slice ao13 es.length cp13) es) ∧ Hid (Wide 14 enC x (.slice ao14 es.length cp14) es) ∧ Hid (Below w.heap.size w x)) (fun s15 _ => es.length - (intOf s15).toNat)
                case atStart => exact ⟨0, Nat.zero_le _, rfl, HE13, HE14, HEB⟩
                case round =>
                  clear HE13 HE14 HEB
                  obtain ⟨k, hk, rfl, HE13, HE14, HEB⟩ := hrel
                  by_cases hkl : k < es.length
                  · obtain ⟨b3, o3, c3, hv3, hb3, hR3⟩ := HE13.out.at0 k hkl
                    obtain ⟨b4, o4, c4, hv4, hb4, hR4⟩ := HE14.out.at0 k hkl
                    injection hv3 with hv3a _ hv3c
                    subst hv3a
                    subst hv3c
                    injection hv4 with hv4a _ hv4c
                    subst hv4a
                    subst hv4c
                    generalize es[k] = E8 at *
                    have hLq := Later.some wr
                    go_upto_region 24 with fail
                    refine wp_region_later (by kernel_rfl) (by kernel_rfl) ?_
                    repeat (go_big_quiet_step (fail))
                    first | (refine quiet_pure (.pointer (some ⟨b3, o3 + k * 14, none⟩)) rfl (fun w => exec_idxE rfl rfl rfl hkl w) ?_; simp only [Act.put, List.setIfInBounds_toArray, List.set_cons_succ, List.set_cons_zero]) | skip
                    refine quiet_ldE hR3 hb3 rfl _ rfl rfl ?_
                    simp only [Act.put, List.setIfInBounds_toArray, List.set_cons_succ, List.set_cons_zero]
                    repeat (go_big_quiet_step (fail))
                    first | (refine quiet_pure (.pointer (some ⟨b4, o4 + k * 14, none⟩)) rfl (fun w => exec_idxE rfl rfl rfl hkl w) ?_; simp only [Act.put, List.setIfInBounds_toArray, List.set_cons_succ, List.set_cons_zero]) | skip
                    refine quiet_ldE hR4 hb4 rfl _ rfl rfl ?_
                    simp only [Act.put, List.setIfInBounds_toArray, List.set_cons_succ, List.set_cons_zero]
                    refine quiet_neqE E8 rfl _ _ rfl rfl rfl ?_
                    simp only [Act.put, List.setIfInBounds_toArray, List.set_cons_succ, List.set_cons_zero]
                    refine wpQuiet_nil ?_
                    rintro _ ⟨x1, rfl⟩
                    have F13 := hidOf2 (HE13.out.same x1.below.size (fun b _ hl => x1.below.block b hl))
                    have F14 := hidOf2 (HE14.out.same x1.below.size (fun b _ hl => x1.below.block b hl))
                    have FB := hidOf2 (HEB.out.trans (x1.below.mono HEB.out.size))
                    clear hLq hR3 hR4 HE13 HE14 HEB hb3 hb4
                    generalize x1.now = w9 at *
                    clear x1
                    go_wp2
                    go_roundw
                    case rel => exact ⟨k + 1, by omega, by go_num, F13, F14, FB⟩
                    case measure => simp [intOf]; omega
                  · have hS := hL8 wr
                    go_wp2_with fail
                    refine hS.mono ?_
                    rintro e w3 ⟨rfl, b3⟩
                    have B3 := HEB.out.trans (b3.mono HEB.out.size)
                    clear hS
                    go_wp2
                    go_ret
                    exact ⟨rfl, B3⟩
  · obtain rfl := HB2.out hc
    have hS := hL8 w1
    clear HG HB2
    go_wp2_with fail
    refine hS.mono ?_
    rintro e w3 ⟨rfl, b3⟩
    have B3 := B1.trans (b3.mono B1.size)
    clear hS
    go_wp2
    go_ret
    exact ⟨rfl, B3⟩
end Go.Proofs.Ytdcogpadioeclaa
namespace Go.Proofs.Ytdcogpadioeclaa
open Go.ChangeShapes Go.WideShapes Go.ChangeAt Go.RowKit Go.Proofs.Ty
open Go.ChangeMaps (open_string shut_string)
set_option linter.unusedVariables false
set_option maxRecDepth 1000000

set_option maxRecDepth 100000 in
theorem odOrder_lifted (os : Os) (started : os.Started) (H : Type) (enc : TypeId × Value → H) :
    ReturnsInHanded {} Try.checked os 7 .any (Rows.odOrderSpec.pre6 enc Try.prog Try.f7 Rows.odOrderRow.domain false) (Rows.odOrderSpec.post enc Try.prog Try.f7 false true false false) := by
  refine returnsInHanded_of_change_sized (C := Try.checked) own started (by kernel_rfl) Try.func7
    (ChangeSpec.witness6 (enc := enc) (C := Try.checked) false ⟨#[], #[.slice none 0 0, .slice none 0 0], []⟩ 8 (by kernel_rfl) (by kernel_rfl) (by kernel_rfl) (by kernel_rfl)) ?_
  intro W base args ds gs before hval0 hW hcnd hsz _
  have hval : ∀ (j : Nat) t v, Try.f7.params[j]? = some t → args[j]? = some v → Value.okWide Try.prog W .any base t v := hval0
  have hW' := hW
  obtain ⟨p, q, hA0, hV, rfl, hfz, hnd⟩ := hW
  have hA : DataW.TrodAll enc Try.prog W 0 (fun _ => true) true Try.f7.params.toList args.toList ds p := hA0
  rw [Try.params7] at hA hval hsz
  obtain ⟨v0, vs0, d0, ds0, p0, q0, hargs, rfl, rfl, h0, r0⟩ := trodAll_cons hA
  obtain ⟨v1, vs1, d1, ds1, p1, q1, rfl, rfl, rfl, h1, r1⟩ := trodAll_cons r0
  obtain ⟨rfl, rfl, rfl⟩ := trodAll_nil r1
  obtain rfl : args = #[v0, v1] := by cases args; simp_all
  obtain ⟨rfl, rfl⟩ := trodVars_none hV
  have lt0 : ∀ x ∈ p0, x.block < W.heap.size := by obtain ⟨m, hm⟩ := h0; exact DataW.trod_lt m _ _ _ hm
  obtain ⟨l0, w0, e0⟩ := open_entries (hval 0 22 v0 rfl rfl) h0 lt0
  have z0 := size_entries (j := 0) hsz rfl rfl e0
  have lt1 : ∀ x ∈ p1, x.block < W.heap.size := by obtain ⟨m, hm⟩ := h1; exact DataW.trod_lt m _ _ _ hm
  obtain ⟨l1, w1, e1⟩ := open_acts8 (hval 1 23 v1 rfl rfl) h1 lt1
  have z1 := size_acts8 (j := 1) hsz rfl rfl e1
  clear hA0 hval0
  refine (oord_walk _ _ l0 l1 W w0 w1 z0 z1.1 z1.2).mono fun e W' ⟨he, bel⟩ => ?_
  subst he
  exact ⟨_, rfl, _, _, _, [], _, [], hW', trodAll_mk1 (shut_bool Try.underlying4 _), (trodAll_cons_mk (Below.trod laidOut (by kernel_rfl) (of_decide_eq_true (by kernel_rfl)) h0 bel lt0) (trodAll_cons_mk (Below.trod laidOut (by kernel_rfl) (of_decide_eq_true (by kernel_rfl)) h1 bel lt1) trodAll_mk0)), rfl, bel.frame _, fun h => by cases h⟩

theorem odOrder_holds : Rows.OdOrderSaid :=
  OpenClaim.holds_of_wide 7 Try.f7 rfl rfl rfl rfl rfl rfl rfl ⟨rfl, rfl, rfl, rfl, rfl⟩ rfl rfl rfl rfl rfl (by kernel_rfl) Try.func7 (by kernel_rfl)
    (of_decide_eq_true (by kernel_rfl)) (by unfold Func.isWrapper; first | (rw [if_pos (by decide +kernel)]; kernel_rfl) | (rw [if_neg (by decide +kernel)]; exact ⟨rfl, rfl⟩))
    (fun os started H enc _ => odOrder_lifted os started H enc)
end Go.Proofs.Ytdcogpadioeclaa
