/- Contracts: List; entries held against each other; two dictionaries of the same entries. Contracts: List; entries held against each other; two dictionaries of the same entries. Contracts: List; entries held against each other; two dictionaries of the same entries. Two dictionaries of the same entries: plain facts; their state. The state of the statement OdOrder. Steps of the statement OdOrder: texts made of bytes, entries held against each other. -/
import Derived.Test.YtpncmkncbkombaaP6
namespace Go.Proofs.Ytpncmkncbkombaa
open Go.RowKit Go.Proofs.Ty Go.Sort Go.Lib
set_option linter.unusedVariables false
set_option maxRecDepth 1000000
set_option linter.unusedSimpArgs false
def zE : Array Value := #[.int .u16 0, .int .u8 0, .int .i64 0, .bool false, .bool false, .int .i64 0, .int .u64 0, .string ⟨#[]⟩, .int .i64 0, .int .u64 0, .string ⟨#[]⟩, .int .i64 0, .int .u64 0, .string ⟨#[]⟩]
theorem run_make_ents (n : Nat) (hn : n ≤ 1024) (w : World) : (Instr.makeSlice 22 (.int .i64 n) (.int .i64 n)).run Try.prog w = .ok (.slice (some ⟨w.heap.size, 0, none⟩) n n) (w.alloc (.cells (madeCells zE (n * 14)) 42)) := by
  obtain ⟨i0, hi, hz0, hz1, hz2⟩ := info_parts infoEz
  have := run_make (P := Try.prog) w 22 42 i0 _ Try.underlying22 hi hz0 .i64 .i64 n n (by omega) (Int.le_refl _) (by rw [hz2]; omega) (by omega)
  simp only [Int.toNat_natCast, hz1] at this
  exact this
/-- So many entries are laid down. -/
structure Ls (w : World) (g : Nat) (its : List Im) (k : Nat) (x : World) : Prop where
  bel : Below w.heap.size w x
  base : w.heap.size ≤ g
  lt : g < x.heap.size
  ht : x.there g 0 (its.length * 14)
  hn : ∀ m (hm : m < its.length), m < k → x.rangeAt g (m * 14) (enC its[m].e)
theorem Ls.start (w : World) (its : List Im) : Ls w w.heap.size its 0 (w.alloc (.cells (madeCells zE (its.length * 14)) 42)) := by
  refine ⟨(Below.refl _ _).alloc (Nat.le_refl _) _, Nat.le_refl _, by rw [size_alloc]; omega, fun j hj => ?_, fun m _ h => by omega⟩
  have hh := heap_alloc_new w (.cells (madeCells zE (its.length * 14)) 42)
  refine ⟨?_, Lib.frozen_of_heap hh _⟩
  rw [Lib.cell_of_heap hh]
  have : 0 + j < (madeCells zE (its.length * 14)).size := by rw [size_madeCells]; omega
  rw [Array.getElem?_eq_getElem this]; rfl
theorem Ls.step {w : World} {g : Nat} {its : List Im} {k : Nat} {x : World} (h : Ls w g its k x) (hk : k < its.length) : x.there g (k * 14) 14 ∧ Ls w g its (k + 1) (x.setCells g (k * 14) (enC its[k].e)) := by
  have ht : x.there g (k * 14) 14 := fun j hj => by
    have := h.ht (k * 14 + j) (by have : (k + 1) * 14 ≤ its.length * 14 := Nat.mul_le_mul_right _ hk; omega)
    rw [Nat.zero_add] at this
    exact this
  refine ⟨ht, h.bel.grown (setCells_kept x g (k * 14) _) h.bel.size (fun j hj => by cases hj; exact h.base), h.base, by rw [setCells_size]; exact h.lt, World.there_setCells h.ht _ _ _, fun m hm hmk => ?_⟩
  rcases Nat.lt_or_ge m k with h3 | h3
  · exact World.rangeAt_setCells_apart (h.hn m hm h3) g (k * 14) _ (.inr (.inl (by rw [enC_len]; omega)))
  · have : m = k := by omega
    subst this
    exact World.rangeAt_setCells_same x g (m * 14) _ (by rw [enC_len]; exact ht)
theorem Ls.wide {w : World} {g : Nat} {its : List Im} {x : World} (h : Ls w g its its.length x) : Wide 14 enC x (.slice (some ⟨g, 0, none⟩) (its.map Im.e).length its.length) (its.map Im.e) := by
  refine ⟨some ⟨g, 0, none⟩, its.length, rfl, (fun h => by cases h), fun k hk => ⟨g, 0, rfl, h.lt, ?_⟩⟩
  have hk' : k < its.length := by simpa using hk
  rw [List.getElem_map, Nat.zero_add]
  exact h.hn k hk' hk'
theorem sdEm {w : World} {b o : Nat} (ht : w.there b o 14) {ops : Array Oper} {rest : List Oper} {p : Oper} {a : Act} {Q : Exit → Act → World → Prop} (e : En) (hgd : p.guard = none) (x y : Operand) (ho : p.op = .store 42 x y) (hx : a.eval x = .pointer (some ⟨b, o, none⟩)) (hy : a.eval y = .agg e.arr)
    (hh : wpList Try.prog ops Q rest (a.put p.dst undef) (w.setCells b o (enC e))) : wpList Try.prog ops Q (p :: rest) a w :=
  wpList_store_mid hgd 42 x y ho b o e.arr hx hy ht (by show _ = some 14; exact infoE) (all_oneCell_toArray e.one) hh
end Go.Proofs.Ytpncmkncbkombaa
namespace Go.Proofs.Ytpncmkncbkombaa
open Go.RowKit Go.Proofs.Ty Go.Sort Go.Lib
set_option linter.unusedVariables false
set_option maxRecDepth 1000000
set_option linter.unusedSimpArgs false
/-- Entries held against each other. -/
def En.lits (e : En) : List Lit := [.int .u16 e.ix, .int .u8 e.sb, .int .i64 e.ac, .bool e.mp, .bool e.li] ++ e.mn.lits ++ e.mx.lits ++ e.df.lits
theorem keyE : Try.prog.keyTypeAt 4 42 = true := by kernel_rfl
theorem guardE : Try.prog.eqGuardType Try.prog.depth 42 = false := by kernel_rfl
theorem en_formed (e : En) : (Value.agg e.arr).formed Try.prog 42 = true := by
  have c1 : Try.prog.cellsOf 42 = 14 := by kernel_rfl
  simp [Value.formed, Try.underlying42, c1, En.arr, enC]
theorem en_keyLits (e : En) (d : Nat) : Try.prog.keyLits (d + 4) 42 e.arr.toList = some e.lits := by
  have h1 := e.hix
  have h2 := e.hsb
  have h3 := e.hac
  have k1 := vl_keyLits e.mn d
  have k2 := vl_keyLits e.mx d
  have k3 := vl_keyLits e.df d
  have c1 : Try.prog.cellsOf 36 = 3 := by kernel_rfl
  have c2 : Try.prog.cellsOf 3 = 1 := by kernel_rfl
  have c3 : Try.prog.cellsOf 32 = 1 := by kernel_rfl
  have c4 : Try.prog.cellsOf 5 = 1 := by kernel_rfl
  have c5 : Try.prog.cellsOf 4 = 1 := by kernel_rfl
  have c6 : Try.prog.cellsOf 42 = 14 := by kernel_rfl
  have w1 : (Lit.int .u16 e.ix).wf = true := by simp [Lit.wf, IntKind.min, IntKind.max, IntKind.signed, IntKind.bits]; omega
  have w2 : (Lit.int .u8 e.sb).wf = true := by simp [Lit.wf, IntKind.min, IntKind.max, IntKind.signed, IntKind.bits]; omega
  have w3 : (Lit.int .i64 e.ac).wf = true := by simp [Lit.wf, IntKind.min, IntKind.max, IntKind.signed, IntKind.bits]; omega
  simp only [Vl.arr] at k1 k2 k3
  have s1 : Try.prog.keyLits (d + 3) 32 [.int .u16 e.ix] = some [.int .u16 e.ix] := by simp [Program.keyLits, Try.underlying32, w1]
  have s2 : Try.prog.keyLits (d + 3) 5 [.int .u8 e.sb] = some [.int .u8 e.sb] := by simp [Program.keyLits, Try.underlying5, w2]
  have s3 : Try.prog.keyLits (d + 3) 3 [.int .i64 e.ac] = some [.int .i64 e.ac] := by simp [Program.keyLits, Try.underlying3, w3]
  have s4 : Try.prog.keyLits (d + 3) 4 [.bool e.mp] = some [.bool e.mp] := by simp [Program.keyLits, Try.underlying4]
  have s5 : Try.prog.keyLits (d + 3) 4 [.bool e.li] = some [.bool e.li] := by simp [Program.keyLits, Try.underlying4]
  unfold Program.keyLits
  simp [En.arr, enC, En.lits, Try.underlying42, c1, c2, c3, c4, c5, c6, s1, s2, s3, s4, s5, k1, k2, k3]
theorem enSame (e : En) (w : World) : (binOp .neq 42 (.agg e.arr) (.agg e.arr)).run Try.prog w = .ok (.bool false) w := by
  obtain ⟨r, hr, hiff⟩ := run_equalIn_deep (10000 - 4) 4 42 keyE w 4 4 (.agg e.arr) (.agg e.arr) e.lits e.lits (en_formed e) (en_formed e) (en_keyLits e 0) (en_keyLits e 0)
  have e1 : r = true := hiff.2 rfl
  have hq : (Op.equal 42 (.agg e.arr) (.agg e.arr)).run Try.prog w = .ok true w := by rw [← e1]; exact hr
  simp [binOp, hq]
end Go.Proofs.Ytpncmkncbkombaa
namespace Go.Proofs.Ytpncmkncbkombaa
open Go.RowKit Go.Proofs.Ty Go.Sort Go.Lib
set_option linter.unusedVariables false
set_option maxRecDepth 1000000
set_option linter.unusedSimpArgs false
set_option maxHeartbeats 2000000 in
theorem List_any {D R : Nat} {its : List Im} {w : World} (h : Dct D R its w) :
    Calls Try.prog 15 #[.pointer (some ⟨D, 0, none⟩)] w fun e w' => ∃ x, e = .returned x ∧ Wide 14 enC w' x (its.map Im.e) ∧ Below w.heap.size w w' := by
  have hl := h.len
  have HD := hidOf2 h
  have hm := run_make_ents its.length hl
  have c0 := h.cell
  have HL0 := hidOf2 (Ls.start w its)
  have HLW := hidOf2 (fun g x (hx : Ls w g its its.length x) => hx.wide)
  have k0 := (h.below (Ls.start w its).bel).cell
  obtain ⟨g, hg⟩ : ∃ g, w.heap.size = g := ⟨_, rfl⟩
  clear h
  go_enter Try.func15, Try.ntmps15
  go_wp2
  generalize (w.alloc (.cells (madeCells zE (its.length * 14)) 42)) = w1 at *
  simp only [hg] at HL0
  try simp only [hg]
  go_loopw [17] (fun i x => ∃ k : Nat, k ≤ its.length ∧ i = .int .i64 k ∧ Hid (Ls w g its k x)) (fun i _ => its.length - (intOf i).toNat)
  case atStart => exact ⟨0, Nat.zero_le _, rfl, HL0⟩
  case round =>
    clear HL0
    obtain ⟨k, hk, rfl, HL⟩ := hrel
    by_cases hkl : k < its.length
    · have hD := HD.out.below HL.out.bel
      have ca := hD.at k hkl
      have hI := hD.items its[k] (List.getElem_mem hkl)
      obtain ⟨ht, HLn0⟩ := HL.out.step hkl
      have HLn := hidOf2 HLn0
      have r0 := hI.r0
      unfold ptrI at ca
      clear HLn0 hI hD HL
      generalize its[k] = i at *
      go_upto_region 6 with (first | (refine ldE r0 rfl _ rfl rfl ?_) | (refine sdEm ht i.e rfl _ _ rfl rfl rfl ?_; clear r0 ht; generalize wr.setCells g (k * 14) (enC i.e) = w2 at *))
      go_wp2
      go_roundw
      case rel => exact ⟨k + 1, by omega, by go_num, HLn⟩
      case measure => simp [intOf]; omega
    · have e1 : k = its.length := by omega
      subst e1
      have HW := hidOf2 (HLW.out g wr HL.out)
      rw [List.length_map] at HW
      have HB := hidOf2 HL.out.bel
      clear HL
      go_wp2
      go_ret
      exact ⟨_, rfl, HW.out, HB.out⟩
end Go.Proofs.Ytpncmkncbkombaa
namespace Go.Proofs.Ytpncmkncbkombaa
open Go.RowKit Go.Proofs.Ty Go.Sort Go.Lib
set_option linter.unusedVariables false
set_option maxRecDepth 1000000
set_option linter.unusedSimpArgs false
def er (i : Im) : En × Vl := (i.e, i.v)
/-- The same entries with the same values. -/
def Tw (a b : List Im) : Prop := a.map er = b.map er
theorem Tw.e {a b : List Im} (h : Tw a b) : a.map Im.e = b.map Im.e := by
  have : ∀ l : List Im, l.map Im.e = (l.map er).map Prod.fst := fun l => by rw [List.map_map]; rfl
  rw [this, this, h]
theorem fnd_er (a : List Im) (ix sb : Nat) : (fnd a ix sb).map er = (a.map er).find? (fun p => p.1.ix == ix && p.1.sb == sb) := by
  unfold fnd
  rw [List.find?_map]
  rfl
theorem Tw.fnd {a b : List Im} (h : Tw a b) (ix sb : Nat) : (fnd a ix sb).map er = (Go.Proofs.Ytpncmkncbkombaa.fnd b ix sb).map er := by rw [fnd_er, fnd_er, h]
theorem noc_er (a : List Im) (ix : Nat) : noc a ix = if (a.map er).any (fun p => p.1.ix == ix) then 101253137 else 100794368 := by
  unfold noc
  rw [List.any_map]
  rfl
theorem Tw.wc {a b : List Im} (h : Tw a b) (ix sb : Nat) (l : List UInt8) : wc a ix sb l = Go.Proofs.Ytpncmkncbkombaa.wc b ix sb l := by
  have hf := h.fnd ix sb
  unfold Go.Proofs.Ytpncmkncbkombaa.wc
  cases ha : Go.Proofs.Ytpncmkncbkombaa.fnd a ix sb with
  | none =>
    rw [ha] at hf
    cases hb : Go.Proofs.Ytpncmkncbkombaa.fnd b ix sb with
    | none => simp only; rw [noc_er, noc_er, h]
    | some j => rw [hb] at hf; cases hf
  | some i =>
    rw [ha] at hf
    cases hb : Go.Proofs.Ytpncmkncbkombaa.fnd b ix sb with
    | none => rw [hb] at hf; cases hf
    | some j =>
      rw [hb] at hf
      simp only [Option.map_some, Option.some.injEq, er, Prod.mk.injEq] at hf
      simp only [wcode]
      rw [hf.1]
theorem setV_er {a : List Im} (hd : (a.map Im.b).Nodup) (hs : a.Pairwise (fun x y => x.e.pl < y.e.pl)) {i : Im} (hi : i ∈ a) (v : Vl) : (setV a i.b v).map er = (a.map er).map (fun p => if p.1.pl = i.e.pl then (p.1, v) else p) := by
  unfold setV
  rw [List.map_map, List.map_map]
  apply List.map_congr_left
  intro x hx
  simp only [Function.comp, er]
  by_cases e : x.b = i.b
  · have := mem_b hd hx hi e
    subst this
    rw [if_pos rfl]
    exact (if_pos (show (er x).1.pl = x.e.pl from rfl)).symm
  · have hne : ¬ x.e.pl = i.e.pl := fun h => e (by
      obtain ⟨m, hm, rfl⟩ := List.getElem_of_mem hx
      obtain ⟨n, hn, rfl⟩ := List.getElem_of_mem hi
      have h1 := List.pairwise_iff_getElem.1 hs
      have : m = n := by
        rcases Nat.lt_trichotomy m n with h2 | h2 | h2
        · have := h1 m n hm hn h2; omega
        · exact h2
        · have := h1 n m hn hm h2; omega
      subst this; rfl)
    rw [if_neg e]
    exact (if_neg (show ¬ (er x).1.pl = i.e.pl from hne)).symm
theorem Tw.wrt {a b : List Im} (h : Tw a b) (ha : (a.map Im.b).Nodup) (hb : (b.map Im.b).Nodup) (sa : a.Pairwise (fun x y => x.e.pl < y.e.pl)) (sb' : b.Pairwise (fun x y => x.e.pl < y.e.pl)) (ix sb : Nat) (l : List UInt8) : Tw (wrt a ix sb l) (Go.Proofs.Ytpncmkncbkombaa.wrt b ix sb l) := by
  unfold Go.Proofs.Ytpncmkncbkombaa.wrt
  rw [h.wc ix sb l]
  split
  · have hf := h.fnd ix sb
    cases hfa : Go.Proofs.Ytpncmkncbkombaa.fnd a ix sb with
    | none =>
      rw [hfa] at hf
      cases hfb : Go.Proofs.Ytpncmkncbkombaa.fnd b ix sb with
      | none => exact h
      | some j => rw [hfb] at hf; cases hf
    | some i =>
      rw [hfa] at hf
      cases hfb : Go.Proofs.Ytpncmkncbkombaa.fnd b ix sb with
      | none => rw [hfb] at hf; cases hf
      | some j =>
        rw [hfb] at hf
        simp only [Option.map_some, Option.some.injEq, er, Prod.mk.injEq] at hf
        show (setV a i.b (decW i.e.df.t l)).map er = (setV b j.b (decW j.e.df.t l)).map er
        rw [setV_er ha sa (fnd_mem hfa), setV_er hb sb' (fnd_mem hfb), hf.1, h]
  · exact h
theorem sav_er (a : List Im) : sav a = (a.map er).flatMap (fun p => svI ⟨0, p.1, p.2⟩) := by
  unfold sav
  rw [List.flatMap_map]
  rfl
theorem Tw.sav {a b : List Im} (h : Tw a b) : sav a = Go.Proofs.Ytpncmkncbkombaa.sav b := by rw [sav_er, sav_er, h]
/-- Entries in order, whichever way they came. -/
theorem sorted_eq {a b : List En} (ha : a.Pairwise (fun x y => x.pl < y.pl)) (hb : b.Pairwise (fun x y => x.pl < y.pl)) (hp : a.Perm b) : a = b := by
  induction a generalizing b with
  | nil => exact (List.Perm.nil_eq hp)
  | cons x r ih =>
    cases b with
    | nil => exact absurd hp.length_eq (by simp)
    | cons y s =>
      obtain ⟨h1, h2⟩ := List.pairwise_cons.1 ha
      obtain ⟨k1, k2⟩ := List.pairwise_cons.1 hb
      have hxy : x = y := by
        have m1 : x ∈ y :: s := hp.mem_iff.1 List.mem_cons_self
        have m2 : y ∈ x :: r := hp.mem_iff.2 List.mem_cons_self
        rcases List.mem_cons.1 m1 with e | m1
        · exact e
        · rcases List.mem_cons.1 m2 with e | m2
          · exact e.symm
          · have := k1 x m1; have := h1 y m2; omega
      subst hxy
      rw [ih h2 k2 (List.Perm.cons_inv hp)]
theorem tw_new {a b : List Im} {l m : List En} (sa : a.Pairwise (fun x y => x.e.pl < y.e.pl)) (sb : b.Pairwise (fun x y => x.e.pl < y.e.pl)) (va : ∀ i ∈ a, i.v = i.e.df) (vb : ∀ i ∈ b, i.v = i.e.df) (pa : (a.map Im.e).Perm (l.map En.plain)) (pb : (b.map Im.e).Perm (m.map En.plain)) (hm : m.Perm l) : Tw a b := by
  have he : a.map Im.e = b.map Im.e := sorted_eq (List.pairwise_map.2 sa) (List.pairwise_map.2 sb) (pa.trans ((hm.map En.plain).symm.trans pb.symm))
  have key : ∀ c : List Im, (∀ i ∈ c, i.v = i.e.df) → c.map er = (c.map Im.e).map (fun e => (e, e.df)) := fun c hc => by
    rw [List.map_map]
    apply List.map_congr_left
    intro i hi
    simp only [Function.comp, er, hc i hi]
  unfold Tw
  rw [key a va, key b vb, he]
theorem chkG_perm {s l : List En} (hc : ∀ e ∈ l, e.can = 0) (hn : ((s ++ l).map En.pl).Nodup) : chkG s l = 0 := by
  induction l generalizing s with
  | nil => rfl
  | cons e r ih =>
    rw [chkG, if_neg (by have := hc e List.mem_cons_self; simpa using this), if_neg, ih (fun x hx => hc x (List.mem_cons_of_mem _ hx)) (by simpa using hn)]
    rw [Bool.not_eq_true, List.any_eq_false]
    intro x hx he
    rw [List.map_append, List.nodup_append] at hn
    exact hn.2.2 x.pl (List.mem_map.2 ⟨x, hx, rfl⟩) e.pl (List.mem_map.2 ⟨e, List.mem_cons_self, rfl⟩) (by simpa using he)
/-- Entries that can be can be in whatever order. -/
theorem chkL_perm {l m : List En} (h : chkL l = 0) (hp : m.Perm l) : chkL m = 0 := by
  obtain ⟨h1, h2, h3⟩ := chkL_ok h
  unfold chkL
  rw [if_neg (by rw [hp.length_eq]; omega)]
  refine chkG_perm (fun e he => chkG_all h3 e (hp.mem_iff.1 he)) ?_
  rw [List.nil_append]
  exact (hp.map En.pl).nodup_iff.2 h2
end Go.Proofs.Ytpncmkncbkombaa
namespace Go.Proofs.Ytpncmkncbkombaa
open Go.RowKit Go.Proofs.Ty Go.Sort Go.Lib
set_option linter.unusedVariables false
set_option maxRecDepth 1000000
set_option linter.unusedSimpArgs false
theorem kp_other {D R : Nat} {its : List Im} {x y : World} (hd : Dct D R its x) (hK : Kp (its.map Im.b) x y) {q T : Nat} {A : Array Value} {fr : Nat × Nat} (hq : x.heap[q]? = some (.cells A T fr)) (ht : T ≠ 69) : y.heap[q]? = some (.cells A T fr) :=
  (hK.block q (Array.getElem?_eq_some_iff.1 hq).1 (fun hm => by
    obtain ⟨i, hi, e⟩ := List.mem_map.1 hm
    have h1 := hd.items i hi
    rw [show i.b = q from e] at h1
    have h2 : x.heap[q]? = some (.cells (imC i.e i.v).toArray 69 (0, 0)) := h1
    rw [hq] at h2
    simp at h2
    exact ht h2.2.1)).trans hq
theorem kp_dct {D R D2 R2 : Nat} {its its2 : List Im} {x y : World} (hd : Dct D R its x) (h2 : Dct D2 R2 its2 x) (hK : Kp (its.map Im.b) x y) (dis : ∀ b ∈ its2.map Im.b, b ∉ its.map Im.b) : Dct D2 R2 its2 y :=
  ⟨kp_other hd hK h2.head (by decide), kp_other hd hK h2.row (by decide), fun i hi => (hK.block i.b (h2.items i hi).lt (dis i.b (List.mem_map.2 ⟨i, hi, rfl⟩))).trans (h2.items i hi), h2.apart, h2.sorted, h2.len⟩
theorem kp_own {D R : Nat} {its : List Im} {x y : World} {B T c n : Nat} {v : Value} {xs : List Value} (h : x.ownsRow B T c v n xs) (hd : Dct D R its x) (hK : Kp (its.map Im.b) x y) (ht : T ≠ 69) : y.ownsRow B T c v n xs := by
  refine ⟨h.1, h.2.imp id ?_⟩
  rintro ⟨g, cap, cur, e1, e2, e3, e4⟩
  exact ⟨g, cap, cur, e1, e2, kp_other hd hK e3 ht, e4⟩
/-- A block of another type than the row's. -/
theorem row_other {x y : World} {r : Option Nat} (G : x.grownBy y r) {U : Nat} (hr : ∀ b, r = some b → ∃ cur, x.heap[b]? = some (.cells cur U (0, 0))) {q T : Nat} {A : Array Value} {fr : Nat × Nat} (hq : x.heap[q]? = some (.cells A T fr)) (ht : T ≠ U) : y.heap[q]? = some (.cells A T fr) :=
  (G.block q (Array.getElem?_eq_some_iff.1 hq).1 (fun e => by
    obtain ⟨cur, h1⟩ := hr q e.symm
    rw [hq] at h1
    simp at h1
    exact ht h1.2.1)).trans hq
theorem row_dct {x y : World} {r : Option Nat} (G : x.grownBy y r) {U : Nat} (hr : ∀ b, r = some b → ∃ cur, x.heap[b]? = some (.cells cur U (0, 0))) (h1 : U ≠ 61) (h2 : U ≠ 65) (h3 : U ≠ 69) {D R : Nat} {its : List Im} (h : Dct D R its x) : Dct D R its y :=
  ⟨row_other G hr h.head h1.symm, row_other G hr h.row h2.symm, fun i hi => row_other G hr (show x.heap[i.b]? = _ from h.items i hi) h3.symm, h.apart, h.sorted, h.len⟩
/-- Two dictionaries. -/
structure Se (w : World) (X D R E D2 R2 : Nat) (its its2 : List Im) (x : World) : Prop where
  d1 : Dct D R its x
  d2 : Dct D2 R2 its2 x
  pair : x.heap[X]? = some (.cells #[.pointer (some ⟨D, 0, none⟩), .pointer (some ⟨E, 0, none⟩)] 53 (0, 0))
  below : Below w.heap.size w x
  b1 : ∀ b ∈ its.map Im.b, w.heap.size ≤ b
  b2 : ∀ b ∈ its2.map Im.b, w.heap.size ≤ b
  dis : ∀ b ∈ its.map Im.b, b ∉ its2.map Im.b
  tw : Tw its its2
section
variable {w : World} {X D R E D2 R2 : Nat} {its its2 : List Im} {x y : World}
theorem Se.next (h : Se w X D R E D2 R2 its its2 x) (hb : Below x.heap.size x y) : Se w X D R E D2 R2 its its2 y :=
  ⟨h.d1.below hb, h.d2.below hb, (hb.block X (Array.getElem?_eq_some_iff.1 h.pair).1).trans h.pair, h.below.trans (hb.mono h.below.size), h.b1, h.b2, h.dis, h.tw⟩
theorem Se.cX (h : Se w X D R E D2 R2 its its2 x) : x.cell? ⟨X, 0, none⟩ = some (.pointer (some ⟨D, 0, none⟩)) := Lib.cell_of_heap h.pair 0
theorem Se.row8 (h : Se w X D R E D2 R2 its its2 x) {r : Option Nat} (G : x.grownBy y r) (hr : ∀ b, r = some b → w.heap.size ≤ b ∧ ∃ cur, x.heap[b]? = some (.cells cur 5 (0, 0))) : Se w X D R E D2 R2 its its2 y :=
  have hr2 : ∀ b, r = some b → ∃ cur, x.heap[b]? = some (.cells cur 5 (0, 0)) := fun b hb => (hr b hb).2
  ⟨row_dct G hr2 (by decide) (by decide) (by decide) h.d1, row_dct G hr2 (by decide) (by decide) (by decide) h.d2, row_other G hr2 h.pair (by decide), h.below.grown G h.below.size (fun j hj => (hr j hj).1), h.b1, h.b2, h.dis, h.tw⟩
/-- Both are written. -/
theorem Se.both {z : World} (h : Se w X D R E D2 R2 its its2 x) (ix sb : Nat) (l : List UInt8) (hd : Dct D R (wrt its ix sb l) y) (hK : Kp (its.map Im.b) x y) {y' : World} (hy : Dct D2 R2 its2 y') (hd1 : Dct D R (wrt its ix sb l) y') (hp : y'.heap[X]? = some (.cells #[.pointer (some ⟨D, 0, none⟩), .pointer (some ⟨E, 0, none⟩)] 53 (0, 0))) (hB : Below w.heap.size w y')
    (hd2 : Dct D2 R2 (wrt its2 ix sb l) z) (hK2 : Kp (its2.map Im.b) y' z) : Se w X D R E D2 R2 (wrt its ix sb l) (wrt its2 ix sb l) z := by
  have a1 := (((⟨rfl, rfl⟩ : Al (its.map Im.e) (its.map Im.b) its)).wrt ix sb l).b
  have a2 := (((⟨rfl, rfl⟩ : Al (its2.map Im.e) (its2.map Im.b) its2)).wrt ix sb l).b
  refine ⟨kp_dct hy hd1 hK2 (by rw [a1]; exact h.dis), hd2, kp_other hy hK2 hp (by decide), hK2.below hB hB.size h.b2, by rw [a1]; exact h.b1, by rw [a2]; exact h.b2, by rw [a1, a2]; exact h.dis, h.tw.wrt h.d1.apart h.d2.apart h.d1.sorted h.d2.sorted ix sb l⟩
end
def Aq (q : Nat) (a : A8) (x : World) : Prop := x.heap[q]? = some (.cells a.arr 38 (0, 0))
theorem Aq.c {q : Nat} {a : A8} {x : World} (h : Aq q a x) : x.cell? ⟨q, 1, none⟩ = some (.int .u16 a.ix) ∧ x.cell? ⟨q, 2, none⟩ = some (.int .u8 a.sb) ∧ x.cell? ⟨q, 3, none⟩ = some a.bv := ⟨Lib.cell_of_heap h 1, Lib.cell_of_heap h 2, Lib.cell_of_heap h 3⟩
theorem acC_one (a : A8) (h : a.bv.oneCell' = true) : ∀ u ∈ acC a, u.oneCell' = true := by
  intro u hu
  simp [acC] at hu
  rcases hu with rfl | rfl | rfl | rfl | rfl | rfl | rfl | rfl <;> first | rfl | exact h
section
variable {w : World} {ops : Array Oper} {rest : List Oper} {p : Oper} {a : Act} {Q : Exit → Act → World → Prop} {b o : Nat}
theorem ldA {e : A8} (h : w.rangeAt b o (acC e)) (hgd : Region.wanted p (yielded ops a.tmps) = true) (x : Operand) (ho : p.op = .load 38 x) (hx : a.eval x = .pointer (some ⟨b, o, none⟩))
    (hh : wpList Try.prog ops Q rest (a.put p.dst (.agg e.arr)) w) : wpList Try.prog ops Q (p :: rest) a w :=
  BigFrame.wpList_want hgd fun _ hK => wp_load_mid 38 x ho b o hx (acC e) _ h Try.underlying38 rfl (by rw [infoAz]; rfl) (hK _ _ hh)
theorem sdA {q : Nat} {c : Array Value} (h : w.heap[q]? = some (.cells c 38 (0, 0))) (hc : c.size = 8) (e : A8) (he : e.bv.oneCell' = true) (hgd : p.guard = none) (x y : Operand) (ho : p.op = .store 38 x y) (hx : a.eval x = .pointer (some ⟨q, 0, none⟩)) (hy : a.eval y = .agg e.arr)
    (hh : wpList Try.prog ops Q rest (a.put p.dst undef) (w.setRow q e.arr)) : wpList Try.prog ops Q (p :: rest) a w :=
  wpList_store_row hgd 38 x y ho q e.arr hx hy 38 c h (by show _ = some 8; exact infoAz) (by rw [hc]; rfl) (all_oneCell_toArray (acC_one e he)) hh
end
end Go.Proofs.Ytpncmkncbkombaa
namespace Go.Proofs.Ytpncmkncbkombaa
open Go.RowKit Go.Proofs.Ty Go.Sort Go.Lib
set_option linter.unusedVariables false
set_option maxRecDepth 1000000
set_option linter.unusedSimpArgs false
theorem quiet_neqE {W : World} {ops : Array Oper} {rest : List Oper} {o : Oper} {a : Act} {Q : Act → Prop} (e : En) (hgd : Region.wanted o (yielded ops a.tmps) = true) (x y : Operand) (ho : o.op = .binOp .neq 42 x y 42) (hx : a.eval x = .agg e.arr) (hy : a.eval y = .agg e.arr)
    (hh : wpQuiet Try.prog ops (fun w' => ∃ x : Later W, w' = x.now) Q rest (a.put o.dst (.bool false))) : wpQuiet Try.prog ops (fun w' => ∃ x : Later W, w' = x.now) Q (o :: rest) a := by
  unfold wpQuiet
  rw [if_pos hgd]
  refine ⟨.bool false, ?_, hh⟩
  rintro w' ⟨z, rfl⟩
  have hl := enSame e z.now
  have hg : (eqGuard .neq 42 x y (.agg e.arr) (.agg e.arr)).run Try.prog z.now = .ok () z.now := run_eqGuard_agg z.now .neq 42 x y e.arr e.arr guardE
  unfold Oper.quietAt execOp
  simp only [ho, hx, hy, Sem.run_bind, Sem.run_pure, hg, Result.andThen_ok, hl]
  exact ⟨rfl, rfl⟩
theorem wp_conv {o : Oper} {a : Act} {w : World} {K : Act → World → Prop} {Q : Exit → Act → World → Prop} (x : Operand) (ho : o.op = .convert 33 9 x) (v u : Value) (hx : a.eval x = v)
    (hr : (convert 33 9 v).run Try.prog w = .ok u w) (h : K (a.put o.dst u) w) : o.wp Try.prog a w K Q := by
  unfold Oper.wp execOp
  simp only [ho, hx, Sem.run_bind, Sem.run_pure, Result.andThen_ok, hr]
  exact h
end Go.Proofs.Ytpncmkncbkombaa
