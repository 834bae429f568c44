/- A pair of dictionaries, the program's and the document's, in memory; what an act leaves. Plain facts: the document's order of entries; what is saved and loaded again. Both dictionaries at first. Contracts: Tells. Contracts: leave, count. -/
import Derived.Test.YtahfnknbmikmkaaGreatKb17
import Derived.Test.YtahfnknbmikmkaaGreatKb15
import Derived.Test.YtahfnknbmikmkaaGreatZs
import Derived.Test.YtahfnknbmikmkaaGreatKb16
namespace Go.Proofs.YtahfnknbmikmkaaGreat
open Go.RowKit Go.Proofs.Ty Go.Sort Go.Lib
set_option linter.unusedVariables false
set_option maxRecDepth 1000000
set_option linter.unusedSimpArgs false
/-- The program's dictionary has ia, the document's ib. -/
structure Sm (w : World) (X D R E : Nat) (ia ib : List Im) (x : World) : Prop where
  dct : Dct D R ia x
  rd : ∃ vL vV, Rd E (ib.map Im.e) vL (ib.map Im.v) vV x
  pair : x.heap[X]? = some (.cells #[.pointer (some ⟨D, 0, none⟩), .pointer (some ⟨E, 0, none⟩)] 56 (0, 0))
  below : Below w.heap.size w x
  base : ∀ b ∈ ia.map Im.b, w.heap.size ≤ b
  bE : w.heap.size ≤ E
  len : ib.length ≤ 1024
section
variable {w : World} {X D R E : Nat} {ia ib : List Im} {x y : World}
theorem Sm.next (h : Sm w X D R E ia ib x) (hb : Below x.heap.size x y) : Sm w X D R E ia ib y :=
  ⟨h.dct.below hb, by obtain ⟨vL, vV, hr⟩ := h.rd; exact ⟨vL, vV, hr.below hb⟩, (hb.block X (Array.getElem?_eq_some_iff.1 h.pair).1).trans h.pair, h.below.trans (hb.mono h.below.size), h.base, h.bE, h.len⟩
theorem Sm.cX (h : Sm w X D R E ia ib x) : x.cell? ⟨X, 0, none⟩ = some (.pointer (some ⟨D, 0, none⟩)) ∧ x.cell? ⟨X, 1, none⟩ = some (.pointer (some ⟨E, 0, none⟩)) := ⟨Lib.cell_of_heap h.pair 0, Lib.cell_of_heap h.pair 1⟩
theorem Rd.kp {L : List En} {vL : Value} {V : List Vl} {vV : Value} {its : List Im} (h : Rd E L vL V vV x) (hd : Dct D R its x) (hK : Kp (its.map Im.b) x y) : Rd E L vL V vV y :=
  ⟨kp_other hd hK h.head (by decide), h.rowL.same hK.size (fun b A fr _ h1 => (kp_other hd hK h1 (by decide)).trans h1.symm), h.rowV.same hK.size (fun b A fr _ h1 => (kp_other hd hK h1 (by decide)).trans h1.symm)⟩
theorem Sm.prog {ia' : List Im} (h : Sm w X D R E ia ib x) (hd : Dct D R ia' y) (hK : Kp (ia.map Im.b) x y) (hb : ia'.map Im.b = ia.map Im.b) : Sm w X D R E ia' ib y :=
  ⟨hd, by obtain ⟨vL, vV, hr⟩ := h.rd; exact ⟨vL, vV, hr.kp h.dct hK⟩, kp_other h.dct hK h.pair (by decide), hK.below h.below h.below.size h.base, by rw [hb]; exact h.base, h.bE, h.len⟩
theorem Sm.hr (h : Sm w X D R E ia ib x) : ∀ b, some E = some b → ∃ cur, x.heap[b]? = some (.cells cur 98 (0, 0)) := by
  obtain ⟨vL, vV, hr⟩ := h.rd
  intro b hb
  injection hb with hb
  subst hb
  exact ⟨_, hr.head⟩
theorem Sm.doc {ib' : List Im} (h : Sm w X D R E ia ib x) (hr : ∃ vL vV, Rd E (ib'.map Im.e) vL (ib'.map Im.v) vV y) (G : x.grownBy y (some E)) (hl : ib'.map Im.b = ib.map Im.b) : Sm w X D R E ia ib' y :=
  ⟨row_dct G h.hr (by decide) (by decide) (by decide) h.dct, hr, row_other G h.hr h.pair (by decide), h.below.grown G h.below.size (fun j hj => by injection hj with hj; subst hj; exact h.bE), h.base, h.bE, by have := congrArg List.length hl; simp at this; rw [this]; exact h.len⟩
end
theorem load_rd (x : World) (X k : Nat) (p : Option Addr) (hc : x.cell? ⟨X, k, none⟩ = some (.pointer p)) : (loadVar 54 ⟨X, k, none⟩).run Tryz.prog x = .ok (.pointer p) x := by
  simp [go_sem, run_underlying Tryz.underlying54, hc]
end Go.Proofs.YtahfnknbmikmkaaGreat
namespace Go.Proofs.YtahfnknbmikmkaaGreat
open Go.RowKit Go.Proofs.Ty Go.Sort Go.Lib
set_option linter.unusedVariables false
set_option maxRecDepth 1000000
set_option linter.unusedSimpArgs false
theorem insP_perm (L : List En) (x : En) : (insP L x).Perm (L ++ [x]) := by
  induction L with
  | nil => exact List.Perm.refl _
  | cons y r ih =>
    rw [insP]
    split
    · exact ih.cons y
    · exact (List.perm_append_comm (l₁ := [x]) (l₂ := y :: r))
theorem insL_perm (acc l : List En) : (insL acc l).Perm (acc ++ l.map En.plain) := by
  induction l generalizing acc with
  | nil => simp [insL]
  | cons e r ih =>
    rw [insL]
    refine (ih _).trans ?_
    rw [List.map_cons]
    have := (insP_perm acc e.plain).append_right (r.map En.plain)
    simpa using this
theorem insP_sorted {L : List En} (h : L.Pairwise (fun a b => a.pl < b.pl)) {x : En} (hx : ∀ y ∈ L, y.pl ≠ x.pl) : (insP L x).Pairwise (fun a b => a.pl < b.pl) := by
  induction L with
  | nil => simp [insP]
  | cons y r ih =>
    obtain ⟨h1, h2⟩ := List.pairwise_cons.1 h
    rw [insP]
    split
    · rename_i hlt
      refine List.pairwise_cons.2 ⟨fun z hz => ?_, ih h2 (fun z hz => hx z (List.mem_cons_of_mem _ hz))⟩
      rcases List.mem_append.1 ((insP_perm r x).mem_iff.1 hz) with h3 | h3
      · exact h1 z h3
      · obtain rfl := List.mem_singleton.1 h3; exact hlt
    · rename_i hge
      have := hx y List.mem_cons_self
      refine List.pairwise_cons.2 ⟨fun z hz => ?_, h⟩
      rcases List.mem_cons.1 hz with rfl | h3
      · omega
      · have := h1 z h3; omega
theorem plain_pl (e : En) : e.plain.pl = e.pl := rfl
theorem insL_sorted {acc l : List En} (h : acc.Pairwise (fun a b => a.pl < b.pl)) (hn : ((acc ++ l).map En.pl).Nodup) : (insL acc l).Pairwise (fun a b => a.pl < b.pl) := by
  induction l generalizing acc with
  | nil => exact h
  | cons e r ih =>
    rw [insL]
    refine ih (insP_sorted h (fun y hy => ?_)) ?_
    · rw [List.map_append, List.nodup_append] at hn
      have := hn.2.2 y.pl (List.mem_map.2 ⟨y, hy, rfl⟩) e.pl (List.mem_map.2 ⟨e, List.mem_cons_self, rfl⟩)
      rw [plain_pl]; exact this
    · have p1 : ((insP acc e.plain ++ r).map En.pl).Perm ((acc ++ e :: r).map En.pl) := by
        have := ((insP_perm acc e.plain).append_right r).map En.pl
        refine this.trans ?_
        simp [plain_pl]
      exact p1.nodup_iff.2 hn
/-- Both dictionaries have the same entries in the same order, at first. -/
theorem ins_its {its : List Im} {l : List En} (hs : its.Pairwise (fun a b => a.e.pl < b.e.pl)) (hp : (its.map Im.e).Perm (l.map En.plain)) (hn : (l.map En.pl).Nodup) : insL [] l = its.map Im.e :=
  sorted_eq (insL_sorted (by simp) (by simpa using hn)) (List.pairwise_map.2 hs) ((insL_perm [] l).trans hp.symm)
theorem ok_its {its : List Im} {l : List En} (hc : chkL l = 0) (hp : (its.map Im.e).Perm (l.map En.plain)) (hv : ∀ i ∈ its, i.v = i.e.df) : ∀ i ∈ its, Ok i := by
  intro i hi
  have h1 : i.e ∈ l.map En.plain := hp.mem_iff.1 (List.mem_map.2 ⟨i, hi, rfl⟩)
  obtain ⟨e, he, h2⟩ := List.mem_map.1 h1
  have := ok_new (chkG_all (chkL_ok hc).2.2 e he) i.b
  rw [h2] at this
  have h3 := hv i hi
  obtain ⟨b, e', v⟩ := i
  simp only at h3 this ⊢
  rw [h3]
  exact this
end Go.Proofs.YtahfnknbmikmkaaGreat
namespace Go.Proofs.YtahfnknbmikmkaaGreat
open Go.RowKit Go.Proofs.Ty Go.Sort Go.Lib
set_option linter.unusedVariables false
set_option maxRecDepth 1000000
set_option linter.unusedSimpArgs false
theorem Sm.start {w : World} {l : List En} {X D R E : Nat} {its : List Im} {vL vV : Value} {x : World} (h : Bg w X D R E its l vL vV x) (hc : chkL l = 0) : Sm w X D R E its its x ∧ ∀ i ∈ its, Ok i := by
  have e1 := ins_its h.dct.sorted h.perm (chkL_ok hc).2.1
  have e2 : (its.map Im.e).map En.df = its.map Im.v := by
    rw [List.map_map]
    apply List.map_congr_left
    intro i hi
    exact (h.vals i hi).symm
  have hr := h.rd
  rw [e1, e2] at hr
  exact ⟨⟨h.dct, ⟨vL, vV, hr⟩, h.pair, h.below, (fun b hb => by obtain ⟨i, hi, rfl⟩ := List.mem_map.1 hb; exact h.base i hi), h.bE, h.dct.len⟩, ok_its hc h.perm h.vals⟩
end Go.Proofs.YtahfnknbmikmkaaGreat
namespace Go.Proofs.YtahfnknbmikmkaaGreat
open Go.RowKit Go.Proofs.Ty Go.Sort Go.Lib
set_option linter.unusedVariables false
set_option maxRecDepth 1000000
set_option linter.unusedSimpArgs false
def zE14 : Array Value := #[.int .u16 0, .int .u8 0, .int .i64 0, .bool false, .bool false, .int .i64 0, .int .u64 0, .string ⟨#[]⟩, .int .i64 0, .int .u64 0, .string ⟨#[]⟩, .int .i64 0, .int .u64 0, .string ⟨#[]⟩]
theorem wp_allocE {o : Oper} {a : Act} {w : World} {K : Act → World → Prop} {Q : Exit → Act → World → Prop} (ho : o.op = .alloc 93) (h : K (a.put o.dst (.pointer (some ⟨w.heap.size, 0, none⟩))) (w.alloc (.cells zE14 93))) : o.wp Tryz.prog a w K Q := by
  obtain ⟨i0, hi0, hz0⟩ : ∃ i0, Tryz.prog.info? 93 = some i0 ∧ i0.zero = some (.agg zE14) := by
    have : (Tryz.prog.info? 93).map (·.zero) = some (some (.agg zE14)) := by kernel_rfl
    cases hh : Tryz.prog.info? 93 with
    | none => rw [hh] at this; cases this
    | some i0 => rw [hh] at this; exact ⟨i0, rfl, by simpa using this⟩
  unfold Oper.wp execOp
  simp [ho, go_sem, Instr.alloc, zeroValue, typeInfo, hi0, hz0, Value.cells]
  exact h
/-- A piece of the code, cut off behind it. -/
theorem wp_cut {α : Type} {c : Code} {a : Act} {w : World} {Q' : Exit → Act → World → Prop} (I : α → World → Prop) (F : Act → α → Act) (h1 : c.wp Tryz.prog (fun e b y => e = .normal ∧ ∃ u, b = F a u ∧ I u y) a w) (h2 : ∀ u y, I u y → Q' .normal (F a u) y) : c.wp Tryz.prog Q' a w :=
  Code.wp_mono (fun e b y h => by obtain ⟨rfl, u, rfl, hI⟩ := h; exact h2 u y hI) h1
end Go.Proofs.YtahfnknbmikmkaaGreat
namespace Go.Proofs.YtahfnknbmikmkaaGreat
open Go.RowKit Go.Proofs.Ty
set_option linter.unusedVariables false
set_option maxRecDepth 1000000
set_option linter.unusedSimpArgs false
def En.nul : En := ⟨0, 0, 0, false, false, Vl.nul, Vl.nul, Vl.nul, by decide, by decide, by decide⟩
/-- What Entry tells. -/
def entO (its : List Im) (ix sb : Nat) : En × Bool := match fnd its ix sb with
  | none => (En.nul, false)
  | some i => (i.e, true)
set_option maxHeartbeats 4000000 in
theorem Entry_any {D R : Nat} {its : List Im} {w : World} (h : Dct D R its w) (ix sb : Nat) (h1 : ix < 65536) (h2 : sb < 256) :
    Calls Tryz.prog 40 #[.pointer (some ⟨D, 0, none⟩), .int .u16 (ix : Int), .int .u8 (sb : Int)] w fun e w' => e = .returned (.tuple #[.agg (entO its ix sb).1.arr, .bool (entO its ix sb).2]) ∧ Below w.heap.size w w' := by
  cases hf : fnd its ix sb with
  | some i =>
    have e : entO its ix sb = (i.e, true) := by unfold entO; rw [hf]
    rw [e]
    exact Entry_some h ix sb h1 h2 hf
  | none =>
    have e : entO its ix sb = (En.nul, false) := by unfold entO; rw [hf]
    rw [e]
    show Calls Tryz.prog 40 #[.pointer (some ⟨D, 0, none⟩), .int .u16 (ix : Int), .int .u8 (sb : Int)] w fun e w' => e = .returned (.tuple #[.agg En.nul.arr, .bool false]) ∧ Below w.heap.size w w'
    obtain ⟨q, hq⟩ : ∃ q, w.heap.size = q := ⟨_, rfl⟩
    have hh : (w.alloc (.cells zE14 93)).heap[q]? = some (.cells zE14 93 (0, 0)) := by rw [← hq]; exact heap_alloc_new w _
    have bA : Below w.heap.size w (w.alloc (.cells zE14 93)) := (Below.refl _ _).alloc (Nat.le_refl _) _
    have h0 := h.below bA
    have hF := find_none h0 ix sb h1 h2 hf
    have d1 : ((noc its ix : Int) != 0) = true := by have := noc_ne its ix; simp; omega
    have s0 := bA.size
    generalize noc its ix = C at *
    clear h h0 hf e
    go_enter Tryz.func40, Tryz.ntmps40
    go_upto_region 1 with fail
    change Code.wp Tryz.prog _ _ _ (w.alloc (.cells zE14 93))
    generalize (w.alloc (.cells zE14 93)) = W at *
    try simp only [hq]
    go_wp2_with fail
    refine hF.mono ?_
    rintro e w1 ⟨rfl, b1⟩
    have hh1 : w1.heap[q]? = some (.cells zE14 93 (0, 0)) := (b1.block q (Array.getElem?_eq_some_iff.1 hh).1).trans hh
    have B1 := bA.trans (b1.mono s0)
    have hE := Eb.row hh1 En.nul
    have B2 := below_row B1 (by omega) B1.size (q := q) En.nul.arr
    clear hF bA b1 B1 hh
    go_wp2_with (first | (refine sdE hh1 rfl En.nul rfl _ _ rfl rfl rfl ?_))
    exact bodyPost_ret (ent_results hE _ rfl rfl) rfl ⟨rfl, by first | exact B2 | (rw [← hq] at B2 ⊢; exact B2)⟩
section
variable {S D R : Nat} {s : Ss} {ao : Option Addr} {cp : Nat} {its : List Im} {w : World}
set_option maxHeartbeats 4000000 in
theorem leave_any (h : Pb S D s ao cp w) (hd : Dct D R its w) (ix sb : Nat) (h1 : ix < 65536) (h2 : sb < 256) : Calls Tryz.prog 129 #[.pointer (some ⟨S, 0, none⟩), .agg (spA ix sb)] w fun e w' => e = .returned (.int .u32 (leaC its ix sb : Nat)) ∧ Below w.heap.size w w' := by
  obtain ⟨q, hq⟩ : ∃ q, w.heap.size = q := ⟨_, rfl⟩
  obtain ⟨W, hW⟩ : ∃ W, w.alloc (.cells (spA ix sb) 87) = W := ⟨_, rfl⟩
  have b0 : Below w.heap.size w W := hW ▸ (Below.refl _ _).alloc (Nat.le_refl _) _
  have p0 : Sp q ix sb W := by rw [← hq, ← hW]; exact Sp.new w ix sb
  have k0 : ∀ y : Later W, y.now.cell? ⟨q, 0, none⟩ = some (.int .u16 (ix : Int)) := fun y => (p0.below y.below).c0
  have k1 : ∀ y : Later W, y.now.cell? ⟨q, 1, none⟩ = some (.int .u8 (sb : Int)) := fun y => (p0.below y.below).c1
  have k2 : ∀ y : Later W, y.now.cell? ⟨S, 0, none⟩ = some (.pointer (some ⟨D, 0, none⟩)) := fun y => ((h.below b0).below y.below).c.1
  have HC : Hid (leaC its ix sb = if wc its ix sb [] = 100794368 ∨ wc its ix sb [] = 101253137 ∨ wc its ix sb [] = 100728834 then wc its ix sb [] else 0) := rfl
  have hM : ∀ y : Later W, Calls Tryz.prog 136 #[.pointer (some ⟨D, 0, none⟩), .int .u16 (ix : Int), .int .u8 (sb : Int), .slice none 0 0] y.now fun e w'' => e = .returned (.int .u32 (wc its ix sb [] : Nat)) ∧ ∃ z : Later W, w'' = z.now := fun y => later (May_any ((hd.below b0).below y.below) ix sb h1 h2 _ [] (bytes_nil _))
  have hLq := Later.some W
  have HB := hidOf2 b0
  generalize leaC its ix sb = L at *
  generalize wc its ix sb [] = C at *
  clear h hd p0 b0
  go_enter Tryz.func129, Tryz.ntmps129
  go_upto_region 1 with fail
  refine wp_region_later (by kernel_rfl) (by kernel_rfl) ?_
  repeat (go_big_quiet_step (first | (go_at_call 136; with_reducible exact hM _)))
  refine wpQuiet_nil ?_
  rintro _ ⟨x1, rfl⟩
  have HB1 := hidOf2 (HB.out.trans (x1.below.mono HB.out.size))
  clear k0 k1 k2 hM HB
  generalize x1.now = Y at *
  by_cases e1 : C = 100794368
  · have d1 : ((C : Int) == 100794368) = true := by simp; omega
    go_wp2
    go_ret
    exact ⟨ret_int (by rw [HC.out, if_pos (.inl e1)]), HB1.out⟩
  · have d1 : ((C : Int) == 100794368) = false := by simp; omega
    by_cases e2 : C = 101253137
    · have d2 : ((C : Int) == 101253137) = true := by simp; omega
      go_wp2
      go_ret
      exact ⟨ret_int (by rw [HC.out, if_pos (.inr (.inl e2))]), HB1.out⟩
    · have d2 : ((C : Int) == 101253137) = false := by simp; omega
      by_cases e3 : C = 100728834
      · have d3 : ((C : Int) == 100728834) = true := by simp; omega
        go_wp2
        go_ret
        exact ⟨ret_int (by rw [HC.out, if_pos (.inr (.inr e3))]), HB1.out⟩
      · have d3 : ((C : Int) == 100728834) = false := by simp; omega
        go_wp2
        go_ret
        exact ⟨ret_int (by rw [HC.out, if_neg (by rintro (h | h | h); exact e1 h; exact e2 h; exact e3 h)]; rfl), HB1.out⟩
theorem and1 : ∀ n < 256, bits .and .u8 ((n : Nat) : Int) 1 = ((n % 2 : Nat) : Int) := by decide +kernel
theorem and3 : ∀ n < 256, bits .and .u8 (((n : Nat) : Int) / 4) 3 = ((n / 4 % 4 : Nat) : Int) := by decide +kernel
theorem enterEn : ∀ args x, (callFunc 40 args).run Tryz.prog x = .ok (.enter 40 args) x := fun _ _ => by rfl
set_option maxHeartbeats 8000000 in
theorem count_any (h : Pb S D s ao cp w) (hd : Dct D R its w) (q : F8) : Calls Tryz.prog 110 #[.pointer (some ⟨S, 0, none⟩), .agg q.arr] w fun e w' => e = .returned (.int .i64 (cnt its q : Nat)) ∧ Below w.heap.size w w' := by
  obtain ⟨k, hk⟩ : ∃ k, w.heap.size = k := ⟨_, rfl⟩
  obtain ⟨W, hW⟩ : ∃ W, w.alloc (.cells q.arr 32) = W := ⟨_, rfl⟩
  have b0 : Below w.heap.size w W := hW ▸ (Below.refl _ _).alloc (Nat.le_refl _) _
  have q0 : Qb k q W := by rw [← hk, ← hW]; exact Qb.new w q
  have c0 := q0.c0
  have l0 := q0.load
  have hb0 := q.b0.toNat_lt
  have a1 := and1 _ hb0
  have a3 := and3 _ hb0
  have hso : ∀ V, Calls Tryz.prog 67 #[.agg q.arr] V fun e w' => e = .returned (.agg (spA (pix q) (psb q))) ∧ Below V.heap.size V w' := spotOf_any q
  have HB0 := hidOf2 b0
  have h0 := hidOf2 (h.below b0)
  have d0 := hidOf2 (hd.below b0)
  have hix := pix_lt q
  have hsb := psb_lt q
  have hcn : cnt its q = if q.b0.toNat % 2 = 1 then 4 - q.b0.toNat / 4 % 4 else if 0 < siz (entO its (pix q) (psb q)).1.df.t ∧ siz (entO its (pix q) (psb q)).1.df.t ≤ 4 then siz (entO its (pix q) (psb q)).1.df.t else 4 := by
    unfold cnt entO
    split
    · rfl
    · cases fnd its (pix q) (psb q) with
      | none => rfl
      | some i => rfl
  have HCN := hidOf2 hcn
  generalize cnt its q = C at *
  generalize pix q = ix at *
  generalize psb q = sb at *
  generalize q.b0.toNat = n at *
  clear h hd b0 hcn
  by_cases hn : n % 2 = 1
  · have d1 : (((n % 2 : Nat) : Int) != 0) = true := by simp; omega
    obtain ⟨m, hm⟩ : ∃ m, n % 2 = m := ⟨_, rfl⟩
    obtain ⟨m2, hm2⟩ : ∃ m, n / 4 % 4 = m := ⟨_, rfl⟩
    have hm4 : m2 < 4 := by omega
    rw [hm] at a1 d1
    rw [hm2] at a3
    go_enter Tryz.func110, Tryz.ntmps110
    go_wp2
    go_ret
    exact ⟨ret_int (by rw [HCN.out, if_pos hn, hm2]; omega), HB0.out⟩
  · have d1 : (((n % 2 : Nat) : Int) != 0) = false := by simp; omega
    obtain ⟨m, hm⟩ : ∃ m, n % 2 = m := ⟨_, rfl⟩
    rw [hm] at a1 d1
    go_enter Tryz.func110, Tryz.ntmps110
    go_wp2_with (first | (refine ldG l0 rfl _ rfl rfl ?_))
    refine (hso _).mono ?_
    rintro e w1 ⟨rfl, b1⟩
    obtain ⟨p, hp⟩ : ∃ p, w1.heap.size = p := ⟨_, rfl⟩
    have z1 : Sp p 0 0 (w1.alloc (.cells (spA 0 0) 87)) := by rw [← hp]; exact Sp.new w1 0 0
    have bz : Below w1.heap.size w1 (w1.alloc (.cells (spA 0 0) 87)) := (Below.refl _ _).alloc (Nat.le_refl _) _
    have bz2 := below_row bz (by omega) (by rw [size_alloc]; omega) (q := p) (spA ix sb)
    have z2 := z1.row ix sb
    have HZ : Hid (∀ X, X = (w1.alloc (.cells (spA 0 0) 87)).setRow p (spA ix sb) → Sp p ix sb X ∧ Below w1.heap.size w1 X) := fun X hX => by subst hX; exact ⟨z2, bz2⟩
    clear z2 bz2 bz l0 c0 q0
    go_upto_region 4 with (first | (refine sdS (jx := ix) (tb := sb) z1 rfl _ _ rfl rfl rfl ?_))
    change Code.wp Tryz.prog _ _ _ ((w1.alloc (.cells (spA 0 0) 87)).setRow p (spA ix sb))
    generalize hX : (w1.alloc (.cells (spA 0 0) 87)).setRow p (spA ix sb) = wb
    obtain ⟨p2, b2⟩ := HZ.out wb hX.symm
    have b12 := b1.trans (b2.mono b1.size)
    have HB2 := hidOf2 (HB0.out.trans (b12.mono HB0.out.size))
    have H2 := hidOf2 (h0.out.below b12)
    have D2 := hidOf2 (d0.out.below b12)
    clear HZ hX z1 hso b1 b2 b12 h0 d0 HB0
    obtain ⟨en, hen⟩ : ∃ en, entO its ix sb = en := ⟨_, rfl⟩
    have HEN : Hid (∀ y, Below wb.heap.size wb y → Calls Tryz.prog 40 #[.pointer (some ⟨D, 0, none⟩), .int .u16 (ix : Int), .int .u8 (sb : Int)] y fun e w' => e = .returned (.tuple #[.agg en.1.arr, .bool en.2]) ∧ Below y.heap.size y w') := fun y hb => hen ▸ Entry_any (D2.out.below hb) ix sb hix hsb
    rw [hen] at HCN
    have HSS : Hid (∀ y, Below wb.heap.size wb y → (fun y => y.cell? ⟨S, 0, none⟩ = some (.pointer (some ⟨D, 0, none⟩)) ∧ y.cell? ⟨p, 0, none⟩ = some (.int .u16 (ix : Int)) ∧ y.cell? ⟨p, 1, none⟩ = some (.int .u8 (sb : Int))) y) := fun y hb => ⟨(H2.out.below hb).c.1, (p2.below hb).c0, (p2.below hb).c1⟩
    have c0 : Below wb.heap.size wb wb.drew := bdr (Below.refl _ _) 1
    have S0 := HSS.out _ c0
    clear p2 H2 D2
    refine wp_cut (α := Nat) (fun u y => Eb u en.1 y ∧ Below wb.heap.size wb y) (fun a u => ((((((((((((((a.put (some 23) (.pointer (some ⟨S, 0, none⟩))).put (some 24) (.pointer (some ⟨S, 0, none⟩))).put (some 25) (.pointer (some ⟨S, 0, none⟩))).put (some 26) (.pointer (some ⟨D, 0, none⟩))).put (some 27) (.pointer (some ⟨p, 0, none⟩))).put (some 28) (.int .u16 (ix : Int))).put (some 29) (.pointer (some ⟨p, 1, none⟩))).put (some 30) (.int .u8 (sb : Int))).put (some 31) (.tuple #[.agg (en.1).arr, .bool en.2])).put (some 22) (.tuple #[.agg (en.1).arr, .bool en.2])).put (some 32) (.agg (en.1).arr)).put (some 33) (.bool en.2)).put (some 6) (.pointer (some ⟨u, 0, none⟩))).put (some 7) (.bool en.2))) ?_ ?_
    · refine wp_region_held (S := fun y => y.cell? ⟨S, 0, none⟩ = some (.pointer (some ⟨D, 0, none⟩)) ∧ y.cell? ⟨p, 0, none⟩ = some (.int .u16 (ix : Int)) ∧ y.cell? ⟨p, 1, none⟩ = some (.int .u8 (sb : Int))) (by kernel_rfl) ?_
      change wpAnyH _ _ _ _ _ _ _ _ wb.drew
      refine tk 0 (.pointer (some ⟨S, 0, none⟩)) rfl (by kernel_rfl) (fun _ _ _ h => nomatch h.1) rfl (fun _ hS => rfl) S0 ?_
      simp only [zzA, zzB, zzC, Act.put, zzD, zzE, zzF]
      refine tk 1 (.pointer (some ⟨S, 0, none⟩)) rfl (by kernel_rfl) (fun _ _ _ h => nomatch h.1) rfl (fun _ hS => by simp [execOp, go_sem, Act.eval]) S0 ?_
      simp only [zzA, zzB, zzC, Act.put, zzD, zzE, zzF]
      refine tk 2 (.pointer (some ⟨S, 0, none⟩)) rfl (by kernel_rfl) (fun _ _ _ h => nomatch h.1) rfl (fun _ hS => by simp [execOp, go_sem, Act.eval]) S0 ?_
      simp only [zzA, zzB, zzC, Act.put, zzD, zzE, zzF]
      refine tk 3 (.pointer (some ⟨D, 0, none⟩)) rfl (by kernel_rfl) (fun _ _ _ h => nomatch h.1) rfl (fun _ hS => exec_load rfl rfl (load_pd _ _ _ _ hS.1)) S0 ?_
      simp only [zzA, zzB, zzC, Act.put, zzD, zzE, zzF]
      refine tk 4 (.pointer (some ⟨p, 0, none⟩)) rfl (by kernel_rfl) (fun _ _ _ h => nomatch h.1) rfl (fun _ hS => by simp [execOp, go_sem, Act.eval]) S0 ?_
      simp only [zzA, zzB, zzC, Act.put, zzD, zzE, zzF]
      refine tk 5 (.int .u16 (ix : Int)) rfl (by kernel_rfl) (fun _ _ _ h => nomatch h.1) rfl (fun _ hS => exec_load rfl rfl (load_u16 _ _ _ _ hS.2.1)) S0 ?_
      simp only [zzA, zzB, zzC, Act.put, zzD, zzE, zzF]
      refine tk 6 (.pointer (some ⟨p, 1, none⟩)) rfl (by kernel_rfl) (fun _ _ _ h => nomatch h.1) rfl (fun _ hS => by simp [execOp, go_sem, Act.eval]) S0 ?_
      simp only [zzA, zzB, zzC, Act.put, zzD, zzE, zzF]
      refine tk 7 (.int .u8 (sb : Int)) rfl (by kernel_rfl) (fun _ _ _ h => nomatch h.1) rfl (fun _ hS => exec_load rfl rfl (load_u8 _ _ _ _ hS.2.2)) S0 ?_
      simp only [zzA, zzB, zzC, Act.put, zzD, zzE, zzF]
      refine wpAnyH_all (rs := [8, 12]) (by kernel_rfl) (by simp) ?_
      intro k hk
      simp only [List.mem_cons, List.mem_nil_iff, or_false] at hk
      rcases hk with rfl | rfl
      · refine wpOp_run rfl rfl (wp_call_fn 40 #[.pointer (some ⟨D, 0, none⟩), .int .u16 (ix : Int), .int .u8 (sb : Int)] (by simp [execOp, go_sem, Act.eval, resolve, invoke, enterEn]) ?_)
        refine (HEN.out wb.drew c0).mono ?_
        rintro e u1 ⟨rfl, b1⟩
        have c1 := c0.trans (b1.mono c0.size)
        have s1 := HSS.out _ c1
        refine ⟨s1, ?_⟩
        simp only [zzA, zzB, zzC, Act.put, zzD, zzE, zzF]
        refine tk 9 (.tuple #[.agg (en.1).arr, .bool en.2]) rfl (by kernel_rfl) (fun _ _ _ h => nomatch h.1) rfl (fun _ hS => rfl) s1 ?_
        simp only [zzA, zzB, zzC, Act.put, zzD, zzE, zzF]
        refine tk 10 (.agg (en.1).arr) rfl (by kernel_rfl) (fun _ _ _ h => nomatch h.1) rfl (fun _ hS => by simp [execOp, go_sem, Act.eval]) s1 ?_
        simp only [zzA, zzB, zzC, Act.put, zzD, zzE, zzF]
        refine tk 11 (.bool en.2) rfl (by kernel_rfl) (fun _ _ _ h => nomatch h.1) rfl (fun _ hS => by simp [execOp, go_sem, Act.eval]) s1 ?_
        simp only [zzA, zzB, zzC, Act.put, zzD, zzE, zzF]
        refine wpAnyH_all (rs := [12]) (by kernel_rfl) (by simp) ?_
        intro k hk
        simp only [List.mem_cons, List.mem_nil_iff, or_false] at hk
        subst hk
        refine wpOp_run rfl rfl (wp_allocE rfl ?_)
        obtain ⟨qv, hqv⟩ : ∃ q, u1.heap.size = q := ⟨_, rfl⟩
        have g2 := heap_alloc_new u1 (.cells zE14 93)
        have c2 := c1.alloc c1.size (.cells zE14 93)
        have s2 := HSS.out _ c2
        have hqr : wb.heap.size ≤ qv := by rw [← hqv]; exact c1.size
        rw [hqv] at g2 ⊢
        generalize u1.alloc (.cells zE14 93) = u2 at *
        refine ⟨s2, ?_⟩
        simp only [zzA, zzB, zzC, Act.put, zzD, zzE, zzF]
        refine wpAnyH_all (rs := [13]) (by kernel_rfl) (by simp) ?_
        intro k hk
        simp only [List.mem_cons, List.mem_nil_iff, or_false] at hk
        subst hk
        refine wpOp_run rfl rfl (wp_store_row 93 _ _ rfl qv (en.1).arr rfl rfl 93 zE14 g2 (by show _ = some 14; exact infoE) rfl (all_oneCell_toArray (en.1).one) ?_)
        have gZ := Eb.row g2 (en.1)
        have cZ := below_row c2 hqr c2.size (q := qv) (en.1).arr
        have sZ := HSS.out _ cZ
        refine ⟨sZ, ?_⟩
        simp only [zzA, zzB, zzC, Act.put, zzD, zzE, zzF]
        refine tk 14 (.bool en.2) rfl (by kernel_rfl) (fun _ _ _ h => nomatch h.1) rfl (fun _ hS => rfl) sZ ?_
        simp only [zzA, zzB, zzC, Act.put, zzD, zzE, zzF]
        refine wpAnyH_done (by kernel_rfl) ?_ _
        exact ⟨rfl, qv, rfl, gZ, cZ⟩
      · refine wpOp_run rfl rfl (wp_allocE rfl ?_)
        obtain ⟨qv, hqv⟩ : ∃ q, wb.drew.heap.size = q := ⟨_, rfl⟩
        have g1 := heap_alloc_new wb.drew (.cells zE14 93)
        have c1 := c0.alloc c0.size (.cells zE14 93)
        have s1 := HSS.out _ c1
        have hqr : wb.heap.size ≤ qv := by rw [← hqv]; exact c0.size
        rw [hqv] at g1 ⊢
        generalize wb.drew.alloc (.cells zE14 93) = u1 at *
        refine ⟨s1, ?_⟩
        simp only [zzA, zzB, zzC, Act.put, zzD, zzE, zzF]
        refine wpAnyH_all (rs := [8]) (by kernel_rfl) (by simp) ?_
        intro k hk
        simp only [List.mem_cons, List.mem_nil_iff, or_false] at hk
        subst hk
        refine wpOp_run rfl rfl (wp_call_fn 40 #[.pointer (some ⟨D, 0, none⟩), .int .u16 (ix : Int), .int .u8 (sb : Int)] (by simp [execOp, go_sem, Act.eval, resolve, invoke, enterEn]) ?_)
        refine (HEN.out u1 c1).mono ?_
        rintro e u2 ⟨rfl, b2⟩
        have c2 := c1.trans (b2.mono c1.size)
        have s2 := HSS.out _ c2
        have g2 := (b2.block qv (Array.getElem?_eq_some_iff.1 g1).1).trans g1
        refine ⟨s2, ?_⟩
        simp only [zzA, zzB, zzC, Act.put, zzD, zzE, zzF]
        refine tk 9 (.tuple #[.agg (en.1).arr, .bool en.2]) rfl (by kernel_rfl) (fun _ _ _ h => nomatch h.1) rfl (fun _ hS => rfl) s2 ?_
        simp only [zzA, zzB, zzC, Act.put, zzD, zzE, zzF]
        refine tk 10 (.agg (en.1).arr) rfl (by kernel_rfl) (fun _ _ _ h => nomatch h.1) rfl (fun _ hS => by simp [execOp, go_sem, Act.eval]) s2 ?_
        simp only [zzA, zzB, zzC, Act.put, zzD, zzE, zzF]
        refine tk 11 (.bool en.2) rfl (by kernel_rfl) (fun _ _ _ h => nomatch h.1) rfl (fun _ hS => by simp [execOp, go_sem, Act.eval]) s2 ?_
        simp only [zzA, zzB, zzC, Act.put, zzD, zzE, zzF]
        refine wpAnyH_all (rs := [13]) (by kernel_rfl) (by simp) ?_
        intro k hk
        simp only [List.mem_cons, List.mem_nil_iff, or_false] at hk
        subst hk
        refine wpOp_run rfl rfl (wp_store_row 93 _ _ rfl qv (en.1).arr rfl rfl 93 zE14 g2 (by show _ = some 14; exact infoE) rfl (all_oneCell_toArray (en.1).one) ?_)
        have gZ := Eb.row g2 (en.1)
        have cZ := below_row c2 hqr c2.size (q := qv) (en.1).arr
        have sZ := HSS.out _ cZ
        refine ⟨sZ, ?_⟩
        simp only [zzA, zzB, zzC, Act.put, zzD, zzE, zzF]
        refine tk 14 (.bool en.2) rfl (by kernel_rfl) (fun _ _ _ h => nomatch h.1) rfl (fun _ hS => rfl) sZ ?_
        simp only [zzA, zzB, zzC, Act.put, zzD, zzE, zzF]
        refine wpAnyH_done (by kernel_rfl) ?_ _
        exact ⟨rfl, qv, rfl, gZ, cZ⟩
    intro u y hI
    simp only [Act.put, List.setIfInBounds_toArray, List.set_cons_succ, List.set_cons_zero]
    obtain ⟨e3, b3⟩ := hI
    have HB3 := hidOf2 (HB2.out.trans (b3.mono HB2.out.size))
    have ct : y.cell? ⟨u, 11, none⟩ = some (.int .i64 en.1.df.t) := Lib.cell_of_heap e3 11
    have hSz : ∀ V, Calls Tryz.prog 118 #[.int .i64 en.1.df.t] V fun e w' => e = .returned (.tuple #[.int .i64 (siz en.1.df.t), .bool (decide (0 < siz en.1.df.t))]) ∧ w' = V := fun V => Size_any _ V
    clear c0 S0 HSS HEN e3 b3 HB2 hen
    generalize siz en.1.df.t = z at *
    generalize en.1.df.t = tt at *
    go_wp2_with fail
    refine (hSz _).mono ?_
    rintro e w4 ⟨rfl, rfl⟩
    clear hSz
    by_cases g1 : 0 < z
    · have d2 : decide (0 < z) = true := by simpa using g1
      rw [d2]
      by_cases g2 : z ≤ 4
      · have d3 : decide ((z : Int) ≤ 4) = true := by simp; omega
        go_wp2
        go_ret
        exact ⟨ret_int (by rw [HCN.out, if_neg hn, if_pos ⟨g1, g2⟩]), HB3.out⟩
      · have d3 : decide ((z : Int) ≤ 4) = false := by simp; omega
        go_wp2
        go_ret
        exact ⟨ret_int (by rw [HCN.out, if_neg hn, if_neg (fun h => g2 h.2)]; rfl), HB3.out⟩
    · have d2 : decide (0 < z) = false := by simpa using g1
      rw [d2]
      go_wp2
      go_ret
      exact ⟨ret_int (by rw [HCN.out, if_neg hn, if_neg (fun h => g1 h.1)]; rfl), HB3.out⟩
end
end Go.Proofs.YtahfnknbmikmkaaGreat
