/- Contracts: Begins. Contracts: Set. What stays while one entry is written or set; the state of the statement OdApart. Contracts: List; entries held against each other; two dictionaries of the same entries. Contracts: List; entries held against each other; two dictionaries of the same entries. Contracts: List; entries held against each other; two dictionaries of the same entries. Two dictionaries of the same entries: plain facts; their state. What was written is read as it was: plain facts. Saved bytes as a list: plain facts. Saved bytes, cut and loaded: plain facts. Contracts: May, Entry, Reset. The state of the statement OdOrder. -/
import Derived.Test.YtahfnknbmikmkaaGreatKb14
import Derived.Test.YtahfnknbmikmkaaGreatKb9
import Derived.Test.YtahfnknbmikmkaaGreatKb12
import Derived.Test.YtahfnknbmikmkaaGreatKb11
import Derived.Test.YtahfnknbmikmkaaGreatKb1
namespace Go.Proofs.YtahfnknbmikmkaaGreat
open Go.RowKit Go.Proofs.Ty Go.Sort Go.Lib
set_option linter.unusedVariables false
set_option maxRecDepth 1000000
set_option linter.unusedSimpArgs false
theorem build_pair (D E : Nat) (x : World) : (Instr.build 56 #[(0, .pointer (some ⟨D, 0, none⟩)), (1, .pointer (some ⟨E, 0, none⟩))]).run Tryz.prog x = .ok (.agg #[.pointer (some ⟨D, 0, none⟩), .pointer (some ⟨E, 0, none⟩)]) x := by kernel_rfl
/-- What Begins leaves, of entries that can be. -/
structure Bg (w : World) (X D R E : Nat) (its : List Im) (l : List En) (vL vV : Value) (x : World) : Prop where
  pair : x.heap[X]? = some (.cells #[.pointer (some ⟨D, 0, none⟩), .pointer (some ⟨E, 0, none⟩)] 56 (0, 0))
  dct : Dct D R its x
  vals : ∀ i ∈ its, i.v = i.e.df
  perm : (its.map Im.e).Perm (l.map En.plain)
  base : ∀ i ∈ its, w.heap.size ≤ i.b
  bD : w.heap.size ≤ D
  bX : w.heap.size ≤ X
  bE : w.heap.size ≤ E
  rd : Rd E (insL [] l) vL ((insL [] l).map En.df) vV x
  below : Below w.heap.size w x
set_option maxHeartbeats 8000000 in
theorem Begins_any (v : Value) (l : List En) (w : World) (hW : Wide 14 enC w v l) (hn : l.length ≤ 1172812402927) :
    Calls Tryz.prog 34 #[v] w fun x w' => Below w.heap.size w w' ∧ (chkL l ≠ 0 → x = .returned (.tuple #[.pointer none, .bool true])) ∧ (chkL l = 0 → ∃ X D R E its vL vV, x = .returned (.tuple #[.pointer (some ⟨X, 0, none⟩), .bool true]) ∧ Bg w X D R E its l vL vV w') := by
  have HW := hidOf2 hW
  obtain ⟨ao0, cp0, rfl⟩ := hW.shape
  have bA : Below w.heap.size w (w.alloc (.cells #[] 93)) := (Below.refl _ _).alloc (Nat.le_refl _) _
  have hWa := hW.same bA.size (fun b _ hl => bA.block b hl)
  have hown := own0E w
  clear hW
  go_enter Tryz.func34, Tryz.ntmps34
  go_wp2_with (first | (refine bs0E rfl rfl ?_) | (refine apE rfl _ _ rfl w.heap.size (.slice (some ⟨w.heap.size, 0, none⟩) 0 0) [] rfl hown _ l rfl hWa (by simpa using hn) bA.size ?_; intro v2 w1 P1 G1; rw [List.nil_append] at P1))
  have B1 : Below w.heap.size w w1 := bA.grown G1 bA.size (own_lt hown)
  have hN := oNew_any v2 l w1 (wide_of_own DE P1) (by omega)
  clear P1 G1 hown hWa bA
  refine hN.mono ?_
  rintro e w2 ⟨hbad, hgood⟩
  have HG := hidOf2 hgood
  have HB2 := hidOf2 hbad
  clear hN hgood hbad
  by_cases hc : chkL l = 0
  · obtain ⟨D, R, its, rfl, N2⟩ := HG.out hc
    have B2 := B1.trans (N2.below.mono B1.size)
    have hM := (r8New_any (.slice ao0 l.length cp0) l w2 (HW.out.same B2.size (fun b _ hl => B2.block b hl)) (by omega)).mono (fun _ _ h => And.intro h.1 (h.2.2 hc))
    have HN2 := hidOf2 N2
    clear HG HB2 N2
    go_wp2_with fail
    refine hM.mono ?_
    rintro e w3 ⟨b3, E, vL, vV, rfl, hE3, R3⟩
    have B3 := B2.trans (b3.mono B2.size)
    have hC := oCheck_any (.slice ao0 l.length cp0) l w3 (HW.out.same B3.size (fun b _ hl => B3.block b hl)) (by omega)
    rw [hc] at hC
    have HR3 := hidOf2 R3
    clear hM R3
    go_wp2_with fail
    refine hC.mono ?_
    rintro e w4 ⟨rfl, b4⟩
    have B4 := B3.trans (b4.mono B3.size)
    have D4 := (HN2.out.dct.below b3).below b4
    have R4 := HR3.out.below b4
    have bZ : Below w4.heap.size w4 (w4.alloc (.cells #[.pointer (some ⟨D, 0, none⟩), .pointer (some ⟨E, 0, none⟩)] 56)) := (Below.refl _ _).alloc (Nat.le_refl _) _
    have HF : Hid (Bg w w4.heap.size D R E its l vL vV (w4.alloc (.cells #[.pointer (some ⟨D, 0, none⟩), .pointer (some ⟨E, 0, none⟩)] 56))) := 
      ⟨heap_alloc_new _ _, D4.below bZ, HN2.out.vals, HN2.out.perm, fun i hi => Nat.le_trans B1.size (HN2.out.base i hi), Nat.le_trans B1.size HN2.out.bD, B4.size, Nat.le_trans B2.size hE3, R4.below bZ, B4.trans (bZ.mono B4.size)⟩
    have hbp := build_pair D E
    have hcc := hc
    clear hC HN2 HR3 D4 R4 hc b3 b4
    go_wp2
    go_ret2
    exact ⟨HF.out.below, fun h => absurd hcc h, fun _ => ⟨_, D, R, E, its, vL, vV, rfl, HF.out⟩⟩
  · obtain ⟨rfl, b2⟩ := HB2.out hc
    have B2 := B1.trans (b2.mono B1.size)
    have hM := (r8New_any (.slice ao0 l.length cp0) l w2 (HW.out.same B2.size (fun b _ hl => B2.block b hl)) (by omega)).mono (fun _ _ h => And.intro h.1 (h.2.1 hc))
    clear HG HB2
    have HCC := hidOf2 hc
    have HCO := hidOf2 (fun x hb => oCheck_any (.slice ao0 l.length cp0) l x (HW.out.same (Below.size hb) (fun b _ hl => Below.block hb b hl)) (by omega))
    clear hc HW
    go_wp2_with fail
    refine hM.mono ?_
    rintro e w3 ⟨b3, rfl⟩
    have B3 := B2.trans (b3.mono B2.size)
    have hC := HCO.out w3 B3
    clear hM HCO
    go_wp2_with fail
    refine hC.mono ?_
    rintro e w4 ⟨rfl, b4⟩
    have B4 := B3.trans (b4.mono B3.size)
    clear hC
    go_wp2
    go_ret2
    exact ⟨B4, fun _ => rfl, fun h => absurd h HCC.out⟩
end Go.Proofs.YtahfnknbmikmkaaGreat
namespace Go.Proofs.YtahfnknbmikmkaaGreat
open Go.RowKit Go.Proofs.Ty Go.Sort Go.Lib
set_option linter.unusedVariables false
set_option maxRecDepth 1000000
set_option linter.unusedSimpArgs false
/-- What Set tells, and leaves. -/
def setc (its : List Im) (ix sb : Nat) (v : Vl) : Nat := match fnd its ix sb with
  | none => 4
  | some i => if i.e.ac = 3 then 1 else if v.t ≠ i.e.df.t then 1 else v.chk
def sett (its : List Im) (ix sb : Nat) (v : Vl) : List Im := match fnd its ix sb with
  | none => its
  | some i => if setc its ix sb v = 0 then setV its i.b v.plain else its
set_option maxHeartbeats 8000000 in
theorem Set_any {D R : Nat} {its : List Im} {w : World} (h : Dct D R its w) (ix sb : Nat) (h1 : ix < 65536) (h2 : sb < 256) (v : Vl) :
    Calls Tryz.prog 21 #[.pointer (some ⟨D, 0, none⟩), .int .u16 ix, .int .u8 sb, .agg v.arr] w fun e w' => e = .returned (.int .i64 (setc its ix sb v)) ∧ Dct D R (sett its ix sb v) w' ∧ Kp (its.map Im.b) w w' := by
  obtain ⟨q, hq⟩ : ∃ q, w.heap.size = q := ⟨_, rfl⟩
  have f0 : Va q v (w.alloc (.cells v.arr 52)) := hq ▸ Va.new w v
  have bA : Below w.heap.size w (w.alloc (.cells v.arr 52)) := (Below.refl _ _).alloc (Nat.le_refl _) _
  have h0 := h.below bA
  have s0 := bA.size
  have HC : Hid (setc its ix sb v = match fnd its ix sb with
    | none => 4
    | some i => if i.e.ac = 3 then 1 else if v.t ≠ i.e.df.t then 1 else v.chk) := rfl
  have HT : Hid (sett its ix sb v = match fnd its ix sb with
    | none => its
    | some i => if setc its ix sb v = 0 then setV its i.b v.plain else its) := rfl
  generalize sett its ix sb v = ST at *
  generalize setc its ix sb v = SC at *
  cases hf : fnd its ix sb with
  | none =>
    rw [hf] at HC HT
    have hF := find_none h0 ix sb h1 h2 hf
    have d1 : ((noc its ix : Int) != 0) = true := by have := noc_ne its ix; simp; omega
    generalize noc its ix = C at *
    clear hf
    go_enter Tryz.func21, Tryz.ntmps21
    go_upto_region 1 with fail
    generalize (w.alloc (.cells v.arr 52)) = W at *
    go_wp2_with fail
    refine hF.mono ?_
    rintro e w1 ⟨rfl, b1⟩
    have D1 := hidOf2 (h0.below b1)
    have K1 := hidOf2 (Kp.of_below (bs := its.map Im.b) (bA.trans (b1.mono s0)))
    clear hF h0 h bA b1 f0
    go_wp2
    go_ret
    exact ⟨ret_int (by rw [HC.out]; rfl), by rw [HT.out]; exact D1.out, K1.out⟩
  | some i =>
    rw [hf] at HC HT
    have hF := find_some h0 ix sb h1 h2 hf
    have hi := fnd_mem hf
    unfold ptrI at hF
    clear hf
    go_enter Tryz.func21, Tryz.ntmps21
    go_upto_region 1 with fail
    generalize (w.alloc (.cells v.arr 52)) = W at *
    try simp only [hq]
    go_wp2_with fail
    refine hF.mono ?_
    rintro e w1 ⟨rfl, b1⟩
    have D1 := h0.below b1
    have B1 := bA.trans (b1.mono s0)
    have f1 := f0.below b1
    have hI := D1.items i hi
    obtain ⟨_, _, c2, _, _, c11⟩ := hI.c
    have t0 := f1.c0
    have HD1 := hidOf2 D1
    have K1 := hidOf2 (Kp.of_below (bs := its.map Im.b) B1)
    clear hF h0 h bA b1 f0 D1 hI
    by_cases ha : i.e.ac = 3
    · have e1 := hidOf2 (show SC = 1 from HC.out.trans (if_pos ha))
      have e2 := hidOf2 (show ST = its by rw [HT.out, e1.out]; rfl)
      rw [ha] at c2
      clear HC HT
      go_upto_region 4 with fail
      go_quiet (fail)
      go_wp2
      go_ret
      exact ⟨ret_int (by rw [e1.out]; rfl), by rw [e2.out]; exact HD1.out.below (bdr (Below.refl _ _) _), K1.out.trans (Kp.of_below (bdr (Below.refl _ _) _))⟩
    · have da : (i.e.ac == 3) = false := by simpa using ha
      have HC2 := hidOf2 (HC.out.trans (if_neg ha))
      clear HC
      generalize i.e.ac = A at *
      by_cases ht : v.t = i.e.df.t
      · have HC3 := hidOf2 (show SC = v.chk from HC2.out.trans (if_neg (by simpa using ht)))
        have dt : (v.t != i.e.df.t) = false := by simpa using ht
        clear HC2 ht
        go_upto_region 4 with fail
        go_quiet (fail)
        have hC := Check_v v (w1.drewN nq)
        have f2 : Va q v (w1.drewN nq) := f1
        have B2 : Below w.heap.size w (w1.drewN nq) := bdr B1 nq
        have HD2 := hidOf2 (HD1.out.below (bdr (Below.refl _ _) nq))
        clear c2 c11 t0 HD1 K1 f1 B1
        generalize w1.drewN nq = w2 at *
        clear nq
        go_wp2_with (first | (refine f2.ld rfl _ rfl rfl ?_))
        refine hC.mono ?_
        rintro e w3 ⟨rfl, b3⟩
        have f3 := f2.below b3
        have B3 := B2.trans (b3.mono B2.size)
        have HD3 := hidOf2 (HD2.out.below b3)
        clear hC f2 B2 b3 HD2
        by_cases hk : v.chk = 0
        · rw [hk] at HC3 ⊢
          have hP := Plain_v v w3
          go_wp2_with (first | (refine f3.ld rfl _ rfl rfl ?_))
          refine hP.mono ?_
          rintro e w4 ⟨rfl, b4⟩
          have B4 := B3.trans (b4.mono B3.size)
          have D4 := HD3.out.below b4
          have hI4 := D4.items i hi
          have ht4 := hI4.there
          have D5 := hidOf2 (D4.set hi v.plain)
          have K5 := hidOf2 ((Kp.of_below (bs := its.map Im.b) B4).trans (Kp.set (List.mem_map.2 ⟨i, hi, rfl⟩) 14 (vlC v.plain)))
          have e2 := hidOf2 (show ST = setV its i.b v.plain by rw [HT.out, HC3.out]; rfl)
          clear hP f3 B3 HD3 D4 hI4 b4 B4 HT
          go_wp2_with (first | (refine sdV ht4 v.plain rfl _ _ rfl rfl rfl ?_))
          go_ret
          exact ⟨ret_int (by rw [HC3.out]; rfl), by rw [e2.out]; exact D5.out, K5.out⟩
        · have dk : ((v.chk : Int) != 0) = true := by simpa using hk
          have e2 := hidOf2 (show ST = its by rw [HT.out, HC3.out]; exact if_neg hk)
          have K3 := hidOf2 (Kp.of_below (bs := its.map Im.b) B3)
          clear HT
          generalize v.chk = CK at *
          go_wp2
          go_ret
          exact ⟨ret_int (by rw [HC3.out]), by rw [e2.out]; exact HD3.out, K3.out⟩
      · have e1 := hidOf2 (show SC = 1 from HC2.out.trans (if_pos (by simpa using ht)))
        have e2 := hidOf2 (show ST = its by rw [HT.out, e1.out]; rfl)
        have dt : (v.t != i.e.df.t) = true := by simpa using ht
        clear HC2 HT
        go_upto_region 4 with fail
        go_quiet (fail)
        go_wp2
        go_ret
        exact ⟨ret_int (by rw [e1.out]; rfl), by rw [e2.out]; exact HD1.out.below (bdr (Below.refl _ _) _), K1.out.trans (Kp.of_below (bdr (Below.refl _ _) _))⟩
end Go.Proofs.YtahfnknbmikmkaaGreat
namespace Go.Proofs.YtahfnknbmikmkaaGreat
open Go.RowKit Go.Proofs.Ty Go.Sort Go.Lib
set_option linter.unusedVariables false
set_option maxRecDepth 1000000
set_option linter.unusedSimpArgs false
theorem mem_b {its : List Im} (hd : (its.map Im.b).Nodup) {x y : Im} (hx : x ∈ its) (hy : y ∈ its) (e : x.b = y.b) : x = y := by
  obtain ⟨m, hm, rfl⟩ := List.getElem_of_mem hx
  obtain ⟨n, hn, rfl⟩ := List.getElem_of_mem hy
  have h1 := List.pairwise_iff_getElem.1 hd
  have hmn : m = n := by
    rcases Nat.lt_trichotomy m n with h2 | h2 | h2
    · exact (h1 m n (by simpa using hm) (by simpa using hn) h2 (by simp only [List.getElem_map]; exact e)).elim
    · exact h2
    · exact (h1 n m (by simpa using hn) (by simpa using hm) h2 (by simp only [List.getElem_map]; exact e.symm)).elim
  subst hmn; rfl
section
variable {w : World} {X D R E qa : Nat} {a : A8} {its : List Im} {x y : World}
end
theorem load_pd (x : World) (X k : Nat) (p : Option Addr) (hc : x.cell? ⟨X, k, none⟩ = some (.pointer p)) : (loadVar 53 ⟨X, k, none⟩).run Tryz.prog x = .ok (.pointer p) x := by
  simp [go_sem, run_underlying Tryz.underlying53, hc]
theorem exec_idxV {a : Act} {o : Oper} {s i : Operand} {b off n c k : Nat} (ho : o.op = .indexAddr 96 s i) (hs : a.eval s = .slice (some ⟨b, off, none⟩) n c) (hi : a.eval i = .int .i64 (k : Int)) (hk : k < n) (w : World) : (execOp a.eval o).run Tryz.prog w = .ok (.value (.pointer (some ⟨b, off + k * 3, none⟩))) w := by
  have h1 : (0 : Int) ≤ (k : Int) := by omega
  have h2 : (k : Int) < (n : Int) := by omega
  unfold execOp
  simp only [ho, hs, hi]
  obtain ⟨i0, hi0, hz0⟩ := info_size infoV
  simp [go_sem, run_underlying Tryz.underlying96, sizeOf, typeInfo, hi0, hz0, h1, h2, Addr.add_mid]
theorem own0V (w : World) : (w.alloc (.cells #[] 52)).ownsRow w.heap.size 52 3 (.slice (some ⟨w.heap.size, 0, none⟩) 0 0) ([] : List Vl).length (flatW DV []) := own_empty_e w 52 3
section
variable {w : World} {ops : Array Oper} {rest : List Oper} {o : Oper} {a : Act} {Q : Exit → Act → World → Prop}
theorem bs0V (hgd : Region.wanted o (yielded ops a.tmps) = true) (ho : o.op = .buildSlice 96 0 #[]) (hh : wpList Tryz.prog ops Q rest (a.put o.dst (.slice (some ⟨w.heap.size, 0, none⟩) 0 0)) (w.alloc (.cells #[] 52))) : wpList Tryz.prog ops Q (o :: rest) a w :=
  BigFrame.wpList_want hgd fun _ hK => wp_bs0g Tryz.underlying96 infoVz ho (hK _ _ hh)
theorem apV (hgd : Region.wanted o (yielded ops a.tmps) = true) (s x : Operand) (ho : o.op = .call { callee := .builtin .append, args := #[s, x], argTypes := #[96, 96] })
    (base : Nat) (v : Value) (xs : List Vl) (hs : a.eval s = v) (hown : w.ownsRow base 52 3 v xs.length (flatW DV xs))
    (vx : Value) (l : List Vl) (hx : a.eval x = vx) (hB : Wide 3 vlC w vx l) (h63 : xs.length + l.length ≤ 1172812402927) (hbase : base ≤ w.heap.size)
    (h : ∀ v' w', w'.ownsRow base 52 3 v' (xs ++ l).length (flatW DV (xs ++ l)) → w.grownBy w' v.ownBlock → wpList Tryz.prog ops Q rest (a.put o.dst v') w') : wpList Tryz.prog ops Q (o :: rest) a w :=
  BigFrame.wpList_want hgd fun _ hK => wp_append_wide DV s x 96 52 _ 32 Tryz.underlying96 infoVz rfl ho base v xs hs hown vx l hx hB (by unfold maxLen; omega) (by omega) hbase fun v' w' h1 h2 => hK _ _ (h v' w' h1 h2)
end
end Go.Proofs.YtahfnknbmikmkaaGreat
namespace Go.Proofs.YtahfnknbmikmkaaGreat
open Go.RowKit Go.Proofs.Ty Go.Sort Go.Lib
set_option linter.unusedVariables false
set_option maxRecDepth 1000000
set_option linter.unusedSimpArgs false
def zE : Array Value := #[.int .u16 0, .int .u8 0, .int .i64 0, .bool false, .bool false, .int .i64 0, .int .u64 0, .string ⟨#[]⟩, .int .i64 0, .int .u64 0, .string ⟨#[]⟩, .int .i64 0, .int .u64 0, .string ⟨#[]⟩]
/-- So many entries are laid down. -/
structure Ls (w : World) (g : Nat) (its : List Im) (k : Nat) (x : World) : Prop where
  bel : Below w.heap.size w x
  base : w.heap.size ≤ g
  lt : g < x.heap.size
  ht : x.there g 0 (its.length * 14)
  hn : ∀ m (hm : m < its.length), m < k → x.rangeAt g (m * 14) (enC its[m].e)
theorem Ls.start (w : World) (its : List Im) : Ls w w.heap.size its 0 (w.alloc (.cells (madeCells zE (its.length * 14)) 93)) := by
  refine ⟨(Below.refl _ _).alloc (Nat.le_refl _) _, Nat.le_refl _, by rw [size_alloc]; omega, fun j hj => ?_, fun m _ h => by omega⟩
  have hh := heap_alloc_new w (.cells (madeCells zE (its.length * 14)) 93)
  refine ⟨?_, Lib.frozen_of_heap hh _⟩
  rw [Lib.cell_of_heap hh]
  have : 0 + j < (madeCells zE (its.length * 14)).size := by rw [size_madeCells]; omega
  rw [Array.getElem?_eq_getElem this]; rfl
theorem Ls.step {w : World} {g : Nat} {its : List Im} {k : Nat} {x : World} (h : Ls w g its k x) (hk : k < its.length) : x.there g (k * 14) 14 ∧ Ls w g its (k + 1) (x.setCells g (k * 14) (enC its[k].e)) := by
  have ht : x.there g (k * 14) 14 := fun j hj => by
    have := h.ht (k * 14 + j) (by have : (k + 1) * 14 ≤ its.length * 14 := Nat.mul_le_mul_right _ hk; omega)
    rw [Nat.zero_add] at this
    exact this
  refine ⟨ht, h.bel.grown (setCells_kept x g (k * 14) _) h.bel.size (fun j hj => by cases hj; exact h.base), h.base, by rw [setCells_size]; exact h.lt, World.there_setCells h.ht _ _ _, fun m hm hmk => ?_⟩
  rcases Nat.lt_or_ge m k with h3 | h3
  · exact World.rangeAt_setCells_apart (h.hn m hm h3) g (k * 14) _ (.inr (.inl (by rw [enC_len]; omega)))
  · have : m = k := by omega
    subst this
    exact World.rangeAt_setCells_same x g (m * 14) _ (by rw [enC_len]; exact ht)
theorem Ls.wide {w : World} {g : Nat} {its : List Im} {x : World} (h : Ls w g its its.length x) : Wide 14 enC x (.slice (some ⟨g, 0, none⟩) (its.map Im.e).length its.length) (its.map Im.e) := by
  refine ⟨some ⟨g, 0, none⟩, its.length, rfl, (fun h => by cases h), fun k hk => ⟨g, 0, rfl, h.lt, ?_⟩⟩
  have hk' : k < its.length := by simpa using hk
  rw [List.getElem_map, Nat.zero_add]
  exact h.hn k hk' hk'
end Go.Proofs.YtahfnknbmikmkaaGreat
namespace Go.Proofs.YtahfnknbmikmkaaGreat
open Go.RowKit Go.Proofs.Ty Go.Sort Go.Lib
set_option linter.unusedVariables false
set_option maxRecDepth 1000000
set_option linter.unusedSimpArgs false
end Go.Proofs.YtahfnknbmikmkaaGreat
namespace Go.Proofs.YtahfnknbmikmkaaGreat
open Go.RowKit Go.Proofs.Ty Go.Sort Go.Lib
set_option linter.unusedVariables false
set_option maxRecDepth 1000000
set_option linter.unusedSimpArgs false
end Go.Proofs.YtahfnknbmikmkaaGreat
namespace Go.Proofs.YtahfnknbmikmkaaGreat
open Go.RowKit Go.Proofs.Ty Go.Sort Go.Lib
set_option linter.unusedVariables false
set_option maxRecDepth 1000000
set_option linter.unusedSimpArgs false
def er (i : Im) : En × Vl := (i.e, i.v)
/-- The same entries with the same values. -/
def Tw (a b : List Im) : Prop := a.map er = b.map er
theorem Tw.e {a b : List Im} (h : Tw a b) : a.map Im.e = b.map Im.e := by
  have : ∀ l : List Im, l.map Im.e = (l.map er).map Prod.fst := fun l => by rw [List.map_map]; rfl
  rw [this, this, h]
/-- Entries in order, whichever way they came. -/
theorem sorted_eq {a b : List En} (ha : a.Pairwise (fun x y => x.pl < y.pl)) (hb : b.Pairwise (fun x y => x.pl < y.pl)) (hp : a.Perm b) : a = b := by
  induction a generalizing b with
  | nil => exact (List.Perm.nil_eq hp)
  | cons x r ih =>
    cases b with
    | nil => exact absurd hp.length_eq (by simp)
    | cons y s =>
      obtain ⟨h1, h2⟩ := List.pairwise_cons.1 ha
      obtain ⟨k1, k2⟩ := List.pairwise_cons.1 hb
      have hxy : x = y := by
        have m1 : x ∈ y :: s := hp.mem_iff.1 List.mem_cons_self
        have m2 : y ∈ x :: r := hp.mem_iff.2 List.mem_cons_self
        rcases List.mem_cons.1 m1 with e | m1
        · exact e
        · rcases List.mem_cons.1 m2 with e | m2
          · exact e.symm
          · have := k1 x m1; have := h1 y m2; omega
      subst hxy
      rw [ih h2 k2 (List.Perm.cons_inv hp)]
end Go.Proofs.YtahfnknbmikmkaaGreat
namespace Go.Proofs.YtahfnknbmikmkaaGreat
open Go.RowKit Go.Proofs.Ty
set_option linter.unusedVariables false
set_option maxRecDepth 1000000
/-- What was written is read as it was. -/
theorem chk_plain (v : Vl) : v.plain.chk = v.chk := by
  have hk := kind_le v.t
  by_cases h : kind v.t = 1 ∨ kind v.t = 2
  · rw [Vl.plain_num h]
    unfold Vl.chk chk Vl.setB
    rcases h with h | h <;> simp [h]
  · by_cases h3 : kind v.t = 3 ∨ kind v.t = 4
    · rw [Vl.plain_txt h3]
      unfold Vl.chk chk Vl.setN
      rcases h3 with h | h <;> simp [h]
    · rw [Vl.plain_none (by omega)]
theorem enc_dec (v : Vl) (h : v.chk = 0) : decE v.t v.enc = 0 ∧ decW v.t v.enc = v.plain := by
  have hE : v.enc = if 0 < siz v.t then lowL v.n (siz v.t) else v.s.data.toList := by
    show encV v.t v.n v.s = _
    unfold encV
    rw [if_pos (show chk v.t v.n v.s = 0 from h)]
    rfl
  have hk0 : kind v.t ≠ 0 := by
    intro e
    have : v.chk = 1 := by unfold Vl.chk chk; simp [e]
    omega
  have hz := siz_zero v.t
  have hp := chk_plain v
  rw [h] at hp
  by_cases hs : 0 < siz v.t
  · rw [if_pos hs] at hE
    have hl : v.enc.length = siz v.t := by rw [hE, lowL_length]
    have hk : kind v.t = 1 ∨ kind v.t = 2 := by omega
    have hN : decN v.t v.enc = v.n := by
      rw [← wide_dec hs hl, hE]
      show wv v = v.n
      rcases hk with hk | hk
      · by_cases h1 : v.t = 1
        · have := chk_bool h1
          rw [h] at this
          by_cases hc : wv v = v.n ∧ ¬ 1 < v.n
          · exact hc.1
          · rw [if_neg hc] at this; omega
        · have := chk_num1 hk h1
          rw [h] at this
          by_cases hc : wv v = v.n
          · exact hc
          · rw [if_neg hc] at this; omega
      · have := chk_num2 hk
        rw [h] at this
        by_cases hc : wv v = v.n
        · exact hc
        · rw [if_neg hc] at this; omega
    have hS : decS v.t v.enc = ⟨#[]⟩ := by unfold decS; rw [if_pos hk]
    have hF : fitE v.t v.enc.length = 0 := by
      have := siz_le v.t
      rw [hl]
      unfold fitE
      rw [if_neg hk0, if_neg (by omega), if_neg (by omega)]
    have e1 : decE v.t v.enc = 0 := by
      unfold decE
      rw [hF, hN, hS, if_neg (by simp)]
      rw [Vl.plain_num hk] at hp
      have : chk v.t v.n ⟨#[]⟩ = 0 := hp
      rw [this, if_neg (by simp)]
    refine ⟨e1, ?_⟩
    unfold decW
    rw [if_pos e1, hN, hS, Vl.plain_num hk]
    exact mkV_eq _ _ _
  · rw [if_neg hs] at hE
    have hk : kind v.t = 3 ∨ kind v.t = 4 := by
      have := kind_le v.t
      omega
    have hle : v.s.size ≤ 65536 := by
      have h' : Ty.chk v.t v.n v.s = 0 := h
      unfold chk at h'
      rw [if_neg (by omega), if_neg (by omega), if_neg hk0] at h'
      by_cases hc : 65536 < v.s.size
      · rw [if_pos hc] at h'; omega
      · omega
    have hN : decN v.t v.enc = 0 := by unfold decN; rw [if_neg (by omega), if_neg (by omega)]
    have hS : decS v.t v.enc = v.s := by
      unfold decS
      rw [if_neg (by omega), hE]
    have hF : fitE v.t v.enc.length = 0 := by
      rw [hE]
      unfold fitE
      rw [if_neg hk0, if_neg (by omega), if_neg (by simp; omega)]
    have e1 : decE v.t v.enc = 0 := by
      unfold decE
      rw [hF, hN, hS, if_neg (by simp)]
      rw [Vl.plain_txt hk] at hp
      have : chk v.t 0 v.s = 0 := hp
      rw [this, if_neg (by simp)]
    refine ⟨e1, ?_⟩
    unfold decW
    rw [if_pos e1, hN, hS, Vl.plain_txt hk]
    exact mkV_eq _ _ _
end Go.Proofs.YtahfnknbmikmkaaGreat
namespace Go.Proofs.YtahfnknbmikmkaaGreat
open Go.Proofs.Ty
set_option linter.unusedVariables false
set_option maxRecDepth 1000000
set_option linter.unusedSimpArgs false
/-- What is saved of one entry: where it is, its bytes. -/
structure Sv where
  ix : Nat
  sb : Nat
  raw : List UInt8
  hix : ix < 65536
  hsb : sb < 256
def Sv.pl (s : Sv) : Nat := s.ix * 256 + s.sb
end Go.Proofs.YtahfnknbmikmkaaGreat
namespace Go.Proofs.YtahfnknbmikmkaaGreat
open Go.RowKit Go.Proofs.Ty Go.Sort Go.Lib
set_option linter.unusedVariables false
set_option maxRecDepth 1000000
set_option linter.unusedSimpArgs false
/-- What is known of an item, whatever is done. -/
structure Ok (i : Im) : Prop where
  lim : i.e.li = true → ordE i.e.df i.e.mn = 0 ∧ ordE i.e.df i.e.mx = 0
  df : i.e.df.chk = 0
  dfp : decE i.e.df.t i.e.df.enc = 0 ∧ decW i.e.df.t i.e.df.enc = i.e.df
  val : decE i.e.df.t i.v.enc = 0 ∧ decW i.e.df.t i.v.enc = i.v
theorem Ok.t {i : Im} (h : Ok i) : i.v.t = i.e.df.t := by
  have := dec_t i.e.df.t i.e.df.ht i.v.enc h.val.1
  rw [h.val.2] at this
  exact this
theorem Ok.dec {i : Im} (h : Ok i) {l : List UInt8} (hE : decE i.e.df.t l = 0) : Ok ⟨i.b, i.e, decW i.e.df.t l⟩ := by
  have he := (dec_enc i.e.df.t i.e.df.ht l hE).2
  exact ⟨h.lim, h.df, h.dfp, by show decE i.e.df.t (decW i.e.df.t l).enc = 0 ∧ decW i.e.df.t (decW i.e.df.t l).enc = decW i.e.df.t l; rw [he]; exact ⟨hE, rfl⟩⟩
theorem plain_enc_dec {v : Vl} (h : v.chk = 0) : decE v.t v.plain.enc = 0 ∧ decW v.t v.plain.enc = v.plain := by
  have hp : v.plain.chk = 0 := by rw [chk_plain]; exact h
  have h1 := enc_dec v.plain hp
  have h2 := enc_dec v h
  have ht : v.plain.t = v.t := rfl
  rw [ht] at h1
  have h3 : v.plain.enc = v.enc := by
    have e1 := (dec_enc v.t v.ht v.plain.enc h1.1).2
    have e2 := (dec_enc v.t v.ht v.enc h2.1).2
    rw [h2.2] at e2
    exact e2
  rw [h3]
  exact h2
theorem Ok.plain {i : Im} (h : Ok i) {v : Vl} (hc : v.chk = 0) (ht : v.t = i.e.df.t) : Ok ⟨i.b, i.e, v.plain⟩ := by
  refine ⟨h.lim, h.df, h.dfp, ?_⟩
  show decE i.e.df.t v.plain.enc = 0 ∧ decW i.e.df.t v.plain.enc = v.plain
  rw [← ht]
  exact plain_enc_dec hc
theorem ok_new {e : En} (h : e.can = 0) (b : Nat) : Ok ⟨b, e.plain, e.plain.df⟩ := by
  have hg := gd_new h b
  have hd := (can_zero h).1
  have hp : e.plain.df.chk = 0 := by show e.df.plain.chk = 0; rw [chk_plain]; exact hd
  have hpe : decE e.plain.df.t e.plain.df.enc = 0 ∧ decW e.plain.df.t e.plain.df.enc = e.plain.df := plain_enc_dec hd
  exact ⟨hg.lim, hp, hpe, hpe⟩
theorem ok_set {its : List Im} (hd : (its.map Im.b).Nodup) (h : ∀ i ∈ its, Ok i) {i : Im} (hi : i ∈ its) {v : Vl} (hv : Ok ⟨i.b, i.e, v⟩) : ∀ j ∈ setV its i.b v, Ok j := by
  intro j hj
  obtain ⟨y, hy, rfl⟩ := List.mem_map.1 hj
  by_cases e : y.b = i.b
  · rw [if_pos e]
    have := mem_b hd hy hi e
    subst this
    exact hv
  · rw [if_neg e]; exact h y hy
theorem ok_wrt {its : List Im} (hd : (its.map Im.b).Nodup) (h : ∀ i ∈ its, Ok i) (ix sb : Nat) (l : List UInt8) : ∀ i ∈ wrt its ix sb l, Ok i := by
  unfold wrt
  split
  · rename_i hc
    obtain ⟨i, hf, ha, hE, hb⟩ := wc_zero hc
    rw [hf]
    exact ok_set hd h (fnd_mem hf) ((h i (fnd_mem hf)).dec hE)
  · exact h
/-- Limits: the program's code is the document's. -/
theorem bey_wi {i : Im} (h : Ok i) {l : List UInt8} (hE : decE i.e.df.t l = 0) (hl : i.e.li = true) : wiC i.e (decW i.e.df.t l) = bey i.e (decW i.e.df.t l) := by
  obtain ⟨k1, k2⟩ := h.lim hl
  have c1 := (dec_enc i.e.df.t i.e.df.ht l hE).1
  have t1 := dec_t i.e.df.t i.e.df.ht l hE
  obtain ⟨a1, a2, a3⟩ := ord_zero k1
  obtain ⟨b1, b2, b3⟩ := ord_zero k2
  have e1 : ordE (decW i.e.df.t l) i.e.mn = 0 := zero_ord c1 a2 (t1.trans a3)
  have e2 : ordE (decW i.e.df.t l) i.e.mx = 0 := zero_ord c1 b2 (t1.trans b3)
  have hB : wiB i.e (decW i.e.df.t l) = true := by unfold wiB; rw [e1, e2]; rfl
  unfold wiC bey
  rw [if_neg (show ¬ wiB i.e (decW i.e.df.t l) = false by rw [hB]; simp), if_neg (show ¬ i.e.li = false by rw [hl]; simp)]
/-- Where an entry is, in the document's list. -/
def fiN (L : List En) (ix sb : Nat) : Nat := match L.findIdx? (fun e => e.ix == ix && e.sb == sb) with
  | none => 0
  | some k => k
def fiC (L : List En) (ix sb : Nat) : Nat := match L.findIdx? (fun e => e.ix == ix && e.sb == sb) with
  | none => if L.any (fun e => e.ix == ix) then 101253137 else 100794368
  | some k => 0
theorem fi_none {its : List Im} {ix sb : Nat} (h : fnd its ix sb = none) : fiN (its.map Im.e) ix sb = 0 ∧ fiC (its.map Im.e) ix sb = noc its ix := by
  have h1 : (its.map Im.e).findIdx? (fun e => e.ix == ix && e.sb == sb) = none := by
    rw [List.findIdx?_eq_none_iff]
    intro e he
    obtain ⟨i, hi, rfl⟩ := List.mem_map.1 he
    have := List.find?_eq_none.1 h i hi
    simpa using this
  unfold fiN fiC noc
  rw [h1, List.any_map]
  exact ⟨rfl, rfl⟩
theorem fi_some {its : List Im} {ix sb : Nat} {i : Im} (h : fnd its ix sb = some i) : ∃ k, ∃ hk : k < its.length, its[k] = i ∧ fiN (its.map Im.e) ix sb = k ∧ fiC (its.map Im.e) ix sb = 0 := by
  obtain ⟨k, hk, e1, e2⟩ := List.find?_eq_some_iff_getElem.1 h |>.2
  refine ⟨k, hk, e1, ?_⟩
  have h0 := (List.find?_eq_some_iff_getElem.1 h).1
  have h1 : (its.map Im.e).findIdx? (fun e => e.ix == ix && e.sb == sb) = some k := by
    rw [List.findIdx?_eq_some_iff_getElem]
    refine ⟨by simpa using hk, ?_, fun j hj => ?_⟩
    · simp only [List.getElem_map]; rw [e1]; simpa using h0
    · have := e2 j hj
      simp at this ⊢
      intro g1 g2
      rcases this with g | g
      · exact g g1
      · exact g g2
  unfold fiN fiC
  rw [h1]
  exact ⟨rfl, rfl⟩
theorem setV_get (its : List Im) (b : Nat) (v : Vl) (j : Nat) (hj : j < its.length) (h : j < (setV its b v).length) : (setV its b v)[j] = if its[j].b = b then ⟨its[j].b, its[j].e, v⟩ else its[j] := by
  simp only [setV, List.getElem_map]
/-- A value put at one place, in the program's items and in the document's row. -/
theorem setV_v {its : List Im} (hd : (its.map Im.b).Nodup) {k : Nat} (hk : k < its.length) (v : Vl) : (setV its its[k].b v).map Im.v = (its.map Im.v).set k v := by
  apply List.ext_getElem
  · simp [setV_len]
  · intro j h1 h2
    have hj : j < its.length := by simpa [setV_len] using h1
    rw [List.getElem_set]
    simp only [List.getElem_map]
    rw [setV_get its _ v j hj]
    by_cases e : k = j
    · subst e; simp
    · rw [if_neg e]
      have : its[j].b ≠ its[k].b := fun h => by
        have h3 := List.pairwise_iff_getElem.1 hd
        rcases Nat.lt_or_gt_of_ne e with h4 | h4
        · exact h3 k j (by simpa using hk) (by simpa using hj) h4 (by simp only [List.getElem_map]; exact h.symm)
        · exact h3 j k (by simpa using hj) (by simpa using hk) h4 (by simp only [List.getElem_map]; exact h)
      rw [if_neg this]
end Go.Proofs.YtahfnknbmikmkaaGreat
namespace Go.Proofs.YtahfnknbmikmkaaGreat
open Go.RowKit Go.Proofs.Ty Go.Sort Go.Lib
set_option linter.unusedVariables false
set_option maxRecDepth 1000000
set_option linter.unusedSimpArgs false
set_option maxHeartbeats 4000000 in
theorem May_any {D R : Nat} {its : List Im} {w : World} (h : Dct D R its w) (ix sb : Nat) (h1 : ix < 65536) (h2 : sb < 256) (vb : Value) (l : List UInt8) (hB : Bytes w vb l) :
    Calls Tryz.prog 136 #[.pointer (some ⟨D, 0, none⟩), .int .u16 ix, .int .u8 sb, vb] w fun e w' => e = .returned (.int .u32 (wc its ix sb l)) ∧ Below w.heap.size w w' := by
  have hG := weigh_any h ix sb h1 h2 vb l hB
  obtain ⟨ao, cap, rfl⟩ := bytes_shape hB
  clear h hB
  unfold Wg at hG
  generalize wc its ix sb l = C at *
  go_enter Tryz.func136, Tryz.ntmps136
  go_wp2_with fail
  refine hG.mono ?_
  rintro e w1 ⟨p, v, rfl, b1, hz⟩
  clear hz hG
  obtain ⟨q, hq⟩ : ∃ q, w1.heap.size = q := ⟨_, rfl⟩
  have g0 : Va q Vl.nul (w1.alloc (.cells #[.int .i64 0, .int .u64 0, .string ⟨#[]⟩] 52)) := hq ▸ Va.new w1 Vl.nul
  have BA := b1.alloc b1.size (.cells #[.int .i64 0, .int .u64 0, .string ⟨#[]⟩] 52)
  have B2 := below_row BA (by have := b1.size; omega) BA.size (q := q) v.arr
  clear BA b1
  go_wp2_with (first | (refine g0.sd v rfl _ _ rfl rfl rfl ?_))
  go_ret
  exact ⟨rfl, B2⟩
/-- What Entry tells of an entry that is there. -/
theorem ent_results {Q : Nat} {e : En} {c : Bool} {w : World} (h : Eb Q e w) (tmps : Array Value) (h6 : tmps[6]?.getD undef = .pointer (some ⟨Q, 0, none⟩)) (h7 : tmps[7]?.getD undef = .bool c) :
    (results Tryz.f40 tmps).run Tryz.prog w = .ok (.tuple #[.agg e.arr, .bool c]) w := by
  have l0 : (loadVar 93 ⟨Q, 0, none⟩).run Tryz.prog w = .ok (.agg e.arr) w := run_ldE h.r0
  simp [Go.results, Tryz.results40, h6, h7, asAddr, l0]
set_option maxHeartbeats 4000000 in
theorem Entry_some {D R : Nat} {its : List Im} {w : World} (h : Dct D R its w) (ix sb : Nat) (h1 : ix < 65536) (h2 : sb < 256) {i : Im} (hf : fnd its ix sb = some i) :
    Calls Tryz.prog 40 #[.pointer (some ⟨D, 0, none⟩), .int .u16 ix, .int .u8 sb] w fun e w' => e = .returned (.tuple #[.agg i.e.arr, .bool true]) ∧ Below w.heap.size w w' := by
  obtain ⟨q, hq⟩ : ∃ q, w.heap.size = q := ⟨_, rfl⟩
  have hh : (w.alloc (.cells #[.int .u16 0, .int .u8 0, .int .i64 0, .bool false, .bool false, .int .i64 0, .int .u64 0, .string ⟨#[]⟩, .int .i64 0, .int .u64 0, .string ⟨#[]⟩, .int .i64 0, .int .u64 0, .string ⟨#[]⟩] 93)).heap[q]? = some (.cells #[.int .u16 0, .int .u8 0, .int .i64 0, .bool false, .bool false, .int .i64 0, .int .u64 0, .string ⟨#[]⟩, .int .i64 0, .int .u64 0, .string ⟨#[]⟩, .int .i64 0, .int .u64 0, .string ⟨#[]⟩] 93 (0, 0)) := by rw [← hq]; exact heap_alloc_new _ _
  have bA : Below w.heap.size w (w.alloc (.cells #[.int .u16 0, .int .u8 0, .int .i64 0, .bool false, .bool false, .int .i64 0, .int .u64 0, .string ⟨#[]⟩, .int .i64 0, .int .u64 0, .string ⟨#[]⟩, .int .i64 0, .int .u64 0, .string ⟨#[]⟩] 93)) := (Below.refl _ _).alloc (Nat.le_refl _) _
  have h0 := h.below bA
  have hF := find_some h0 ix sb h1 h2 hf
  have hI := h0.items i (fnd_mem hf)
  have s0 := bA.size
  unfold ptrI at hF
  clear h h0 hf
  go_enter Tryz.func40, Tryz.ntmps40
  go_upto_region 1 with fail
  generalize (w.alloc (.cells #[.int .u16 0, .int .u8 0, .int .i64 0, .bool false, .bool false, .int .i64 0, .int .u64 0, .string ⟨#[]⟩, .int .i64 0, .int .u64 0, .string ⟨#[]⟩, .int .i64 0, .int .u64 0, .string ⟨#[]⟩] 93)) = W at *
  try simp only [hq]
  go_wp2_with fail
  refine hF.mono ?_
  rintro e w1 ⟨rfl, b1⟩
  have hh1 : w1.heap[q]? = some (.cells #[.int .u16 0, .int .u8 0, .int .i64 0, .bool false, .bool false, .int .i64 0, .int .u64 0, .string ⟨#[]⟩, .int .i64 0, .int .u64 0, .string ⟨#[]⟩, .int .i64 0, .int .u64 0, .string ⟨#[]⟩] 93 (0, 0)) := (b1.block q (Array.getElem?_eq_some_iff.1 hh).1).trans hh
  have r0 := (hI.below b1).r0
  have B1 := bA.trans (b1.mono s0)
  have hE := Eb.row hh1 i.e
  have B2 := below_row B1 (by omega) B1.size (q := q) i.e.arr
  clear hF bA b1 B1 hI hh
  go_wp2_with (first | (refine ldE r0 rfl _ rfl rfl ?_) | (refine sdE hh1 rfl i.e rfl _ _ rfl rfl rfl ?_))
  exact bodyPost_ret (ent_results hE _ rfl rfl) rfl ⟨rfl, by first | exact B2 | (rw [← hq] at B2 ⊢; exact B2)⟩
section
variable {g : Im → Vl} {its : List Im}
end
end Go.Proofs.YtahfnknbmikmkaaGreat
namespace Go.Proofs.YtahfnknbmikmkaaGreat
open Go.RowKit Go.Proofs.Ty Go.Sort Go.Lib
set_option linter.unusedVariables false
set_option maxRecDepth 1000000
set_option linter.unusedSimpArgs false
theorem kp_other {D R : Nat} {its : List Im} {x y : World} (hd : Dct D R its x) (hK : Kp (its.map Im.b) x y) {q T : Nat} {A : Array Value} {fr : Nat × Nat} (hq : x.heap[q]? = some (.cells A T fr)) (ht : T ≠ 106) : y.heap[q]? = some (.cells A T fr) :=
  (hK.block q (Array.getElem?_eq_some_iff.1 hq).1 (fun hm => by
    obtain ⟨i, hi, e⟩ := List.mem_map.1 hm
    have h1 := hd.items i hi
    rw [show i.b = q from e] at h1
    have h2 : x.heap[q]? = some (.cells (imC i.e i.v).toArray 106 (0, 0)) := h1
    rw [hq] at h2
    simp at h2
    exact ht h2.2.1)).trans hq
/-- A block of another type than the row's. -/
theorem row_other {x y : World} {r : Option Nat} (G : x.grownBy y r) {U : Nat} (hr : ∀ b, r = some b → ∃ cur, x.heap[b]? = some (.cells cur U (0, 0))) {q T : Nat} {A : Array Value} {fr : Nat × Nat} (hq : x.heap[q]? = some (.cells A T fr)) (ht : T ≠ U) : y.heap[q]? = some (.cells A T fr) :=
  (G.block q (Array.getElem?_eq_some_iff.1 hq).1 (fun e => by
    obtain ⟨cur, h1⟩ := hr q e.symm
    rw [hq] at h1
    simp at h1
    exact ht h1.2.1)).trans hq
theorem row_dct {x y : World} {r : Option Nat} (G : x.grownBy y r) {U : Nat} (hr : ∀ b, r = some b → ∃ cur, x.heap[b]? = some (.cells cur U (0, 0))) (h1 : U ≠ 113) (h2 : U ≠ 102) (h3 : U ≠ 106) {D R : Nat} {its : List Im} (h : Dct D R its x) : Dct D R its y :=
  ⟨row_other G hr h.head h1.symm, row_other G hr h.row h2.symm, fun i hi => row_other G hr (show x.heap[i.b]? = _ from h.items i hi) h3.symm, h.apart, h.sorted, h.len⟩
/-- Two dictionaries. -/
structure Se (w : World) (X D R E D2 R2 : Nat) (its its2 : List Im) (x : World) : Prop where
  d1 : Dct D R its x
  d2 : Dct D2 R2 its2 x
  pair : x.heap[X]? = some (.cells #[.pointer (some ⟨D, 0, none⟩), .pointer (some ⟨E, 0, none⟩)] 56 (0, 0))
  below : Below w.heap.size w x
  b1 : ∀ b ∈ its.map Im.b, w.heap.size ≤ b
  b2 : ∀ b ∈ its2.map Im.b, w.heap.size ≤ b
  dis : ∀ b ∈ its.map Im.b, b ∉ its2.map Im.b
  tw : Tw its its2
section
variable {w : World} {X D R E D2 R2 : Nat} {its its2 : List Im} {x y : World}
theorem Se.next (h : Se w X D R E D2 R2 its its2 x) (hb : Below x.heap.size x y) : Se w X D R E D2 R2 its its2 y :=
  ⟨h.d1.below hb, h.d2.below hb, (hb.block X (Array.getElem?_eq_some_iff.1 h.pair).1).trans h.pair, h.below.trans (hb.mono h.below.size), h.b1, h.b2, h.dis, h.tw⟩
theorem Se.cX (h : Se w X D R E D2 R2 its its2 x) : x.cell? ⟨X, 0, none⟩ = some (.pointer (some ⟨D, 0, none⟩)) := Lib.cell_of_heap h.pair 0
end
section
variable {w : World} {ops : Array Oper} {rest : List Oper} {p : Oper} {a : Act} {Q : Exit → Act → World → Prop} {b o : Nat}
end
end Go.Proofs.YtahfnknbmikmkaaGreat
