/- Contracts: Begins. Contracts: Set. What stays while one entry is written or set; the state of the statement OdApart. Contracts: List; entries held against each other; two dictionaries of the same entries. Contracts: List; entries held against each other; two dictionaries of the same entries. Contracts: List; entries held against each other; two dictionaries of the same entries. Two dictionaries of the same entries: plain facts; their state. What was written is read as it was: plain facts. Saved bytes as a list: plain facts. Saved bytes, cut and loaded: plain facts. Contracts: the document's Find, Read. Contracts: the document's May. Contracts: the document's Write. Contracts: the document's Write. Contracts: the document's Set. Contracts: the document's Encode, whose bytes are new. Contracts: the document's Save. The state of the statement OdOrder. Steps of the statement OdOrder: texts made of bytes, entries held against each other. Contracts: the head of saved bytes. Contracts: saved bytes, cut into a list. Contracts: May, Entry, Reset. A map of values by places; contracts: lay. Contracts: Load. Contracts: Load. A pair of dictionaries, the program's and the document's, in memory; what an act leaves. Read by both. May and Write by both. -/
import Derived.Test.YtdcogpadioeclaaP2
import Derived.Test.YtdcogpadioeclaaO12
import Derived.Test.YtdcogpadioeclaaTy11
import Derived.Test.YtdcogpadioeclaaTy12
import Derived.Test.YtdcogpadioeclaaTyB
import Derived.Test.YtdcogpadioeclaaO2
import Derived.Test.YtdcogpadioeclaaQb
import Derived.Test.YtdcogpadioeclaaTy9
namespace Go.Proofs.Ytdcogpadioeclaa
open Go.RowKit Go.Proofs.Ty Go.Sort Go.Lib
set_option linter.unusedVariables false
set_option maxRecDepth 1000000
set_option linter.unusedSimpArgs false
theorem build_pair (D E : Nat) (x : World) : (Instr.build 54 #[(0, .pointer (some ⟨D, 0, none⟩)), (1, .pointer (some ⟨E, 0, none⟩))]).run Try.prog x = .ok (.agg #[.pointer (some ⟨D, 0, none⟩), .pointer (some ⟨E, 0, none⟩)]) x := by kernel_rfl
/-- What Begins leaves, of entries that can be. -/
structure Bg (w : World) (X D R E : Nat) (its : List Im) (l : List En) (vL vV : Value) (x : World) : Prop where
  pair : x.heap[X]? = some (.cells #[.pointer (some ⟨D, 0, none⟩), .pointer (some ⟨E, 0, none⟩)] 54 (0, 0))
  dct : Dct D R its x
  vals : ∀ i ∈ its, i.v = i.e.df
  perm : (its.map Im.e).Perm (l.map En.plain)
  base : ∀ i ∈ its, w.heap.size ≤ i.b
  bD : w.heap.size ≤ D
  bX : w.heap.size ≤ X
  bE : w.heap.size ≤ E
  rd : Rd E (insL [] l) vL ((insL [] l).map En.df) vV x
  below : Below w.heap.size w x
set_option maxHeartbeats 8000000 in
theorem Begins_any (v : Value) (l : List En) (w : World) (hW : Wide 14 enC w v l) (hn : l.length ≤ 1172812402927) :
    Calls Try.prog 8 #[v] w fun x w' => Below w.heap.size w w' ∧ (chkL l ≠ 0 → x = .returned (.tuple #[.pointer none, .bool true])) ∧ (chkL l = 0 → ∃ X D R E its vL vV, x = .returned (.tuple #[.pointer (some ⟨X, 0, none⟩), .bool true]) ∧ Bg w X D R E its l vL vV w') := by
  have HW := hidOf2 hW
  obtain ⟨ao0, cp0, rfl⟩ := hW.shape
  have bA : Below w.heap.size w (w.alloc (.cells #[] 47)) := (Below.refl _ _).alloc (Nat.le_refl _) _
  have hWa := hW.same bA.size (fun b _ hl => bA.block b hl)
  have hown := own0E w
  clear hW
  go_enter Try.func8, Try.ntmps8
  go_wp2_with (first | (refine bs0E rfl rfl ?_) | (refine apE rfl _ _ rfl w.heap.size (.slice (some ⟨w.heap.size, 0, none⟩) 0 0) [] rfl hown _ l rfl hWa (by simpa using hn) bA.size ?_; intro v2 w1 P1 G1; rw [List.nil_append] at P1))
  have B1 : Below w.heap.size w w1 := bA.grown G1 bA.size (own_lt hown)
  have hN := oNew_any v2 l w1 (wide_of_own DE P1) (by omega)
  clear P1 G1 hown hWa bA
  refine hN.mono ?_
  rintro e w2 ⟨hbad, hgood⟩
  have HG := hidOf2 hgood
  have HB2 := hidOf2 hbad
  clear hN hgood hbad
  by_cases hc : chkL l = 0
  · obtain ⟨D, R, its, rfl, N2⟩ := HG.out hc
    have B2 := B1.trans (N2.below.mono B1.size)
    have hM := (r8New_any (.slice ao0 l.length cp0) l w2 (HW.out.same B2.size (fun b _ hl => B2.block b hl)) (by omega)).mono (fun _ _ h => And.intro h.1 (h.2.2 hc))
    have HN2 := hidOf2 N2
    clear HG HB2 N2
    go_wp2_with fail
    refine hM.mono ?_
    rintro e w3 ⟨b3, E, vL, vV, rfl, hE3, R3⟩
    have B3 := B2.trans (b3.mono B2.size)
    have hC := oCheck_any (.slice ao0 l.length cp0) l w3 (HW.out.same B3.size (fun b _ hl => B3.block b hl)) (by omega)
    rw [hc] at hC
    have HR3 := hidOf2 R3
    clear hM R3
    go_wp2_with fail
    refine hC.mono ?_
    rintro e w4 ⟨rfl, b4⟩
    have B4 := B3.trans (b4.mono B3.size)
    have D4 := (HN2.out.dct.below b3).below b4
    have R4 := HR3.out.below b4
    have bZ : Below w4.heap.size w4 (w4.alloc (.cells #[.pointer (some ⟨D, 0, none⟩), .pointer (some ⟨E, 0, none⟩)] 54)) := (Below.refl _ _).alloc (Nat.le_refl _) _
    have HF : Hid (Bg w w4.heap.size D R E its l vL vV (w4.alloc (.cells #[.pointer (some ⟨D, 0, none⟩), .pointer (some ⟨E, 0, none⟩)] 54))) := 
      ⟨heap_alloc_new _ _, D4.below bZ, HN2.out.vals, HN2.out.perm, fun i hi => Nat.le_trans B1.size (HN2.out.base i hi), Nat.le_trans B1.size HN2.out.bD, B4.size, Nat.le_trans B2.size hE3, R4.below bZ, B4.trans (bZ.mono B4.size)⟩
    have hbp := build_pair D E
    have hcc := hc
    clear hC HN2 HR3 D4 R4 hc b3 b4
    go_wp2
    go_ret2
    exact ⟨HF.out.below, fun h => absurd hcc h, fun _ => ⟨_, D, R, E, its, vL, vV, rfl, HF.out⟩⟩
  · obtain ⟨rfl, b2⟩ := HB2.out hc
    have B2 := B1.trans (b2.mono B1.size)
    have hM := (r8New_any (.slice ao0 l.length cp0) l w2 (HW.out.same B2.size (fun b _ hl => B2.block b hl)) (by omega)).mono (fun _ _ h => And.intro h.1 (h.2.1 hc))
    clear HG HB2
    have HCC := hidOf2 hc
    have HCO := hidOf2 (fun x hb => oCheck_any (.slice ao0 l.length cp0) l x (HW.out.same (Below.size hb) (fun b _ hl => Below.block hb b hl)) (by omega))
    clear hc HW
    go_wp2_with fail
    refine hM.mono ?_
    rintro e w3 ⟨b3, rfl⟩
    have B3 := B2.trans (b3.mono B2.size)
    have hC := HCO.out w3 B3
    clear hM HCO
    go_wp2_with fail
    refine hC.mono ?_
    rintro e w4 ⟨rfl, b4⟩
    have B4 := B3.trans (b4.mono B3.size)
    clear hC
    go_wp2
    go_ret2
    exact ⟨B4, fun _ => rfl, fun h => absurd h HCC.out⟩
end Go.Proofs.Ytdcogpadioeclaa
namespace Go.Proofs.Ytdcogpadioeclaa
open Go.RowKit Go.Proofs.Ty Go.Sort Go.Lib
set_option linter.unusedVariables false
set_option maxRecDepth 1000000
set_option linter.unusedSimpArgs false
/-- What Set tells, and leaves. -/
def setc (its : List Im) (ix sb : Nat) (v : Vl) : Nat := match fnd its ix sb with
  | none => 4
  | some i => if i.e.ac = 3 then 1 else if v.t ≠ i.e.df.t then 1 else v.chk
def sett (its : List Im) (ix sb : Nat) (v : Vl) : List Im := match fnd its ix sb with
  | none => its
  | some i => if setc its ix sb v = 0 then setV its i.b v.plain else its
set_option maxHeartbeats 8000000 in
theorem Set_any {D R : Nat} {its : List Im} {w : World} (h : Dct D R its w) (ix sb : Nat) (h1 : ix < 65536) (h2 : sb < 256) (v : Vl) :
    Calls Try.prog 20 #[.pointer (some ⟨D, 0, none⟩), .int .u16 ix, .int .u8 sb, .agg v.arr] w fun e w' => e = .returned (.int .i64 (setc its ix sb v)) ∧ Dct D R (sett its ix sb v) w' ∧ Kp (its.map Im.b) w w' := by
  obtain ⟨q, hq⟩ : ∃ q, w.heap.size = q := ⟨_, rfl⟩
  have f0 : Va q v (w.alloc (.cells v.arr 33)) := hq ▸ Va.new w v
  have bA : Below w.heap.size w (w.alloc (.cells v.arr 33)) := (Below.refl _ _).alloc (Nat.le_refl _) _
  have h0 := h.below bA
  have s0 := bA.size
  have HC : Hid (setc its ix sb v = match fnd its ix sb with
    | none => 4
    | some i => if i.e.ac = 3 then 1 else if v.t ≠ i.e.df.t then 1 else v.chk) := rfl
  have HT : Hid (sett its ix sb v = match fnd its ix sb with
    | none => its
    | some i => if setc its ix sb v = 0 then setV its i.b v.plain else its) := rfl
  generalize sett its ix sb v = ST at *
  generalize setc its ix sb v = SC at *
  cases hf : fnd its ix sb with
  | none =>
    rw [hf] at HC HT
    have hF := find_none h0 ix sb h1 h2 hf
    have d1 : ((noc its ix : Int) != 0) = true := by have := noc_ne its ix; simp; omega
    generalize noc its ix = C at *
    clear hf
    go_enter Try.func20, Try.ntmps20
    go_upto_region 1 with fail
    generalize (w.alloc (.cells v.arr 33)) = W at *
    go_wp2_with fail
    refine hF.mono ?_
    rintro e w1 ⟨rfl, b1⟩
    have D1 := hidOf2 (h0.below b1)
    have K1 := hidOf2 (Kp.of_below (bs := its.map Im.b) (bA.trans (b1.mono s0)))
    clear hF h0 h bA b1 f0
    go_wp2
    go_ret
    exact ⟨ret_int (by rw [HC.out]; rfl), by rw [HT.out]; exact D1.out, K1.out⟩
  | some i =>
    rw [hf] at HC HT
    have hF := find_some h0 ix sb h1 h2 hf
    have hi := fnd_mem hf
    unfold ptrI at hF
    clear hf
    go_enter Try.func20, Try.ntmps20
    go_upto_region 1 with fail
    generalize (w.alloc (.cells v.arr 33)) = W at *
    try simp only [hq]
    go_wp2_with fail
    refine hF.mono ?_
    rintro e w1 ⟨rfl, b1⟩
    have D1 := h0.below b1
    have B1 := bA.trans (b1.mono s0)
    have f1 := f0.below b1
    have hI := D1.items i hi
    obtain ⟨_, _, c2, _, _, c11⟩ := hI.c
    have t0 := f1.c0
    have HD1 := hidOf2 D1
    have K1 := hidOf2 (Kp.of_below (bs := its.map Im.b) B1)
    clear hF h0 h bA b1 f0 D1 hI
    by_cases ha : i.e.ac = 3
    · have e1 := hidOf2 (show SC = 1 from HC.out.trans (if_pos ha))
      have e2 := hidOf2 (show ST = its by rw [HT.out, e1.out]; rfl)
      rw [ha] at c2
      clear HC HT
      go_upto_region 4 with fail
      go_quiet (fail)
      go_wp2
      go_ret
      exact ⟨ret_int (by rw [e1.out]; rfl), by rw [e2.out]; exact HD1.out.below (bdr (Below.refl _ _) _), K1.out.trans (Kp.of_below (bdr (Below.refl _ _) _))⟩
    · have da : (i.e.ac == 3) = false := by simpa using ha
      have HC2 := hidOf2 (HC.out.trans (if_neg ha))
      clear HC
      generalize i.e.ac = A at *
      by_cases ht : v.t = i.e.df.t
      · have HC3 := hidOf2 (show SC = v.chk from HC2.out.trans (if_neg (by simpa using ht)))
        have dt : (v.t != i.e.df.t) = false := by simpa using ht
        clear HC2 ht
        go_upto_region 4 with fail
        go_quiet (fail)
        have hC := Check_v v (w1.drewN nq)
        have f2 : Va q v (w1.drewN nq) := f1
        have B2 : Below w.heap.size w (w1.drewN nq) := bdr B1 nq
        have HD2 := hidOf2 (HD1.out.below (bdr (Below.refl _ _) nq))
        clear c2 c11 t0 HD1 K1 f1 B1
        generalize w1.drewN nq = w2 at *
        clear nq
        go_wp2_with (first | (refine f2.ld rfl _ rfl rfl ?_))
        refine hC.mono ?_
        rintro e w3 ⟨rfl, b3⟩
        have f3 := f2.below b3
        have B3 := B2.trans (b3.mono B2.size)
        have HD3 := hidOf2 (HD2.out.below b3)
        clear hC f2 B2 b3 HD2
        by_cases hk : v.chk = 0
        · rw [hk] at HC3 ⊢
          have hP := Plain_v v w3
          go_wp2_with (first | (refine f3.ld rfl _ rfl rfl ?_))
          refine hP.mono ?_
          rintro e w4 ⟨rfl, b4⟩
          have B4 := B3.trans (b4.mono B3.size)
          have D4 := HD3.out.below b4
          have hI4 := D4.items i hi
          have ht4 := hI4.there
          have D5 := hidOf2 (D4.set hi v.plain)
          have K5 := hidOf2 ((Kp.of_below (bs := its.map Im.b) B4).trans (Kp.set (List.mem_map.2 ⟨i, hi, rfl⟩) 14 (vlC v.plain)))
          have e2 := hidOf2 (show ST = setV its i.b v.plain by rw [HT.out, HC3.out]; rfl)
          clear hP f3 B3 HD3 D4 hI4 b4 B4 HT
          go_wp2_with (first | (refine sdV ht4 v.plain rfl _ _ rfl rfl rfl ?_))
          go_ret
          exact ⟨ret_int (by rw [HC3.out]; rfl), by rw [e2.out]; exact D5.out, K5.out⟩
        · have dk : ((v.chk : Int) != 0) = true := by simpa using hk
          have e2 := hidOf2 (show ST = its by rw [HT.out, HC3.out]; exact if_neg hk)
          have K3 := hidOf2 (Kp.of_below (bs := its.map Im.b) B3)
          clear HT
          generalize v.chk = CK at *
          go_wp2
          go_ret
          exact ⟨ret_int (by rw [HC3.out]), by rw [e2.out]; exact HD3.out, K3.out⟩
      · have e1 := hidOf2 (show SC = 1 from HC2.out.trans (if_pos (by simpa using ht)))
        have e2 := hidOf2 (show ST = its by rw [HT.out, e1.out]; rfl)
        have dt : (v.t != i.e.df.t) = true := by simpa using ht
        clear HC2 HT
        go_upto_region 4 with fail
        go_quiet (fail)
        go_wp2
        go_ret
        exact ⟨ret_int (by rw [e1.out]; rfl), by rw [e2.out]; exact HD1.out.below (bdr (Below.refl _ _) _), K1.out.trans (Kp.of_below (bdr (Below.refl _ _) _))⟩
end Go.Proofs.Ytdcogpadioeclaa
namespace Go.Proofs.Ytdcogpadioeclaa
open Go.RowKit Go.Proofs.Ty Go.Sort Go.Lib
set_option linter.unusedVariables false
set_option maxRecDepth 1000000
set_option linter.unusedSimpArgs false
theorem fnd_setV (its : List Im) (b : Nat) (v : Vl) (ix sb : Nat) : fnd (setV its b v) ix sb = (fnd its ix sb).map (fun x => if x.b = b then ⟨x.b, x.e, v⟩ else x) := by
  unfold fnd setV
  rw [List.find?_map]
  congr 1
  congr 1
  funext x
  simp only [Function.comp]
  split <;> rfl
theorem getV_setV (its : List Im) (b : Nat) (v : Vl) (ix sb : Nat) (h : ∀ i, fnd its ix sb = some i → i.b ≠ b) : getV (setV its b v) ix sb = getV its ix sb := by
  unfold getV
  rw [fnd_setV]
  cases hf : fnd its ix sb with
  | none => rfl
  | some i => simp only [Option.map_some]; rw [if_neg (h i hf)]
theorem fnd_place {its : List Im} {ix sb : Nat} {i : Im} (h : fnd its ix sb = some i) : i.e.ix = ix ∧ i.e.sb = sb := by
  have := List.find?_some h
  simpa using this
theorem mem_b {its : List Im} (hd : (its.map Im.b).Nodup) {x y : Im} (hx : x ∈ its) (hy : y ∈ its) (e : x.b = y.b) : x = y := by
  obtain ⟨m, hm, rfl⟩ := List.getElem_of_mem hx
  obtain ⟨n, hn, rfl⟩ := List.getElem_of_mem hy
  have h1 := List.pairwise_iff_getElem.1 hd
  have hmn : m = n := by
    rcases Nat.lt_trichotomy m n with h2 | h2 | h2
    · exact (h1 m n (by simpa using hm) (by simpa using hn) h2 (by simp only [List.getElem_map]; exact e)).elim
    · exact h2
    · exact (h1 n m (by simpa using hn) (by simpa using hm) h2 (by simp only [List.getElem_map]; exact e.symm)).elim
  subst hmn; rfl
/-- What is written to one place changes no other. -/
theorem apart_set {its : List Im} (hd : (its.map Im.b).Nodup) {ix sb jx jb : Nat} {i : Im} (hf : fnd its ix sb = some i) (hne : jx ≠ ix ∨ jb ≠ sb) (v : Vl) : getV (setV its i.b v) jx jb = getV its jx jb := by
  refine getV_setV its i.b v jx jb (fun x hx e => ?_)
  have := mem_b hd (fnd_mem hx) (fnd_mem hf) e
  subst this
  have h1 := fnd_place hx
  have h2 := fnd_place hf
  omega
theorem apart_wrt {its : List Im} (hd : (its.map Im.b).Nodup) {ix sb jx jb : Nat} (hne : jx ≠ ix ∨ jb ≠ sb) (l : List UInt8) : getV (wrt its ix sb l) jx jb = getV its jx jb := by
  unfold wrt
  split
  · cases hf : fnd its ix sb with
    | none => rfl
    | some i => exact apart_set hd hf hne _
  · rfl
theorem apart_sett {its : List Im} (hd : (its.map Im.b).Nodup) {ix sb jx jb : Nat} (hne : jx ≠ ix ∨ jb ≠ sb) (v : Vl) : getV (sett its ix sb v) jx jb = getV its jx jb := by
  unfold sett
  cases hf : fnd its ix sb with
  | none => rfl
  | some i =>
    simp only
    split
    · exact apart_set hd hf hne _
    · rfl
theorem Al.sett {es : List En} {bs : List Nat} {its : List Im} (h : Al es bs its) (ix sb : Nat) (v : Vl) : Al es bs (sett its ix sb v) := by
  unfold Go.Proofs.Ytdcogpadioeclaa.sett
  split
  · exact h
  · split
    · exact h.set _ _
    · exact h
/-- The dictionary of a pair, the pair, an act: in memory. -/
structure So (w : World) (X D R E qa : Nat) (a : A8) (its : List Im) (x : World) : Prop where
  dct : Dct D R its x
  pair : x.heap[X]? = some (.cells #[.pointer (some ⟨D, 0, none⟩), .pointer (some ⟨E, 0, none⟩)] 54 (0, 0))
  act : x.heap[qa]? = some (.cells a.arr 35 (0, 0))
  below : Below w.heap.size w x
  base : ∀ b ∈ its.map Im.b, w.heap.size ≤ b
section
variable {w : World} {X D R E qa : Nat} {a : A8} {its : List Im} {x y : World}
theorem So.next (h : So w X D R E qa a its x) (hb : Below x.heap.size x y) : So w X D R E qa a its y :=
  ⟨h.dct.below hb, (hb.block X (Array.getElem?_eq_some_iff.1 h.pair).1).trans h.pair, (hb.block qa (Array.getElem?_eq_some_iff.1 h.act).1).trans h.act, h.below.trans (hb.mono h.below.size), h.base⟩
theorem So.c (h : So w X D R E qa a its x) : x.cell? ⟨X, 0, none⟩ = some (.pointer (some ⟨D, 0, none⟩)) ∧ x.cell? ⟨qa, 0, none⟩ = some (.int .i64 a.kind) ∧ x.cell? ⟨qa, 1, none⟩ = some (.int .u16 a.ix) ∧ x.cell? ⟨qa, 2, none⟩ = some (.int .u8 a.sb) ∧ x.cell? ⟨qa, 3, none⟩ = some a.bv :=
  ⟨Lib.cell_of_heap h.pair 0, Lib.cell_of_heap h.act 0, Lib.cell_of_heap h.act 1, Lib.cell_of_heap h.act 2, Lib.cell_of_heap h.act 3⟩
theorem So.r4 (h : So w X D R E qa a its x) : x.rangeAt qa 4 (vlC a.v) := wf_rng h.act 4 _ (fun j u hj => by
  match j, hj with
  | 0, hj => exact hj
  | 1, hj => exact hj
  | 2, hj => exact hj
  | j + 3, hj => simp [vlC] at hj)
theorem So.row (h : So w X D R E qa a its x) {r : Option Nat} (G : x.grownBy y r) (hr : ∀ b, r = some b → w.heap.size ≤ b ∧ ∃ cur, x.heap[b]? = some (.cells cur 33 (0, 0))) : So w X D R E qa a its y := by
  have ne : ∀ {q T : Nat} {A : Array Value} {fr : Nat × Nat}, x.heap[q]? = some (.cells A T fr) → T ≠ 33 → y.heap[q]? = x.heap[q]? := fun {q T A fr} hq ht => G.block q (Array.getElem?_eq_some_iff.1 hq).1 (fun e => by
    obtain ⟨_, cur, h1⟩ := hr q e.symm
    rw [hq] at h1
    simp at h1
    exact ht h1.2.1)
  refine ⟨⟨(ne h.dct.head (by decide)).trans h.dct.head, (ne h.dct.row (by decide)).trans h.dct.row, fun i hi => ?_, h.dct.apart, h.dct.sorted, h.dct.len⟩, (ne h.pair (by decide)).trans h.pair, (ne h.act (by decide)).trans h.act, h.below.grown G h.below.size (fun j hj => (hr j hj).1), h.base⟩
  have := h.dct.items i hi
  exact (ne (show x.heap[i.b]? = _ from this) (by decide)).trans this
theorem So.kp {its' : List Im} (h : So w X D R E qa a its x) (hd : Dct D R its' y) (hK : Kp (its.map Im.b) x y) (hb : its'.map Im.b = its.map Im.b) : So w X D R E qa a its' y := by
  have ne : ∀ {q T : Nat} {A : Array Value} {fr : Nat × Nat}, x.heap[q]? = some (.cells A T fr) → T ≠ 79 → y.heap[q]? = x.heap[q]? := fun {q T A fr} hq ht => hK.block q (Array.getElem?_eq_some_iff.1 hq).1 (fun hm => by
    obtain ⟨i, hi, e⟩ := List.mem_map.1 hm
    have h1 := h.dct.items i hi
    rw [show i.b = q from e] at h1
    have h2 : x.heap[q]? = some (.cells (imC i.e i.v).toArray 79 (0, 0)) := h1
    rw [hq] at h2
    simp at h2
    exact ht h2.2.1)
  exact ⟨hd, (ne h.pair (by decide)).trans h.pair, (ne h.act (by decide)).trans h.act, hK.below h.below h.below.size h.base, by rw [hb]; exact h.base⟩
end
theorem own_kp {its : List Im} {D R : Nat} {x y : World} {B : Nat} {c n : Nat} {v : Value} {xs : List Value} (h : x.ownsRow B 33 c v n xs) (hd : Dct D R its x) (hK : Kp (its.map Im.b) x y) : y.ownsRow B 33 c v n xs := by
  refine ⟨h.1, h.2.imp id ?_⟩
  rintro ⟨g, cap, cur, e1, e2, e3, e4⟩
  refine ⟨g, cap, cur, e1, e2, (hK.block g (Array.getElem?_eq_some_iff.1 e3).1 (fun hm => ?_)).trans e3, e4⟩
  obtain ⟨i, hi, e⟩ := List.mem_map.1 hm
  have h1 := hd.items i hi
  rw [show i.b = g from e] at h1
  have h2 : x.heap[g]? = some (.cells (imC i.e i.v).toArray 79 (0, 0)) := h1
  rw [e3] at h2
  simp at h2
theorem load_pd (x : World) (X k : Nat) (p : Option Addr) (hc : x.cell? ⟨X, k, none⟩ = some (.pointer p)) : (loadVar 37 ⟨X, k, none⟩).run Try.prog x = .ok (.pointer p) x := by
  simp [go_sem, run_underlying Try.underlying37, hc]
theorem exec_idxV {a : Act} {o : Oper} {s i : Operand} {b off n c k : Nat} (ho : o.op = .indexAddr 56 s i) (hs : a.eval s = .slice (some ⟨b, off, none⟩) n c) (hi : a.eval i = .int .i64 (k : Int)) (hk : k < n) (w : World) : (execOp a.eval o).run Try.prog w = .ok (.value (.pointer (some ⟨b, off + k * 3, none⟩))) w := by
  have h1 : (0 : Int) ≤ (k : Int) := by omega
  have h2 : (k : Int) < (n : Int) := by omega
  unfold execOp
  simp only [ho, hs, hi]
  obtain ⟨i0, hi0, hz0⟩ := info_size infoV
  simp [go_sem, run_underlying Try.underlying56, sizeOf, typeInfo, hi0, hz0, h1, h2, Addr.add_mid]
theorem quiet_pure {W : World} {ops : Array Oper} {rest : List Oper} {p : Oper} {a : Act} {Q : Act → Prop} (v : Value) (hgd : Region.wanted p (yielded ops a.tmps) = true) (hr : ∀ w, (execOp a.eval p).run Try.prog w = .ok (.value v) w)
    (hh : wpQuiet Try.prog ops (fun w' => ∃ x : Later W, w' = x.now) Q rest (a.put p.dst v)) : wpQuiet Try.prog ops (fun w' => ∃ x : Later W, w' = x.now) Q (p :: rest) a := by
  unfold wpQuiet
  rw [if_pos hgd]
  refine ⟨v, ?_, hh⟩
  rintro w' ⟨y, rfl⟩
  unfold Oper.quietAt
  rw [hr]
  exact ⟨rfl, rfl⟩
theorem own0V (w : World) : (w.alloc (.cells #[] 33)).ownsRow w.heap.size 33 3 (.slice (some ⟨w.heap.size, 0, none⟩) 0 0) ([] : List Vl).length (flatW DV []) := own_empty_e w 33 3
section
variable {w : World} {ops : Array Oper} {rest : List Oper} {o : Oper} {a : Act} {Q : Exit → Act → World → Prop}
theorem bs0V (hgd : Region.wanted o (yielded ops a.tmps) = true) (ho : o.op = .buildSlice 56 0 #[]) (hh : wpList Try.prog ops Q rest (a.put o.dst (.slice (some ⟨w.heap.size, 0, none⟩) 0 0)) (w.alloc (.cells #[] 33))) : wpList Try.prog ops Q (o :: rest) a w :=
  BigFrame.wpList_want hgd fun _ hK => wp_bs0g Try.underlying56 infoVz ho (hK _ _ hh)
theorem apV (hgd : Region.wanted o (yielded ops a.tmps) = true) (s x : Operand) (ho : o.op = .call { callee := .builtin .append, args := #[s, x], argTypes := #[56, 56] })
    (base : Nat) (v : Value) (xs : List Vl) (hs : a.eval s = v) (hown : w.ownsRow base 33 3 v xs.length (flatW DV xs))
    (vx : Value) (l : List Vl) (hx : a.eval x = vx) (hB : Wide 3 vlC w vx l) (h63 : xs.length + l.length ≤ 1172812402927) (hbase : base ≤ w.heap.size)
    (h : ∀ v' w', w'.ownsRow base 33 3 v' (xs ++ l).length (flatW DV (xs ++ l)) → w.grownBy w' v.ownBlock → wpList Try.prog ops Q rest (a.put o.dst v') w') : wpList Try.prog ops Q (o :: rest) a w :=
  BigFrame.wpList_want hgd fun _ hK => wp_append_wide DV s x 56 33 _ 32 Try.underlying56 infoVz rfl ho base v xs hs hown vx l hx hB (by unfold maxLen; omega) (by omega) hbase fun v' w' h1 h2 => hK _ _ (h v' w' h1 h2)
end
end Go.Proofs.Ytdcogpadioeclaa
namespace Go.Proofs.Ytdcogpadioeclaa
open Go.RowKit Go.Proofs.Ty Go.Sort Go.Lib
set_option linter.unusedVariables false
set_option maxRecDepth 1000000
set_option linter.unusedSimpArgs false
def zE : Array Value := #[.int .u16 0, .int .u8 0, .int .i64 0, .bool false, .bool false, .int .i64 0, .int .u64 0, .string ⟨#[]⟩, .int .i64 0, .int .u64 0, .string ⟨#[]⟩, .int .i64 0, .int .u64 0, .string ⟨#[]⟩]
theorem run_make_ents (n : Nat) (hn : n ≤ 1024) (w : World) : (Instr.makeSlice 22 (.int .i64 n) (.int .i64 n)).run Try.prog w = .ok (.slice (some ⟨w.heap.size, 0, none⟩) n n) (w.alloc (.cells (madeCells zE (n * 14)) 47)) := by
  obtain ⟨i0, hi, hz0, hz1, hz2⟩ := info_parts infoEz
  have := run_make (P := Try.prog) w 22 47 i0 _ Try.underlying22 hi hz0 .i64 .i64 n n (by omega) (Int.le_refl _) (by rw [hz2]; omega) (by omega)
  simp only [Int.toNat_natCast, hz1] at this
  exact this
/-- So many entries are laid down. -/
structure Ls (w : World) (g : Nat) (its : List Im) (k : Nat) (x : World) : Prop where
  bel : Below w.heap.size w x
  base : w.heap.size ≤ g
  lt : g < x.heap.size
  ht : x.there g 0 (its.length * 14)
  hn : ∀ m (hm : m < its.length), m < k → x.rangeAt g (m * 14) (enC its[m].e)
theorem Ls.start (w : World) (its : List Im) : Ls w w.heap.size its 0 (w.alloc (.cells (madeCells zE (its.length * 14)) 47)) := by
  refine ⟨(Below.refl _ _).alloc (Nat.le_refl _) _, Nat.le_refl _, by rw [size_alloc]; omega, fun j hj => ?_, fun m _ h => by omega⟩
  have hh := heap_alloc_new w (.cells (madeCells zE (its.length * 14)) 47)
  refine ⟨?_, Lib.frozen_of_heap hh _⟩
  rw [Lib.cell_of_heap hh]
  have : 0 + j < (madeCells zE (its.length * 14)).size := by rw [size_madeCells]; omega
  rw [Array.getElem?_eq_getElem this]; rfl
theorem Ls.step {w : World} {g : Nat} {its : List Im} {k : Nat} {x : World} (h : Ls w g its k x) (hk : k < its.length) : x.there g (k * 14) 14 ∧ Ls w g its (k + 1) (x.setCells g (k * 14) (enC its[k].e)) := by
  have ht : x.there g (k * 14) 14 := fun j hj => by
    have := h.ht (k * 14 + j) (by have : (k + 1) * 14 ≤ its.length * 14 := Nat.mul_le_mul_right _ hk; omega)
    rw [Nat.zero_add] at this
    exact this
  refine ⟨ht, h.bel.grown (setCells_kept x g (k * 14) _) h.bel.size (fun j hj => by cases hj; exact h.base), h.base, by rw [setCells_size]; exact h.lt, World.there_setCells h.ht _ _ _, fun m hm hmk => ?_⟩
  rcases Nat.lt_or_ge m k with h3 | h3
  · exact World.rangeAt_setCells_apart (h.hn m hm h3) g (k * 14) _ (.inr (.inl (by rw [enC_len]; omega)))
  · have : m = k := by omega
    subst this
    exact World.rangeAt_setCells_same x g (m * 14) _ (by rw [enC_len]; exact ht)
theorem Ls.wide {w : World} {g : Nat} {its : List Im} {x : World} (h : Ls w g its its.length x) : Wide 14 enC x (.slice (some ⟨g, 0, none⟩) (its.map Im.e).length its.length) (its.map Im.e) := by
  refine ⟨some ⟨g, 0, none⟩, its.length, rfl, (fun h => by cases h), fun k hk => ⟨g, 0, rfl, h.lt, ?_⟩⟩
  have hk' : k < its.length := by simpa using hk
  rw [List.getElem_map, Nat.zero_add]
  exact h.hn k hk' hk'
theorem sdEm {w : World} {b o : Nat} (ht : w.there b o 14) {ops : Array Oper} {rest : List Oper} {p : Oper} {a : Act} {Q : Exit → Act → World → Prop} (e : En) (hgd : p.guard = none) (x y : Operand) (ho : p.op = .store 47 x y) (hx : a.eval x = .pointer (some ⟨b, o, none⟩)) (hy : a.eval y = .agg e.arr)
    (hh : wpList Try.prog ops Q rest (a.put p.dst undef) (w.setCells b o (enC e))) : wpList Try.prog ops Q (p :: rest) a w :=
  wpList_store_mid hgd 47 x y ho b o e.arr hx hy ht (by show _ = some 14; exact infoE) (all_oneCell_toArray e.one) hh
end Go.Proofs.Ytdcogpadioeclaa
namespace Go.Proofs.Ytdcogpadioeclaa
open Go.RowKit Go.Proofs.Ty Go.Sort Go.Lib
set_option linter.unusedVariables false
set_option maxRecDepth 1000000
set_option linter.unusedSimpArgs false
/-- Entries held against each other. -/
def En.lits (e : En) : List Lit := [.int .u16 e.ix, .int .u8 e.sb, .int .i64 e.ac, .bool e.mp, .bool e.li] ++ e.mn.lits ++ e.mx.lits ++ e.df.lits
theorem keyE : Try.prog.keyTypeAt 4 47 = true := by kernel_rfl
theorem guardE : Try.prog.eqGuardType Try.prog.depth 47 = false := by kernel_rfl
theorem en_formed (e : En) : (Value.agg e.arr).formed Try.prog 47 = true := by
  have c1 : Try.prog.cellsOf 47 = 14 := by kernel_rfl
  simp [Value.formed, Try.underlying47, c1, En.arr, enC]
theorem en_keyLits (e : En) (d : Nat) : Try.prog.keyLits (d + 4) 47 e.arr.toList = some e.lits := by
  have h1 := e.hix
  have h2 := e.hsb
  have h3 := e.hac
  have k1 := vl_keyLits e.mn d
  have k2 := vl_keyLits e.mx d
  have k3 := vl_keyLits e.df d
  have c1 : Try.prog.cellsOf 33 = 3 := by kernel_rfl
  have c2 : Try.prog.cellsOf 3 = 1 := by kernel_rfl
  have c3 : Try.prog.cellsOf 29 = 1 := by kernel_rfl
  have c4 : Try.prog.cellsOf 5 = 1 := by kernel_rfl
  have c5 : Try.prog.cellsOf 4 = 1 := by kernel_rfl
  have c6 : Try.prog.cellsOf 47 = 14 := by kernel_rfl
  have w1 : (Lit.int .u16 e.ix).wf = true := by simp [Lit.wf, IntKind.min, IntKind.max, IntKind.signed, IntKind.bits]; omega
  have w2 : (Lit.int .u8 e.sb).wf = true := by simp [Lit.wf, IntKind.min, IntKind.max, IntKind.signed, IntKind.bits]; omega
  have w3 : (Lit.int .i64 e.ac).wf = true := by simp [Lit.wf, IntKind.min, IntKind.max, IntKind.signed, IntKind.bits]; omega
  simp only [Vl.arr] at k1 k2 k3
  have s1 : Try.prog.keyLits (d + 3) 29 [.int .u16 e.ix] = some [.int .u16 e.ix] := by simp [Program.keyLits, Try.underlying29, w1]
  have s2 : Try.prog.keyLits (d + 3) 5 [.int .u8 e.sb] = some [.int .u8 e.sb] := by simp [Program.keyLits, Try.underlying5, w2]
  have s3 : Try.prog.keyLits (d + 3) 3 [.int .i64 e.ac] = some [.int .i64 e.ac] := by simp [Program.keyLits, Try.underlying3, w3]
  have s4 : Try.prog.keyLits (d + 3) 4 [.bool e.mp] = some [.bool e.mp] := by simp [Program.keyLits, Try.underlying4]
  have s5 : Try.prog.keyLits (d + 3) 4 [.bool e.li] = some [.bool e.li] := by simp [Program.keyLits, Try.underlying4]
  unfold Program.keyLits
  simp [En.arr, enC, En.lits, Try.underlying47, c1, c2, c3, c4, c5, c6, s1, s2, s3, s4, s5, k1, k2, k3]
theorem enSame (e : En) (w : World) : (binOp .neq 47 (.agg e.arr) (.agg e.arr)).run Try.prog w = .ok (.bool false) w := by
  obtain ⟨r, hr, hiff⟩ := run_equalIn_deep (10000 - 4) 4 47 keyE w 4 4 (.agg e.arr) (.agg e.arr) e.lits e.lits (en_formed e) (en_formed e) (en_keyLits e 0) (en_keyLits e 0)
  have e1 : r = true := hiff.2 rfl
  have hq : (Op.equal 47 (.agg e.arr) (.agg e.arr)).run Try.prog w = .ok true w := by rw [← e1]; exact hr
  simp [binOp, hq]
end Go.Proofs.Ytdcogpadioeclaa
namespace Go.Proofs.Ytdcogpadioeclaa
open Go.RowKit Go.Proofs.Ty Go.Sort Go.Lib
set_option linter.unusedVariables false
set_option maxRecDepth 1000000
set_option linter.unusedSimpArgs false
set_option maxHeartbeats 2000000 in
theorem List_any {D R : Nat} {its : List Im} {w : World} (h : Dct D R its w) :
    Calls Try.prog 21 #[.pointer (some ⟨D, 0, none⟩)] w fun e w' => ∃ x, e = .returned x ∧ Wide 14 enC w' x (its.map Im.e) ∧ Below w.heap.size w w' := by
  have hl := h.len
  have HD := hidOf2 h
  have hm := run_make_ents its.length hl
  have c0 := h.cell
  have HL0 := hidOf2 (Ls.start w its)
  have HLW := hidOf2 (fun g x (hx : Ls w g its its.length x) => hx.wide)
  have k0 := (h.below (Ls.start w its).bel).cell
  obtain ⟨g, hg⟩ : ∃ g, w.heap.size = g := ⟨_, rfl⟩
  clear h
  go_enter Try.func21, Try.ntmps21
  go_wp2
  generalize (w.alloc (.cells (madeCells zE (its.length * 14)) 47)) = w1 at *
  simp only [hg] at HL0
  try simp only [hg]
  go_loopw [17] (fun i x => ∃ k : Nat, k ≤ its.length ∧ i = .int .i64 k ∧ Hid (Ls w g its k x)) (fun i _ => its.length - (intOf i).toNat)
  case atStart => exact ⟨0, Nat.zero_le _, rfl, HL0⟩
  case round =>
    clear HL0
    obtain ⟨k, hk, rfl, HL⟩ := hrel
    by_cases hkl : k < its.length
    · have hD := HD.out.below HL.out.bel
      have ca := hD.at k hkl
      have hI := hD.items its[k] (List.getElem_mem hkl)
      obtain ⟨ht, HLn0⟩ := HL.out.step hkl
      have HLn := hidOf2 HLn0
      have r0 := hI.r0
      unfold ptrI at ca
      clear HLn0 hI hD HL
      generalize its[k] = i at *
      go_upto_region 6 with (first | (refine ldE r0 rfl _ rfl rfl ?_) | (refine sdEm ht i.e rfl _ _ rfl rfl rfl ?_; clear r0 ht; generalize wr.setCells g (k * 14) (enC i.e) = w2 at *))
      go_wp2
      go_roundw
      case rel => exact ⟨k + 1, by omega, by go_num, HLn⟩
      case measure => simp [intOf]; omega
    · have e1 : k = its.length := by omega
      subst e1
      have HW := hidOf2 (HLW.out g wr HL.out)
      rw [List.length_map] at HW
      have HB := hidOf2 HL.out.bel
      clear HL
      go_wp2
      go_ret
      exact ⟨_, rfl, HW.out, HB.out⟩
end Go.Proofs.Ytdcogpadioeclaa
namespace Go.Proofs.Ytdcogpadioeclaa
open Go.RowKit Go.Proofs.Ty Go.Sort Go.Lib
set_option linter.unusedVariables false
set_option maxRecDepth 1000000
set_option linter.unusedSimpArgs false
def er (i : Im) : En × Vl := (i.e, i.v)
/-- The same entries with the same values. -/
def Tw (a b : List Im) : Prop := a.map er = b.map er
theorem Tw.e {a b : List Im} (h : Tw a b) : a.map Im.e = b.map Im.e := by
  have : ∀ l : List Im, l.map Im.e = (l.map er).map Prod.fst := fun l => by rw [List.map_map]; rfl
  rw [this, this, h]
theorem fnd_er (a : List Im) (ix sb : Nat) : (fnd a ix sb).map er = (a.map er).find? (fun p => p.1.ix == ix && p.1.sb == sb) := by
  unfold fnd
  rw [List.find?_map]
  rfl
theorem Tw.fnd {a b : List Im} (h : Tw a b) (ix sb : Nat) : (fnd a ix sb).map er = (Go.Proofs.Ytdcogpadioeclaa.fnd b ix sb).map er := by rw [fnd_er, fnd_er, h]
theorem noc_er (a : List Im) (ix : Nat) : noc a ix = if (a.map er).any (fun p => p.1.ix == ix) then 101253137 else 100794368 := by
  unfold noc
  rw [List.any_map]
  rfl
theorem Tw.wc {a b : List Im} (h : Tw a b) (ix sb : Nat) (l : List UInt8) : wc a ix sb l = Go.Proofs.Ytdcogpadioeclaa.wc b ix sb l := by
  have hf := h.fnd ix sb
  unfold Go.Proofs.Ytdcogpadioeclaa.wc
  cases ha : Go.Proofs.Ytdcogpadioeclaa.fnd a ix sb with
  | none =>
    rw [ha] at hf
    cases hb : Go.Proofs.Ytdcogpadioeclaa.fnd b ix sb with
    | none => simp only; rw [noc_er, noc_er, h]
    | some j => rw [hb] at hf; cases hf
  | some i =>
    rw [ha] at hf
    cases hb : Go.Proofs.Ytdcogpadioeclaa.fnd b ix sb with
    | none => rw [hb] at hf; cases hf
    | some j =>
      rw [hb] at hf
      simp only [Option.map_some, Option.some.injEq, er, Prod.mk.injEq] at hf
      simp only [wcode]
      rw [hf.1]
theorem setV_er {a : List Im} (hd : (a.map Im.b).Nodup) (hs : a.Pairwise (fun x y => x.e.pl < y.e.pl)) {i : Im} (hi : i ∈ a) (v : Vl) : (setV a i.b v).map er = (a.map er).map (fun p => if p.1.pl = i.e.pl then (p.1, v) else p) := by
  unfold setV
  rw [List.map_map, List.map_map]
  apply List.map_congr_left
  intro x hx
  simp only [Function.comp, er]
  by_cases e : x.b = i.b
  · have := mem_b hd hx hi e
    subst this
    rw [if_pos rfl]
    exact (if_pos (show (er x).1.pl = x.e.pl from rfl)).symm
  · have hne : ¬ x.e.pl = i.e.pl := fun h => e (by
      obtain ⟨m, hm, rfl⟩ := List.getElem_of_mem hx
      obtain ⟨n, hn, rfl⟩ := List.getElem_of_mem hi
      have h1 := List.pairwise_iff_getElem.1 hs
      have : m = n := by
        rcases Nat.lt_trichotomy m n with h2 | h2 | h2
        · have := h1 m n hm hn h2; omega
        · exact h2
        · have := h1 n m hn hm h2; omega
      subst this; rfl)
    rw [if_neg e]
    exact (if_neg (show ¬ (er x).1.pl = i.e.pl from hne)).symm
theorem Tw.wrt {a b : List Im} (h : Tw a b) (ha : (a.map Im.b).Nodup) (hb : (b.map Im.b).Nodup) (sa : a.Pairwise (fun x y => x.e.pl < y.e.pl)) (sb' : b.Pairwise (fun x y => x.e.pl < y.e.pl)) (ix sb : Nat) (l : List UInt8) : Tw (wrt a ix sb l) (Go.Proofs.Ytdcogpadioeclaa.wrt b ix sb l) := by
  unfold Go.Proofs.Ytdcogpadioeclaa.wrt
  rw [h.wc ix sb l]
  split
  · have hf := h.fnd ix sb
    cases hfa : Go.Proofs.Ytdcogpadioeclaa.fnd a ix sb with
    | none =>
      rw [hfa] at hf
      cases hfb : Go.Proofs.Ytdcogpadioeclaa.fnd b ix sb with
      | none => exact h
      | some j => rw [hfb] at hf; cases hf
    | some i =>
      rw [hfa] at hf
      cases hfb : Go.Proofs.Ytdcogpadioeclaa.fnd b ix sb with
      | none => rw [hfb] at hf; cases hf
      | some j =>
        rw [hfb] at hf
        simp only [Option.map_some, Option.some.injEq, er, Prod.mk.injEq] at hf
        show (setV a i.b (decW i.e.df.t l)).map er = (setV b j.b (decW j.e.df.t l)).map er
        rw [setV_er ha sa (fnd_mem hfa), setV_er hb sb' (fnd_mem hfb), hf.1, h]
  · exact h
theorem sav_er (a : List Im) : sav a = (a.map er).flatMap (fun p => svI ⟨0, p.1, p.2⟩) := by
  unfold sav
  rw [List.flatMap_map]
  rfl
theorem Tw.sav {a b : List Im} (h : Tw a b) : sav a = Go.Proofs.Ytdcogpadioeclaa.sav b := by rw [sav_er, sav_er, h]
/-- Entries in order, whichever way they came. -/
theorem sorted_eq {a b : List En} (ha : a.Pairwise (fun x y => x.pl < y.pl)) (hb : b.Pairwise (fun x y => x.pl < y.pl)) (hp : a.Perm b) : a = b := by
  induction a generalizing b with
  | nil => exact (List.Perm.nil_eq hp)
  | cons x r ih =>
    cases b with
    | nil => exact absurd hp.length_eq (by simp)
    | cons y s =>
      obtain ⟨h1, h2⟩ := List.pairwise_cons.1 ha
      obtain ⟨k1, k2⟩ := List.pairwise_cons.1 hb
      have hxy : x = y := by
        have m1 : x ∈ y :: s := hp.mem_iff.1 List.mem_cons_self
        have m2 : y ∈ x :: r := hp.mem_iff.2 List.mem_cons_self
        rcases List.mem_cons.1 m1 with e | m1
        · exact e
        · rcases List.mem_cons.1 m2 with e | m2
          · exact e.symm
          · have := k1 x m1; have := h1 y m2; omega
      subst hxy
      rw [ih h2 k2 (List.Perm.cons_inv hp)]
theorem tw_new {a b : List Im} {l m : List En} (sa : a.Pairwise (fun x y => x.e.pl < y.e.pl)) (sb : b.Pairwise (fun x y => x.e.pl < y.e.pl)) (va : ∀ i ∈ a, i.v = i.e.df) (vb : ∀ i ∈ b, i.v = i.e.df) (pa : (a.map Im.e).Perm (l.map En.plain)) (pb : (b.map Im.e).Perm (m.map En.plain)) (hm : m.Perm l) : Tw a b := by
  have he : a.map Im.e = b.map Im.e := sorted_eq (List.pairwise_map.2 sa) (List.pairwise_map.2 sb) (pa.trans ((hm.map En.plain).symm.trans pb.symm))
  have key : ∀ c : List Im, (∀ i ∈ c, i.v = i.e.df) → c.map er = (c.map Im.e).map (fun e => (e, e.df)) := fun c hc => by
    rw [List.map_map]
    apply List.map_congr_left
    intro i hi
    simp only [Function.comp, er, hc i hi]
  unfold Tw
  rw [key a va, key b vb, he]
theorem chkG_perm {s l : List En} (hc : ∀ e ∈ l, e.can = 0) (hn : ((s ++ l).map En.pl).Nodup) : chkG s l = 0 := by
  induction l generalizing s with
  | nil => rfl
  | cons e r ih =>
    rw [chkG, if_neg (by have := hc e List.mem_cons_self; simpa using this), if_neg, ih (fun x hx => hc x (List.mem_cons_of_mem _ hx)) (by simpa using hn)]
    rw [Bool.not_eq_true, List.any_eq_false]
    intro x hx he
    rw [List.map_append, List.nodup_append] at hn
    exact hn.2.2 x.pl (List.mem_map.2 ⟨x, hx, rfl⟩) e.pl (List.mem_map.2 ⟨e, List.mem_cons_self, rfl⟩) (by simpa using he)
/-- Entries that can be can be in whatever order. -/
theorem chkL_perm {l m : List En} (h : chkL l = 0) (hp : m.Perm l) : chkL m = 0 := by
  obtain ⟨h1, h2, h3⟩ := chkL_ok h
  unfold chkL
  rw [if_neg (by rw [hp.length_eq]; omega)]
  refine chkG_perm (fun e he => chkG_all h3 e (hp.mem_iff.1 he)) ?_
  rw [List.nil_append]
  exact (hp.map En.pl).nodup_iff.2 h2
end Go.Proofs.Ytdcogpadioeclaa
namespace Go.Proofs.Ytdcogpadioeclaa
open Go.RowKit Go.Proofs.Ty
set_option linter.unusedVariables false
set_option maxRecDepth 1000000
/-- What was written is read as it was. -/
theorem chk_plain (v : Vl) : v.plain.chk = v.chk := by
  have hk := kind_le v.t
  by_cases h : kind v.t = 1 ∨ kind v.t = 2
  · rw [Vl.plain_num h]
    unfold Vl.chk chk Vl.setB
    rcases h with h | h <;> simp [h]
  · by_cases h3 : kind v.t = 3 ∨ kind v.t = 4
    · rw [Vl.plain_txt h3]
      unfold Vl.chk chk Vl.setN
      rcases h3 with h | h <;> simp [h]
    · rw [Vl.plain_none (by omega)]
theorem enc_dec (v : Vl) (h : v.chk = 0) : decE v.t v.enc = 0 ∧ decW v.t v.enc = v.plain := by
  have hE : v.enc = if 0 < siz v.t then lowL v.n (siz v.t) else v.s.data.toList := by
    show encV v.t v.n v.s = _
    unfold encV
    rw [if_pos (show chk v.t v.n v.s = 0 from h)]
    rfl
  have hk0 : kind v.t ≠ 0 := by
    intro e
    have : v.chk = 1 := by unfold Vl.chk chk; simp [e]
    omega
  have hz := siz_zero v.t
  have hp := chk_plain v
  rw [h] at hp
  by_cases hs : 0 < siz v.t
  · rw [if_pos hs] at hE
    have hl : v.enc.length = siz v.t := by rw [hE, lowL_length]
    have hk : kind v.t = 1 ∨ kind v.t = 2 := by omega
    have hN : decN v.t v.enc = v.n := by
      rw [← wide_dec hs hl, hE]
      show wv v = v.n
      rcases hk with hk | hk
      · by_cases h1 : v.t = 1
        · have := chk_bool h1
          rw [h] at this
          by_cases hc : wv v = v.n ∧ ¬ 1 < v.n
          · exact hc.1
          · rw [if_neg hc] at this; omega
        · have := chk_num1 hk h1
          rw [h] at this
          by_cases hc : wv v = v.n
          · exact hc
          · rw [if_neg hc] at this; omega
      · have := chk_num2 hk
        rw [h] at this
        by_cases hc : wv v = v.n
        · exact hc
        · rw [if_neg hc] at this; omega
    have hS : decS v.t v.enc = ⟨#[]⟩ := by unfold decS; rw [if_pos hk]
    have hF : fitE v.t v.enc.length = 0 := by
      have := siz_le v.t
      rw [hl]
      unfold fitE
      rw [if_neg hk0, if_neg (by omega), if_neg (by omega)]
    have e1 : decE v.t v.enc = 0 := by
      unfold decE
      rw [hF, hN, hS, if_neg (by simp)]
      rw [Vl.plain_num hk] at hp
      have : chk v.t v.n ⟨#[]⟩ = 0 := hp
      rw [this, if_neg (by simp)]
    refine ⟨e1, ?_⟩
    unfold decW
    rw [if_pos e1, hN, hS, Vl.plain_num hk]
    exact mkV_eq _ _ _
  · rw [if_neg hs] at hE
    have hk : kind v.t = 3 ∨ kind v.t = 4 := by
      have := kind_le v.t
      omega
    have hle : v.s.size ≤ 65536 := by
      have h' : Ty.chk v.t v.n v.s = 0 := h
      unfold chk at h'
      rw [if_neg (by omega), if_neg (by omega), if_neg hk0] at h'
      by_cases hc : 65536 < v.s.size
      · rw [if_pos hc] at h'; omega
      · omega
    have hN : decN v.t v.enc = 0 := by unfold decN; rw [if_neg (by omega), if_neg (by omega)]
    have hS : decS v.t v.enc = v.s := by
      unfold decS
      rw [if_neg (by omega), hE]
    have hF : fitE v.t v.enc.length = 0 := by
      rw [hE]
      unfold fitE
      rw [if_neg hk0, if_neg (by omega), if_neg (by simp; omega)]
    have e1 : decE v.t v.enc = 0 := by
      unfold decE
      rw [hF, hN, hS, if_neg (by simp)]
      rw [Vl.plain_txt hk] at hp
      have : chk v.t 0 v.s = 0 := hp
      rw [this, if_neg (by simp)]
    refine ⟨e1, ?_⟩
    unfold decW
    rw [if_pos e1, hN, hS, Vl.plain_txt hk]
    exact mkV_eq _ _ _
end Go.Proofs.Ytdcogpadioeclaa
namespace Go.Proofs.Ytdcogpadioeclaa
open Go.Proofs.Ty
set_option linter.unusedVariables false
set_option maxRecDepth 1000000
set_option linter.unusedSimpArgs false
/-- What is saved of one entry: where it is, its bytes. -/
structure Sv where
  ix : Nat
  sb : Nat
  raw : List UInt8
  hix : ix < 65536
  hsb : sb < 256
def Sv.pl (s : Sv) : Nat := s.ix * 256 + s.sb
/-- How many bytes stand behind a head. -/
def hdN (b : List UInt8) : Nat := joinL ((b.drop 3).take 4)
theorem hdN_lt (b : List UInt8) : hdN b < 4294967296 := by
  have h := joinL_lt ((b.drop 3).take 4)
  have h2 : ((b.drop 3).take 4).length ≤ 4 := by rw [List.length_take]; omega
  have h3 : 256 ^ ((b.drop 3).take 4).length ≤ 256 ^ 4 := Nat.pow_le_pow_right (by omega) h2
  have h4 : (256 : Nat) ^ 4 = 4294967296 := by decide
  unfold hdN
  omega
def svOf (b : List UInt8) : Sv := ⟨(b.getD 0 0).toNat + 256 * (b.getD 1 0).toNat, (b.getD 2 0).toNat, (b.drop 7).take (hdN b), by have := (b.getD 0 0).toNat_lt; have := (b.getD 1 0).toNat_lt; omega, (b.getD 2 0).toNat_lt⟩
/-- Bytes as saved values; none, if they are no list. -/
def cutL (ah : Int) (b : List UInt8) : Option (List Sv) :=
  if h0 : b = [] then some [] else if b.length < 7 then none else if b.length - 7 < hdN b then none else if ((svOf b).pl : Int) ≤ ah then none else (cutL ((svOf b).pl : Int) (b.drop (7 + hdN b))).map (svOf b :: ·)
termination_by b.length
decreasing_by
  have : 0 < b.length := List.length_pos_iff.2 h0
  rw [List.length_drop]; omega
theorem cutL_nil (ah : Int) : cutL ah [] = some [] := by rw [cutL]; simp
theorem cutL_short {ah : Int} {b : List UInt8} (h0 : b ≠ []) (h : b.length < 7) : cutL ah b = none := by rw [cutL, dif_neg h0, if_pos h]
theorem cutL_long {ah : Int} {b : List UInt8} (h1 : 7 ≤ b.length) (h : b.length - 7 < hdN b) : cutL ah b = none := by
  have h0 : b ≠ [] := by intro e; subst e; simp at h1
  rw [cutL, dif_neg h0, if_neg (by omega), if_pos h]
theorem cutL_low {ah : Int} {b : List UInt8} (h1 : 7 ≤ b.length) (h : ((svOf b).pl : Int) ≤ ah) : cutL ah b = none := by
  have h0 : b ≠ [] := by intro e; subst e; simp at h1
  rw [cutL, dif_neg h0, if_neg (by omega)]
  split
  · rfl
  · rfl
theorem cutL_go {ah : Int} {b : List UInt8} (h1 : 7 ≤ b.length) (h2 : ¬ b.length - 7 < hdN b) (h : ¬ ((svOf b).pl : Int) ≤ ah) : cutL ah b = (cutL ((svOf b).pl : Int) (b.drop (7 + hdN b))).map (svOf b :: ·) := by
  have h0 : b ≠ [] := by intro e; subst e; simp at h1
  conv => lhs; rw [cutL]
  rw [dif_neg h0, if_neg (by omega), if_neg h2, if_neg h]
theorem cutL_cons {ah : Int} {b : List UInt8} {s : Sv} {r : List Sv} (h : cutL ah b = some (s :: r)) : 7 ≤ b.length ∧ hdN b ≤ b.length - 7 ∧ s = svOf b ∧ cutL (s.pl : Int) (b.drop (7 + hdN b)) = some r := by
  by_cases h0 : b = []
  · subst h0; rw [cutL_nil] at h; simp at h
  · by_cases h1 : b.length < 7
    · rw [cutL_short h0 h1] at h; cases h
    · by_cases h2 : b.length - 7 < hdN b
      · rw [cutL_long (by omega) h2] at h; cases h
      · by_cases h3 : ((svOf b).pl : Int) ≤ ah
        · rw [cutL_low (by omega) h3] at h; cases h
        · rw [cutL_go (by omega) h2 h3] at h
          cases hc : cutL ((svOf b).pl : Int) (b.drop (7 + hdN b)) with
          | none => rw [hc] at h; cases h
          | some t =>
            rw [hc] at h
            simp only [Option.map_some, Option.some.injEq, List.cons.injEq] at h
            obtain ⟨rfl, rfl⟩ := h
            exact ⟨by omega, by omega, rfl, hc⟩
theorem cutL_done {ah : Int} {b : List UInt8} (h : cutL ah b = some []) : b = [] := by
  by_cases h0 : b = []
  · exact h0
  · by_cases h1 : b.length < 7
    · rw [cutL_short h0 h1] at h; cases h
    · by_cases h2 : b.length - 7 < hdN b
      · rw [cutL_long (by omega) h2] at h; cases h
      · by_cases h3 : ((svOf b).pl : Int) ≤ ah
        · rw [cutL_low (by omega) h3] at h; cases h
        · rw [cutL_go (by omega) h2 h3] at h
          cases hc : cutL ((svOf b).pl : Int) (b.drop (7 + hdN b)) with
          | none => rw [hc] at h; cases h
          | some t => rw [hc] at h; simp at h
/-- A list is no longer than its bytes. -/
theorem cutL_len {ah : Int} {b : List UInt8} {l : List Sv} (h : cutL ah b = some l) : l.length ≤ b.length := by
  induction l generalizing ah b with
  | nil => simp
  | cons s r ih =>
    obtain ⟨h1, h2, _, h4⟩ := cutL_cons h
    have := ih h4
    rw [List.length_drop] at this
    simp only [List.length_cons]; omega
end Go.Proofs.Ytdcogpadioeclaa
namespace Go.Proofs.Ytdcogpadioeclaa
open Go.RowKit Go.Proofs.Ty Go.Sort Go.Lib
set_option linter.unusedVariables false
set_option maxRecDepth 1000000
set_option linter.unusedSimpArgs false
/-- The code with which a list is refused; the items behind it. -/
def ldC (its : List Im) : List Sv → Nat
  | [] => 0
  | s :: r => match fnd its s.ix s.sb with
    | none => 4
    | some i => if i.e.ac ≠ 2 then 4 else if decE i.e.df.t s.raw ≠ 0 then 8 else ldC its r
def putS (its : List Im) (s : Sv) : List Im := match fnd its s.ix s.sb with
  | none => its
  | some i => setV its i.b (decW i.e.df.t s.raw)
def layV (its : List Im) (ss : List Sv) : List Im := ss.foldl putS its
def loadC (its : List Im) (b : List UInt8) : Nat := match cutL (-1) b with
  | none => 8
  | some ss => ldC its ss
def loadI (its : List Im) (b : List UInt8) : List Im := match cutL (-1) b with
  | none => its
  | some ss => if ldC its ss = 0 then layV its ss else its
theorem Al.putS {es : List En} {bs : List Nat} {its : List Im} (h : Al es bs its) (s : Sv) : Al es bs (putS its s) := by
  unfold Go.Proofs.Ytdcogpadioeclaa.putS
  split
  · exact h
  · exact h.set _ _
theorem Al.layV {es : List En} {bs : List Nat} {its : List Im} (h : Al es bs its) (ss : List Sv) : Al es bs (layV its ss) := by
  induction ss generalizing its with
  | nil => exact h
  | cons s r ih => exact ih (h.putS s)
theorem Al.loadI {es : List En} {bs : List Nat} {its : List Im} (h : Al es bs its) (b : List UInt8) : Al es bs (loadI its b) := by
  unfold Go.Proofs.Ytdcogpadioeclaa.loadI
  split
  · exact h
  · split
    · exact h.layV _
    · exact h
/-- Entries alone tell what is found. -/
theorem fnd_e {a b : List Im} (h : a.map Im.e = b.map Im.e) (ix sb : Nat) : (fnd a ix sb).map Im.e = (fnd b ix sb).map Im.e := by
  have key : ∀ c : List Im, (fnd c ix sb).map Im.e = (c.map Im.e).find? (fun e => e.ix == ix && e.sb == sb) := fun c => by
    unfold fnd
    rw [List.find?_map]
    rfl
  rw [key, key, h]
theorem ldC_e {a b : List Im} (h : a.map Im.e = b.map Im.e) (ss : List Sv) : ldC a ss = ldC b ss := by
  induction ss with
  | nil => rfl
  | cons s r ih =>
    have hf := fnd_e h s.ix s.sb
    rw [ldC, ldC, ih]
    cases ha : fnd a s.ix s.sb with
    | none =>
      rw [ha] at hf
      cases hb : fnd b s.ix s.sb with
      | none => rfl
      | some j => rw [hb] at hf; cases hf
    | some i =>
      rw [ha] at hf
      cases hb : fnd b s.ix s.sb with
      | none => rw [hb] at hf; cases hf
      | some j =>
        rw [hb] at hf
        simp only [Option.map_some, Option.some.injEq] at hf
        simp only
        rw [hf]
/-- What is known of an item, whatever is done. -/
structure Ok (i : Im) : Prop where
  lim : i.e.li = true → ordE i.e.df i.e.mn = 0 ∧ ordE i.e.df i.e.mx = 0
  df : i.e.df.chk = 0
  dfp : decE i.e.df.t i.e.df.enc = 0 ∧ decW i.e.df.t i.e.df.enc = i.e.df
  val : decE i.e.df.t i.v.enc = 0 ∧ decW i.e.df.t i.v.enc = i.v
theorem Ok.t {i : Im} (h : Ok i) : i.v.t = i.e.df.t := by
  have := dec_t i.e.df.t i.e.df.ht i.v.enc h.val.1
  rw [h.val.2] at this
  exact this
theorem Ok.dec {i : Im} (h : Ok i) {l : List UInt8} (hE : decE i.e.df.t l = 0) : Ok ⟨i.b, i.e, decW i.e.df.t l⟩ := by
  have he := (dec_enc i.e.df.t i.e.df.ht l hE).2
  exact ⟨h.lim, h.df, h.dfp, by show decE i.e.df.t (decW i.e.df.t l).enc = 0 ∧ decW i.e.df.t (decW i.e.df.t l).enc = decW i.e.df.t l; rw [he]; exact ⟨hE, rfl⟩⟩
theorem plain_enc_dec {v : Vl} (h : v.chk = 0) : decE v.t v.plain.enc = 0 ∧ decW v.t v.plain.enc = v.plain := by
  have hp : v.plain.chk = 0 := by rw [chk_plain]; exact h
  have h1 := enc_dec v.plain hp
  have h2 := enc_dec v h
  have ht : v.plain.t = v.t := rfl
  rw [ht] at h1
  have h3 : v.plain.enc = v.enc := by
    have e1 := (dec_enc v.t v.ht v.plain.enc h1.1).2
    have e2 := (dec_enc v.t v.ht v.enc h2.1).2
    rw [h2.2] at e2
    exact e2
  rw [h3]
  exact h2
theorem Ok.plain {i : Im} (h : Ok i) {v : Vl} (hc : v.chk = 0) (ht : v.t = i.e.df.t) : Ok ⟨i.b, i.e, v.plain⟩ := by
  refine ⟨h.lim, h.df, h.dfp, ?_⟩
  show decE i.e.df.t v.plain.enc = 0 ∧ decW i.e.df.t v.plain.enc = v.plain
  rw [← ht]
  exact plain_enc_dec hc
theorem ok_new {e : En} (h : e.can = 0) (b : Nat) : Ok ⟨b, e.plain, e.plain.df⟩ := by
  have hg := gd_new h b
  have hd := (can_zero h).1
  have hp : e.plain.df.chk = 0 := by show e.df.plain.chk = 0; rw [chk_plain]; exact hd
  have hpe : decE e.plain.df.t e.plain.df.enc = 0 ∧ decW e.plain.df.t e.plain.df.enc = e.plain.df := plain_enc_dec hd
  exact ⟨hg.lim, hp, hpe, hpe⟩
theorem ok_set {its : List Im} (hd : (its.map Im.b).Nodup) (h : ∀ i ∈ its, Ok i) {i : Im} (hi : i ∈ its) {v : Vl} (hv : Ok ⟨i.b, i.e, v⟩) : ∀ j ∈ setV its i.b v, Ok j := by
  intro j hj
  obtain ⟨y, hy, rfl⟩ := List.mem_map.1 hj
  by_cases e : y.b = i.b
  · rw [if_pos e]
    have := mem_b hd hy hi e
    subst this
    exact hv
  · rw [if_neg e]; exact h y hy
theorem ok_wrt {its : List Im} (hd : (its.map Im.b).Nodup) (h : ∀ i ∈ its, Ok i) (ix sb : Nat) (l : List UInt8) : ∀ i ∈ wrt its ix sb l, Ok i := by
  unfold wrt
  split
  · rename_i hc
    obtain ⟨i, hf, ha, hE, hb⟩ := wc_zero hc
    rw [hf]
    exact ok_set hd h (fnd_mem hf) ((h i (fnd_mem hf)).dec hE)
  · exact h
theorem ok_sett {its : List Im} (hd : (its.map Im.b).Nodup) (h : ∀ i ∈ its, Ok i) (ix sb : Nat) (v : Vl) : ∀ i ∈ sett its ix sb v, Ok i := by
  unfold sett
  cases hf : fnd its ix sb with
  | none => exact h
  | some i =>
    simp only
    split
    · rename_i hc
      unfold setc at hc
      rw [hf] at hc
      simp only at hc
      split at hc
      · exact absurd hc (by decide)
      · split at hc
        · exact absurd hc (by decide)
        · rename_i h1 h2
          exact ok_set hd h (fnd_mem hf) ((h i (fnd_mem hf)).plain hc (Decidable.not_not.1 h2))
    · exact h
theorem ok_layV {its : List Im} (hd : (its.map Im.b).Nodup) (h : ∀ i ∈ its, Ok i) (ss : List Sv) (hc : ldC its ss = 0) : ∀ i ∈ layV its ss, Ok i := by
  induction ss generalizing its with
  | nil => exact h
  | cons s r ih =>
    rw [ldC] at hc
    cases hf : fnd its s.ix s.sb with
    | none => rw [hf] at hc; simp at hc
    | some i =>
      rw [hf] at hc
      simp only at hc
      split at hc
      · exact absurd hc (by decide)
      · split at hc
        · exact absurd hc (by decide)
        · rename_i h1 h2
          have al : Al (its.map Im.e) (its.map Im.b) (putS its s) := Al.putS ⟨rfl, rfl⟩ s
          have e1 : layV its (s :: r) = layV (putS its s) r := rfl
          rw [e1]
          refine ih (by rw [al.b]; exact hd) ?_ (by rw [ldC_e al.e]; exact hc)
          have e2 : putS its s = setV its i.b (decW i.e.df.t s.raw) := by unfold putS; rw [hf]
          rw [e2]
          exact ok_set hd h (fnd_mem hf) ((h i (fnd_mem hf)).dec (Decidable.not_not.1 h2))
theorem ok_loadI {its : List Im} (hd : (its.map Im.b).Nodup) (h : ∀ i ∈ its, Ok i) (b : List UInt8) : ∀ i ∈ loadI its b, Ok i := by
  unfold loadI
  split
  · exact h
  · split
    · rename_i hc; exact ok_layV hd h _ hc
    · exact h
/-- Items with what they had at first. -/
def resetI (its : List Im) : List Im := its.map (fun i => ⟨i.b, i.e, i.e.df⟩)
theorem Al.resetI {es : List En} {bs : List Nat} {its : List Im} (h : Al es bs its) : Al es bs (resetI its) := ⟨by rw [← h.e]; unfold Go.Proofs.Ytdcogpadioeclaa.resetI; rw [List.map_map]; rfl, by rw [← h.b]; unfold Go.Proofs.Ytdcogpadioeclaa.resetI; rw [List.map_map]; rfl⟩
theorem ok_resetI {its : List Im} (h : ∀ i ∈ its, Ok i) : ∀ i ∈ resetI its, Ok i := by
  intro j hj
  obtain ⟨i, hi, rfl⟩ := List.mem_map.1 hj
  have := h i hi
  exact ⟨this.lim, this.df, this.dfp, this.dfp⟩
/-- Limits: the program's code is the document's. -/
theorem bey_wi {i : Im} (h : Ok i) {l : List UInt8} (hE : decE i.e.df.t l = 0) (hl : i.e.li = true) : wiC i.e (decW i.e.df.t l) = bey i.e (decW i.e.df.t l) := by
  obtain ⟨k1, k2⟩ := h.lim hl
  have c1 := (dec_enc i.e.df.t i.e.df.ht l hE).1
  have t1 := dec_t i.e.df.t i.e.df.ht l hE
  obtain ⟨a1, a2, a3⟩ := ord_zero k1
  obtain ⟨b1, b2, b3⟩ := ord_zero k2
  have e1 : ordE (decW i.e.df.t l) i.e.mn = 0 := zero_ord c1 a2 (t1.trans a3)
  have e2 : ordE (decW i.e.df.t l) i.e.mx = 0 := zero_ord c1 b2 (t1.trans b3)
  have hB : wiB i.e (decW i.e.df.t l) = true := by unfold wiB; rw [e1, e2]; rfl
  unfold wiC bey
  rw [if_neg (show ¬ wiB i.e (decW i.e.df.t l) = false by rw [hB]; simp), if_neg (show ¬ i.e.li = false by rw [hl]; simp)]
/-- Where an entry is, in the document's list. -/
def fiN (L : List En) (ix sb : Nat) : Nat := match L.findIdx? (fun e => e.ix == ix && e.sb == sb) with
  | none => 0
  | some k => k
def fiC (L : List En) (ix sb : Nat) : Nat := match L.findIdx? (fun e => e.ix == ix && e.sb == sb) with
  | none => if L.any (fun e => e.ix == ix) then 101253137 else 100794368
  | some k => 0
theorem fi_none {its : List Im} {ix sb : Nat} (h : fnd its ix sb = none) : fiN (its.map Im.e) ix sb = 0 ∧ fiC (its.map Im.e) ix sb = noc its ix := by
  have h1 : (its.map Im.e).findIdx? (fun e => e.ix == ix && e.sb == sb) = none := by
    rw [List.findIdx?_eq_none_iff]
    intro e he
    obtain ⟨i, hi, rfl⟩ := List.mem_map.1 he
    have := List.find?_eq_none.1 h i hi
    simpa using this
  unfold fiN fiC noc
  rw [h1, List.any_map]
  exact ⟨rfl, rfl⟩
theorem fi_some {its : List Im} {ix sb : Nat} {i : Im} (h : fnd its ix sb = some i) : ∃ k, ∃ hk : k < its.length, its[k] = i ∧ fiN (its.map Im.e) ix sb = k ∧ fiC (its.map Im.e) ix sb = 0 := by
  obtain ⟨k, hk, e1, e2⟩ := List.find?_eq_some_iff_getElem.1 h |>.2
  refine ⟨k, hk, e1, ?_⟩
  have h0 := (List.find?_eq_some_iff_getElem.1 h).1
  have h1 : (its.map Im.e).findIdx? (fun e => e.ix == ix && e.sb == sb) = some k := by
    rw [List.findIdx?_eq_some_iff_getElem]
    refine ⟨by simpa using hk, ?_, fun j hj => ?_⟩
    · simp only [List.getElem_map]; rw [e1]; simpa using h0
    · have := e2 j hj
      simp at this ⊢
      intro g1 g2
      rcases this with g | g
      · exact g g1
      · exact g g2
  unfold fiN fiC
  rw [h1]
  exact ⟨rfl, rfl⟩
theorem setV_get (its : List Im) (b : Nat) (v : Vl) (j : Nat) (hj : j < its.length) (h : j < (setV its b v).length) : (setV its b v)[j] = if its[j].b = b then ⟨its[j].b, its[j].e, v⟩ else its[j] := by
  simp only [setV, List.getElem_map]
/-- A value put at one place, in the program's items and in the document's row. -/
theorem setV_v {its : List Im} (hd : (its.map Im.b).Nodup) {k : Nat} (hk : k < its.length) (v : Vl) : (setV its its[k].b v).map Im.v = (its.map Im.v).set k v := by
  apply List.ext_getElem
  · simp [setV_len]
  · intro j h1 h2
    have hj : j < its.length := by simpa [setV_len] using h1
    rw [List.getElem_set]
    simp only [List.getElem_map]
    rw [setV_get its _ v j hj]
    by_cases e : k = j
    · subst e; simp
    · rw [if_neg e]
      have : its[j].b ≠ its[k].b := fun h => by
        have h3 := List.pairwise_iff_getElem.1 hd
        rcases Nat.lt_or_gt_of_ne e with h4 | h4
        · exact h3 k j (by simpa using hk) (by simpa using hj) h4 (by simp only [List.getElem_map]; exact h.symm)
        · exact h3 j k (by simpa using hj) (by simpa using hk) h4 (by simp only [List.getElem_map]; exact h)
      rw [if_neg this]
end Go.Proofs.Ytdcogpadioeclaa
namespace Go.Proofs.Ytdcogpadioeclaa
open Go.RowKit Go.Proofs.Ty Go.Sort Go.Lib
set_option linter.unusedVariables false
set_option maxRecDepth 1000000
set_option linter.unusedSimpArgs false
def cdT (L : List En) (ix k : Nat) : Nat := if (L.take k).any (fun e => e.ix == ix) then 101253137 else 100794368
def NoT (L : List En) (ix sb k : Nat) : Prop := ∀ m (hm : m < L.length), m < k → ¬ (L[m].ix = ix ∧ L[m].sb = sb)
theorem cdT_hit {L : List En} {ix k : Nat} (hk : k < L.length) (h : L[k].ix = ix) : cdT L ix (k + 1) = 101253137 := by
  unfold cdT
  rw [List.take_succ_eq_append_getElem hk, List.any_append, if_pos]
  simp [h]
theorem cdT_miss {L : List En} {ix k : Nat} (hk : k < L.length) (h : L[k].ix ≠ ix) : cdT L ix (k + 1) = cdT L ix k := by
  unfold cdT
  rw [List.take_succ_eq_append_getElem hk, List.any_append]
  simp [h]
theorem NoT.step {L : List En} {ix sb k : Nat} (h : NoT L ix sb k) (hk : k < L.length) (hn : ¬ (L[k].ix = ix ∧ L[k].sb = sb)) : NoT L ix sb (k + 1) := by
  intro m hm h1
  rcases Nat.lt_or_ge m k with h3 | h3
  · exact h m hm h3
  · have : m = k := by omega
    subst this; exact hn
theorem NoT.hit {L : List En} {ix sb k : Nat} (h : NoT L ix sb k) (hk : k < L.length) (h1 : L[k].ix = ix) (h2 : L[k].sb = sb) : fiN L ix sb = k ∧ fiC L ix sb = 0 := by
  have : L.findIdx? (fun e => e.ix == ix && e.sb == sb) = some k := by
    rw [List.findIdx?_eq_some_iff_getElem]
    refine ⟨hk, by simp [h1, h2], fun j hj => ?_⟩
    have := h j (by omega) hj
    simpa using this
  unfold fiN fiC
  rw [this]
  exact ⟨rfl, rfl⟩
theorem NoT.miss {L : List En} {ix sb : Nat} (h : NoT L ix sb L.length) : fiN L ix sb = 0 ∧ fiC L ix sb = cdT L ix L.length := by
  have : L.findIdx? (fun e => e.ix == ix && e.sb == sb) = none := by
    rw [List.findIdx?_eq_none_iff]
    intro e he
    obtain ⟨j, hj, rfl⟩ := List.getElem_of_mem he
    have := h j hj hj
    simpa using this
  unfold fiN fiC cdT
  rw [this, List.take_length]
  exact ⟨rfl, rfl⟩
set_option maxHeartbeats 4000000 in
theorem QFind_any {E : Nat} {L : List En} {vL : Value} {V : List Vl} {vV : Value} {w : World} (h : Rd E L vL V vV w) (hl : L.length ≤ 1024) (ix sb : Nat) :
    Calls Try.prog 29 #[.pointer (some ⟨E, 0, none⟩), .int .u16 ix, .int .u8 sb] w fun e w' => e = .returned (.tuple #[.int .i64 (fiN L ix sb), .int .u32 (fiC L ix sb)]) ∧ w' = w := by
  obtain ⟨aL, cL, rfl⟩ := h.rowL.wide.shape
  have c0 := h.c.1
  have HW := hidOf2 h.rowL.wide
  have HM := hidOf2 (@NoT.miss L ix sb)
  have HH := hidOf2 (fun k => @NoT.hit L ix sb k)
  generalize fiN L ix sb = FN at *
  generalize fiC L ix sb = FC at *
  clear h
  go_enter Try.func29, Try.ntmps29
  go_wp2
  go_loop [8, 9] (fun c i => ∃ k : Nat, k ≤ L.length ∧ i = .int .i64 k ∧ c = .int .u32 (cdT L ix k) ∧ Hid (NoT L ix sb k)) (fun _ i => L.length - (intOf i).toNat)
  case atStart => exact ⟨0, Nat.zero_le _, rfl, rfl, fun m hm h => by omega⟩
  case round =>
    obtain ⟨k, hk, rfl, rfl, HN⟩ := hrel
    by_cases hkl : k < L.length
    · obtain ⟨b, off, cp, hv, hb, hR⟩ := HW.out.at0 k hkl
      injection hv with hv1 _ hv3
      subst hv1
      subst hv3
      have k0 := hR 0 _ rfl
      have k1 := hR 1 _ rfl
      simp only [Nat.add_zero] at k0
      have HT := hidOf2 (HN.out.step hkl)
      have HC1 := hidOf2 (@cdT_hit L ix k hkl)
      have HC2 := hidOf2 (@cdT_miss L ix k hkl)
      have HH1 := hidOf2 (HH.out k HN.out hkl)
      clear hR hb HN
      generalize L[k].ix = X1 at *
      generalize L[k].sb = X2 at *
      by_cases hx : X1 = ix
      · subst hx
        have e0 := hidOf2 (HC1.out rfl)
        by_cases hy : X2 = sb
        · subst hy
          have e1 := hidOf2 (HH1.out rfl rfl)
          clear HC1 HC2 HT HH1
          generalize cdT L X1 k = C at *
          go_wp2
          go_ret2
          exact ⟨by rw [e1.out.1, e1.out.2]; rfl, rfl⟩
        · have d3 : ((X2 : Int) == (sb : Int)) = false := by simp; omega
          have e1 := hidOf2 (HT.out (fun h => hy h.2))
          clear HC1 HC2 HT HH1
          generalize cdT L X1 k = C at *
          go_wp2
          go_round
          case rel => exact ⟨k + 1, by omega, by go_num, by rw [e0.out]; rfl, e1⟩
          case measure => simp [intOf]; omega
      · have d3 : ((X1 : Int) == (ix : Int)) = false := by simp; omega
        have e0 := hidOf2 (HC2.out hx)
        have e1 := hidOf2 (HT.out (fun h => hx h.1))
        clear HC1 HC2 HT HH1
        generalize cdT L ix k = C at *
        go_wp2
        go_round
        case rel => exact ⟨k + 1, by omega, by go_num, by rw [e0.out], e1⟩
        case measure => simp [intOf]; omega
    · have e1 : k = L.length := by omega
      subst e1
      have e2 := hidOf2 (HM.out HN.out)
      clear HN HM HH
      generalize cdT L ix L.length = C at *
      go_wp2
      go_ret2
      exact ⟨by rw [e2.out.1, e2.out.2]; rfl, rfl⟩
/-- The k-th entry of the document's dictionary, its value. -/
theorem Rd.atI {E : Nat} {its : List Im} {vL vV : Value} {w : World} (h : Rd E (its.map Im.e) vL (its.map Im.v) vV w) {k : Nat} (hk : k < its.length) : ∃ lb lo cL vb vo cV, vL = .slice (some ⟨lb, lo, none⟩) its.length cL ∧ vV = .slice (some ⟨vb, vo, none⟩) its.length cV ∧ lb < w.heap.size ∧ vb < w.heap.size ∧ w.rangeAt lb (lo + k * 14) (enC its[k].e) ∧ w.rangeAt vb (vo + k * 3) (vlC its[k].v) := by
  obtain ⟨lb, lo, cL, h1, h2, h3⟩ := h.rowL.wide.at0 k (by simpa using hk)
  obtain ⟨vb, vo, cV, g1, g2, g3⟩ := h.rowV.wide.at0 k (by simpa using hk)
  rw [List.length_map] at h1 g1
  rw [List.getElem_map] at h3 g3
  exact ⟨lb, lo, cL, vb, vo, cV, h1, g1, h2, g2, h3, g3⟩
set_option maxHeartbeats 4000000 in
theorem QRead_any {E : Nat} {its : List Im} {vL vV : Value} {w : World} (h : Rd E (its.map Im.e) vL (its.map Im.v) vV w) (hl : its.length ≤ 1024) (ix sb : Nat) :
    Calls Try.prog 25 #[.pointer (some ⟨E, 0, none⟩), .int .u16 ix, .int .u8 sb] w fun e w' => ∃ x, e = .returned (.tuple #[x, .int .u32 (rdC its ix sb)]) ∧ Bytes w' x (rdL its ix sb) ∧ Below w.heap.size w w' := by
  have hF := QFind_any h (by simpa using hl) ix sb
  have HC : Hid (rdC its ix sb = match fnd its ix sb with
    | none => noc its ix
    | some i => if i.e.ac = 1 then 100728833 else 0) := rfl
  have HL : Hid (rdL its ix sb = match fnd its ix sb with
    | none => []
    | some i => if i.e.ac = 1 then [] else i.v.enc) := rfl
  generalize rdC its ix sb = C at *
  generalize rdL its ix sb = L at *
  cases hf : fnd its ix sb with
  | none =>
    rw [hf] at HC HL
    obtain ⟨f1, f2⟩ := fi_none hf
    rw [f1, f2] at hF
    have d1 : ((noc its ix : Int) != 0) = true := by have := noc_ne its ix; simp; omega
    generalize noc its ix = N at *
    clear h hf f1 f2
    go_enter Try.func25, Try.ntmps25
    go_wp2_with fail
    refine hF.mono ?_
    rintro e w1 ⟨rfl, rfl⟩
    clear hF
    go_wp2
    go_ret2
    exact ⟨_, by rw [HC.out]; rfl, by rw [HL.out]; exact bytes_nil _, Below.refl _ _⟩
  | some i =>
    rw [hf] at HC HL
    obtain ⟨k, hk, e1, f1, f2⟩ := fi_some hf
    obtain ⟨c0, c1⟩ := h.c
    obtain ⟨lb, lo, cL, vb, vo, cV, rfl, rfl, hlb, hvb, rL, rV⟩ := h.atI hk
    rw [e1] at rL rV
    rw [f1, f2] at hF
    have k2 := rL 2 _ rfl
    have hE := r7Encode_v i.v w
    clear h hf e1 f1 f2 rL
    generalize its.length = n at *
    go_enter Try.func25, Try.ntmps25
    go_wp2_with fail
    refine hF.mono ?_
    rintro e w1 ⟨rfl, rfl⟩
    clear hF
    by_cases ha : i.e.ac = 1
    · have HC2 := hidOf2 (show C = 100728833 from HC.out.trans (if_pos ha))
      have HL2 := hidOf2 (show L = [] from HL.out.trans (if_pos ha))
      rw [ha] at k2
      clear HC HL hE ha
      go_wp2
      go_ret2
      exact ⟨_, by rw [HC2.out]; rfl, by rw [HL2.out]; exact bytes_nil _, Below.refl _ _⟩
    · have HC2 := hidOf2 (show C = 0 from HC.out.trans (if_neg ha))
      have HL2 := hidOf2 (show L = i.v.enc from HL.out.trans (if_neg ha))
      have d1 : (i.e.ac == 1) = false := by simpa using ha
      clear HC HL ha
      generalize i.e.ac = A at *
      go_wp2_with (first | (refine ldV rV rfl _ rfl rfl ?_))
      refine hE.mono ?_
      rintro y w2 ⟨x, rfl, hB, b2⟩
      obtain ⟨ao, cap, rfl⟩ := bytes_shape hB
      have HB := hidOf2 hB
      clear hE hB
      go_wp2
      go_ret2
      exact ⟨_, by rw [HC2.out]; rfl, by rw [HL2.out]; exact HB.out, b2⟩
end Go.Proofs.Ytdcogpadioeclaa
namespace Go.Proofs.Ytdcogpadioeclaa
open Go.RowKit Go.Proofs.Ty Go.Sort Go.Lib
set_option linter.unusedVariables false
set_option maxRecDepth 1000000
set_option linter.unusedSimpArgs false
theorem chk_kind {v : Vl} (h : v.chk = 0) : kind v.t ≠ 0 := by
  intro e
  have : v.chk = 1 := by unfold Vl.chk chk; simp [e]
  omega
theorem dec_cases {t : Int} (h : kind t ≠ 0) (l : List UInt8) : decE t l = 0 ∨ decE t l = 2 ∨ decE t l = 3 ∨ decE t l = 8 := by
  unfold decE
  by_cases hf : fitE t l.length ≠ 0
  · rw [if_pos hf]
    unfold fitE at hf ⊢
    rw [if_neg h] at hf ⊢
    (repeat' split) <;> simp
  · rw [if_neg hf]
    split <;> simp
set_option maxHeartbeats 8000000 in
theorem QMay_any {E : Nat} {its : List Im} {vL vV : Value} {w : World} (h : Rd E (its.map Im.e) vL (its.map Im.v) vV w) (hl : its.length ≤ 1024) (hok : ∀ i ∈ its, Ok i) (ix sb : Nat) (vb : Value) (l : List UInt8) (hB : Bytes w vb l) :
    Calls Try.prog 27 #[.pointer (some ⟨E, 0, none⟩), .int .u16 ix, .int .u8 sb, vb] w fun e w' => e = .returned (.int .u32 (wc its ix sb l)) ∧ Below w.heap.size w w' := by
  have hF := QFind_any h (by simpa using hl) ix sb
  have HC : Hid (wc its ix sb l = match fnd its ix sb with
    | none => noc its ix
    | some i => wcode i l) := rfl
  generalize wc its ix sb l = C at *
  obtain ⟨ao, cap, rfl⟩ := bytes_shape hB
  cases hf : fnd its ix sb with
  | none =>
    rw [hf] at HC
    obtain ⟨f1, f2⟩ := fi_none hf
    rw [f1, f2] at hF
    have d1 : ((noc its ix : Int) != 0) = true := by have := noc_ne its ix; simp; omega
    generalize noc its ix = N at *
    clear h hf f1 f2 hB
    go_enter Try.func27, Try.ntmps27
    go_wp2_with fail
    refine hF.mono ?_
    rintro e w1 ⟨rfl, rfl⟩
    clear hF
    go_wp2
    go_ret
    exact ⟨ret_int (by rw [HC.out]), Below.refl _ _⟩
  | some i =>
    rw [hf] at HC
    have hO := hok i (fnd_mem hf)
    obtain ⟨k, hk, e1, f1, f2⟩ := fi_some hf
    obtain ⟨c0, c1⟩ := h.c
    obtain ⟨lb, lo, cL, vb, vo, cV, rfl, rfl, hlb, hvb, rL, rV⟩ := h.atI hk
    rw [e1] at rL
    rw [f1, f2] at hF
    have HD := hidOf2 (dec_cases (chk_kind hO.df) l)
    have HW := hidOf2 (fun hE hl => bey_wi hO (l := l) hE hl)
    have HBY : Hid (bey i.e (decW i.e.df.t l) = if i.e.li = false then 0 else if 0 < ordN (decW i.e.df.t l) i.e.mx then 101253169 else if ordN (decW i.e.df.t l) i.e.mn < 0 then 101253170 else 0) := rfl
    have HWC : Hid (wcode i l = if i.e.ac ≠ 1 ∧ i.e.ac ≠ 2 then 100728834 else if decE i.e.df.t l = 0 then bey i.e (decW i.e.df.t l) else if decE i.e.df.t l = 3 then 101122067 else if decE i.e.df.t l = 2 then 101122066 else 101253168) := rfl
    have HC2 := hidOf2 (HC.out.trans HWC.out)
    clear h hf e1 f1 f2 rV hO hok HC HWC hvb
    generalize its.length = n at *
    obtain ⟨q, hq⟩ : ∃ q, w.heap.size = q := ⟨_, rfl⟩
    have hh : (w.alloc (.cells #[.int .u16 0, .int .u8 0, .int .i64 0, .bool false, .bool false, .int .i64 0, .int .u64 0, .string ⟨#[]⟩, .int .i64 0, .int .u64 0, .string ⟨#[]⟩, .int .i64 0, .int .u64 0, .string ⟨#[]⟩] 47)).heap[q]? = some (.cells #[.int .u16 0, .int .u8 0, .int .i64 0, .bool false, .bool false, .int .i64 0, .int .u64 0, .string ⟨#[]⟩, .int .i64 0, .int .u64 0, .string ⟨#[]⟩, .int .i64 0, .int .u64 0, .string ⟨#[]⟩] 47 (0, 0)) := by rw [← hq]; exact heap_alloc_new _ _
    have hE := Eb.row hh i.e
    have bA : Below w.heap.size w (w.alloc (.cells #[.int .u16 0, .int .u8 0, .int .i64 0, .bool false, .bool false, .int .i64 0, .int .u64 0, .string ⟨#[]⟩, .int .i64 0, .int .u64 0, .string ⟨#[]⟩, .int .i64 0, .int .u64 0, .string ⟨#[]⟩] 47)) := (Below.refl _ _).alloc (Nat.le_refl _) _
    have bB := below_row bA (by omega) bA.size (q := q) i.e.arr
    have hB1 := hB.below bB
    clear bA hB
    go_enter Try.func27, Try.ntmps27
    go_wp2_with fail
    refine hF.mono ?_
    rintro e w1 ⟨rfl, rfl⟩
    clear hF
    go_upto_region 5 with (first | (refine ldE rL rfl _ rfl rfl ?_) | (refine sdE hh rfl i.e rfl _ _ rfl rfl rfl ?_))
    try simp only [hq]
    generalize ((w1.alloc (.cells #[.int .u16 0, .int .u8 0, .int .i64 0, .bool false, .bool false, .int .i64 0, .int .u64 0, .string ⟨#[]⟩, .int .i64 0, .int .u64 0, .string ⟨#[]⟩, .int .i64 0, .int .u64 0, .string ⟨#[]⟩] 47)).setRow q i.e.arr) = W1 at *
    clear hh rL hlb c0 c1
    obtain ⟨_, _, k2, _, k4, k11⟩ := hE.c
    by_cases ha : i.e.ac ≠ 1 ∧ i.e.ac ≠ 2
    · have E1 := hidOf2 (show C = 100728834 from HC2.out.trans (if_pos ha))
      have da : (i.e.ac != 1) = true := by simpa using ha.1
      have db : (i.e.ac != 2) = true := by simpa using ha.2
      clear HC2 HW HBY HD
      go_wp2
      go_ret
      exact ⟨ret_int (by rw [E1.out]; rfl), by first | exact bB | (rw [← hq] at bB ⊢; exact bB)⟩
    · have HC3 := hidOf2 (HC2.out.trans (if_neg ha))
      have hdec := r7Decode_v i.e.df.t i.e.df.ht (.slice ao l.length cap) l W1 hB1
      have hWi := r8Within_any i.e (decW i.e.df.t l)
      have hac : (i.e.ac = 1) ∨ (i.e.ac ≠ 1 ∧ i.e.ac = 2) := by omega
      have hre : Eb q i.e W1 := hE
      clear HC2 ha
      obtain ⟨dE, hdE⟩ : ∃ d, decE i.e.df.t l = d := ⟨_, rfl⟩
      obtain ⟨dV, hdV⟩ : ∃ d, decW i.e.df.t l = d := ⟨_, rfl⟩
      rw [hdE, hdV] at hdec
      rw [hdV] at hWi
      rw [hdE, hdV] at HC3 HW
      rw [hdE] at HD
      rw [hdV] at HBY
      clear hdE hdV
      rcases hac with hac | ⟨hac1, hac⟩
      · rw [hac] at k2
        go_wp2_with fail
        refine hdec.mono ?_
        rintro e w2 ⟨rfl, b2⟩
        have hE2 := hE.below b2
        have B2 := bB.trans (b2.mono bB.size)
        obtain ⟨q2, hq2⟩ : ∃ q, w2.heap.size = q := ⟨_, rfl⟩
        have g0 : Va q2 Vl.nul (w2.alloc (.cells #[.int .i64 0, .int .u64 0, .string ⟨#[]⟩] 33)) := hq2 ▸ Va.new w2 Vl.nul
        have b3 : Below w2.heap.size w2 ((w2.alloc (.cells #[.int .i64 0, .int .u64 0, .string ⟨#[]⟩] 33)).setRow q2 dV.arr) := below_row ((Below.refl _ _).alloc (Nat.le_refl _) _) (by omega) (by rw [size_alloc]; omega) dV.arr
        have g1 := g0.row dV
        have hE3 := hE2.below b3
        have B3 := B2.trans (b3.mono B2.size)
        clear k2 k4 k11
        clear hdec hE hE2 b2 b3 B2 bB hB1
        go_upto_region 8 with (first | (refine g0.sd dV rfl _ _ rfl rfl rfl ?_))
        try simp only [hq2]
        generalize ((w2.alloc (.cells #[.int .i64 0, .int .u64 0, .string ⟨#[]⟩] 33)).setRow q2 dV.arr) = w3 at *
        clear g0
        obtain ⟨_, _, _, _, k4, _⟩ := hE3.c
        have r0 := hE3.r0
        rcases HD.out with hd | hd | hd | hd
        · have HC4 := hidOf2 (HC3.out.trans (if_pos hd))
          have HW2 := hidOf2 (HW.out hd)
          subst hd
          clear HC3 HW HD
          by_cases hli : i.e.li = false
          · have E1 := hidOf2 (show C = 0 by rw [HC4.out, HBY.out, if_pos hli])
            rw [hli] at k4
            clear HC4 HW2 HBY
            go_wp2
            go_ret
            exact ⟨ret_int (by rw [E1.out]; rfl), by first | exact B3 | (rw [← hq] at B3 ⊢; exact B3)⟩
          · have hli2 : i.e.li = true := by simpa using hli
            have E1 := hidOf2 (show C = wiC i.e dV by rw [HC4.out, HW2.out hli2])
            rw [hli2] at k4
            clear HC4 HW2 HBY hli hli2
            go_wp2_with (first | (refine ldE r0 rfl _ rfl rfl ?_) | (refine g1.ld rfl _ rfl rfl ?_))
            refine (hWi w3).mono ?_
            rintro e w4 ⟨rfl, b4⟩
            have B4 := B3.trans (b4.mono B3.size)
            generalize wiC i.e dV = WC at *
            generalize wiB i.e dV = WB at *
            clear hWi
            go_wp2
            go_ret
            exact ⟨ret_int (by rw [E1.out]), by first | exact B4 | (rw [← hq] at B4 ⊢; exact B4)⟩
        · have E1 := hidOf2 (show C = 101122066 by rw [HC3.out, hd]; rfl)
          subst hd
          clear HC3 HW HD HBY
          go_wp2
          go_ret
          exact ⟨ret_int (by rw [E1.out]; rfl), by first | exact B3 | (rw [← hq] at B3 ⊢; exact B3)⟩
        · have E1 := hidOf2 (show C = 101122067 by rw [HC3.out, hd]; rfl)
          subst hd
          clear HC3 HW HD HBY
          go_wp2
          go_ret
          exact ⟨ret_int (by rw [E1.out]; rfl), by first | exact B3 | (rw [← hq] at B3 ⊢; exact B3)⟩
        · have E1 := hidOf2 (show C = 101253168 by rw [HC3.out, hd]; rfl)
          subst hd
          clear HC3 HW HD HBY
          go_wp2
          go_ret
          exact ⟨ret_int (by rw [E1.out]; rfl), by first | exact B3 | (rw [← hq] at B3 ⊢; exact B3)⟩
      · have da : (i.e.ac != 1) = true := by simpa using hac1
        rw [hac] at k2
        go_wp2_with fail
        refine hdec.mono ?_
        rintro e w2 ⟨rfl, b2⟩
        have hE2 := hE.below b2
        have B2 := bB.trans (b2.mono bB.size)
        obtain ⟨q2, hq2⟩ : ∃ q, w2.heap.size = q := ⟨_, rfl⟩
        have g0 : Va q2 Vl.nul (w2.alloc (.cells #[.int .i64 0, .int .u64 0, .string ⟨#[]⟩] 33)) := hq2 ▸ Va.new w2 Vl.nul
        have b3 : Below w2.heap.size w2 ((w2.alloc (.cells #[.int .i64 0, .int .u64 0, .string ⟨#[]⟩] 33)).setRow q2 dV.arr) := below_row ((Below.refl _ _).alloc (Nat.le_refl _) _) (by omega) (by rw [size_alloc]; omega) dV.arr
        have g1 := g0.row dV
        have hE3 := hE2.below b3
        have B3 := B2.trans (b3.mono B2.size)
        clear k2 k4 k11
        clear hdec hE hE2 b2 b3 B2 bB hB1
        go_upto_region 8 with (first | (refine g0.sd dV rfl _ _ rfl rfl rfl ?_))
        try simp only [hq2]
        generalize ((w2.alloc (.cells #[.int .i64 0, .int .u64 0, .string ⟨#[]⟩] 33)).setRow q2 dV.arr) = w3 at *
        clear g0
        obtain ⟨_, _, _, _, k4, _⟩ := hE3.c
        have r0 := hE3.r0
        rcases HD.out with hd | hd | hd | hd
        · have HC4 := hidOf2 (HC3.out.trans (if_pos hd))
          have HW2 := hidOf2 (HW.out hd)
          subst hd
          clear HC3 HW HD
          by_cases hli : i.e.li = false
          · have E1 := hidOf2 (show C = 0 by rw [HC4.out, HBY.out, if_pos hli])
            rw [hli] at k4
            clear HC4 HW2 HBY
            go_wp2
            go_ret
            exact ⟨ret_int (by rw [E1.out]; rfl), by first | exact B3 | (rw [← hq] at B3 ⊢; exact B3)⟩
          · have hli2 : i.e.li = true := by simpa using hli
            have E1 := hidOf2 (show C = wiC i.e dV by rw [HC4.out, HW2.out hli2])
            rw [hli2] at k4
            clear HC4 HW2 HBY hli hli2
            go_wp2_with (first | (refine ldE r0 rfl _ rfl rfl ?_) | (refine g1.ld rfl _ rfl rfl ?_))
            refine (hWi w3).mono ?_
            rintro e w4 ⟨rfl, b4⟩
            have B4 := B3.trans (b4.mono B3.size)
            generalize wiC i.e dV = WC at *
            generalize wiB i.e dV = WB at *
            clear hWi
            go_wp2
            go_ret
            exact ⟨ret_int (by rw [E1.out]), by first | exact B4 | (rw [← hq] at B4 ⊢; exact B4)⟩
        · have E1 := hidOf2 (show C = 101122066 by rw [HC3.out, hd]; rfl)
          subst hd
          clear HC3 HW HD HBY
          go_wp2
          go_ret
          exact ⟨ret_int (by rw [E1.out]; rfl), by first | exact B3 | (rw [← hq] at B3 ⊢; exact B3)⟩
        · have E1 := hidOf2 (show C = 101122067 by rw [HC3.out, hd]; rfl)
          subst hd
          clear HC3 HW HD HBY
          go_wp2
          go_ret
          exact ⟨ret_int (by rw [E1.out]; rfl), by first | exact B3 | (rw [← hq] at B3 ⊢; exact B3)⟩
        · have E1 := hidOf2 (show C = 101253168 by rw [HC3.out, hd]; rfl)
          subst hd
          clear HC3 HW HD HBY
          go_wp2
          go_ret
          exact ⟨ret_int (by rw [E1.out]; rfl), by first | exact B3 | (rw [← hq] at B3 ⊢; exact B3)⟩
end Go.Proofs.Ytdcogpadioeclaa
namespace Go.Proofs.Ytdcogpadioeclaa
open Go.RowKit Go.Proofs.Ty Go.Sort Go.Lib
set_option linter.unusedVariables false
set_option maxRecDepth 1000000
set_option linter.unusedSimpArgs false
theorem flat_set (V : List Vl) (k : Nat) (hk : k < V.length) (v : Vl) : flatW DV (V.set k v) = (((flatW DV V).set (k * 3) (.int .i64 v.t)).set (k * 3 + 1) (.int .u64 v.n)).set (k * 3 + 2) (.string v.s) := by
  have step : ∀ (u : Vl) (r : List Vl), flatW DV (u :: r) = .int .i64 u.t :: .int .u64 u.n :: .string u.s :: flatW DV r := fun u r => rfl
  induction V generalizing k with
  | nil => simp at hk
  | cons u r ih =>
    match k, hk with
    | 0, _ => simp [step]
    | k + 1, hk =>
      rw [List.set_cons_succ, step, step, ih k (by simpa using hk), show (k + 1) * 3 = k * 3 + 1 + 1 + 1 by omega]
      simp only [List.set_cons_succ]
theorem own_setV {x : World} {B g n c k : Nat} {V : List Vl} (h : x.ownsRow B 33 3 (.slice (some ⟨g, 0, none⟩) n c) V.length (flatW DV V)) (hk : k < V.length) (u : Vl) : (x.setCells g (k * 3) (vlC u)).ownsRow B 33 3 (.slice (some ⟨g, 0, none⟩) n c) (V.set k u).length (flatW DV (V.set k u)) := by
  obtain ⟨h1, h2⟩ := h
  rcases h2 with ⟨h2, _⟩ | ⟨g', cap, cur, e1, e2, e3, e4, e5, e6, e7⟩
  · cases h2
  · injection e1 with e1 en ec
    injection e1 with e1
    injection e1 with e1 _ _
    subst e1
    refine ⟨by rw [flatW_len]; rfl, .inr ⟨g, cap, ((cur.setIfInBounds (k * 3) (.int .i64 u.t)).setIfInBounds (k * 3 + 1) (.int .u64 u.n)).setIfInBounds (k * 3 + 2) (.string u.s), by rw [List.length_set, en, ec], e2, ?_, by rw [List.length_set]; exact e4, e5, by simpa using e6, ?_⟩⟩
    · show (((x.setCell ⟨g, k * 3, none⟩ (.int .i64 u.t)).setCell ⟨g, k * 3 + 1, none⟩ (.int .u64 u.n)).setCell ⟨g, k * 3 + 2, none⟩ (.string u.s)).heap[g]? = _
      simp only [World.setCell, Array.getElem?_modify, e3]
      simp
    · rw [flat_set V k hk u, ← e7, List.length_set]
      simp only [Array.toList_setIfInBounds, List.take_set]
theorem own_there {x : World} {B g n c k : Nat} {V : List Vl} (h : x.ownsRow B 33 3 (.slice (some ⟨g, 0, none⟩) n c) V.length (flatW DV V)) (hk : k < V.length) : x.there g (k * 3) 3 := by
  obtain ⟨h1, h2⟩ := h
  rcases h2 with ⟨h2, _⟩ | ⟨g', cap, cur, e1, e2, e3, e4, e5, e6, e7⟩
  · cases h2
  · injection e1 with e1 en ec
    injection e1 with e1
    injection e1 with e1 _ _
    subst e1
    intro j hj
    refine ⟨?_, Lib.frozen_of_heap e3 _⟩
    rw [Lib.cell_of_heap e3, Array.getElem?_eq_getElem (by omega)]
    rfl
theorem Rd.setAt {E : Nat} {L : List En} {vL : Value} {V : List Vl} {g n c k B : Nat} {x : World} (h : Rd E L vL V (.slice (some ⟨g, 0, none⟩) n c) x) (hown : x.ownsRow B 33 3 (.slice (some ⟨g, 0, none⟩) n c) V.length (flatW DV V)) (hk : k < V.length) (u : Vl) : Rd E L vL (V.set k u) (.slice (some ⟨g, 0, none⟩) n c) (x.setCells g (k * 3) (vlC u)) := by
  obtain ⟨_, cur, hg⟩ := own_of hown (g := g) rfl
  have hEg : E ≠ g := fun e => by
    have hh := h.head
    rw [e, hg] at hh
    simp at hh
  exact ⟨(setCells_heap _ _ _ _ _ hEg).trans h.head, h.rowL.grown (setCells_kept _ _ _ _) (h.rowL.ne hg (by decide)), RT.own DV (own_setV hown hk u)⟩
theorem grown_fresh {w x y : World} {E g : Nat} (h : w.grownBy x (some E)) (hg : w.heap.size ≤ g) (G : x.grownBy y (some g)) : w.grownBy y (some E) :=
  ⟨G.os.trans h.os, G.tape.trans h.tape, G.output.trans h.output, Nat.le_trans h.size G.size, fun k hk hne => (G.block k (Nat.lt_of_lt_of_le hk h.size) (fun e => by injection e with e; omega)).trans (h.block k hk hne)⟩
theorem own_some {w : World} {B : Nat} {e : TypeId} {c n : Nat} {v : Value} {xs : List Value} (h : w.ownsRow B e c v n xs) (hn : 0 < n) : ∃ g cap, v = .slice (some ⟨g, 0, none⟩) n cap := by
  rcases h.2 with ⟨_, h2⟩ | ⟨g, cap, cur, h1, _⟩
  · omega
  · exact ⟨g, cap, h1⟩
theorem exec_idxV0 {a : Act} {o : Oper} {s i : Operand} {b n c k : Nat} (ho : o.op = .indexAddr 56 s i) (hs : a.eval s = .slice (some ⟨b, 0, none⟩) n c) (hi : a.eval i = .int .i64 (k : Int)) (hk : k < n) (w : World) : (execOp a.eval o).run Try.prog w = .ok (.value (.pointer (some ⟨b, k * 3, none⟩))) w := by
  have := exec_idxV ho hs hi hk w
  rw [Nat.zero_add] at this
  exact this
end Go.Proofs.Ytdcogpadioeclaa
namespace Go.Proofs.Ytdcogpadioeclaa
open Go.RowKit Go.Proofs.Ty Go.Sort Go.Lib
set_option linter.unusedVariables false
set_option maxRecDepth 1000000
set_option linter.unusedSimpArgs false
set_option maxHeartbeats 8000000 in
theorem QWrite_any {E : Nat} {its : List Im} {vL vV : Value} {w : World} (h : Rd E (its.map Im.e) vL (its.map Im.v) vV w) (hl : its.length ≤ 1024) (hok : ∀ i ∈ its, Ok i) (hap : (its.map Im.b).Nodup) (ix sb : Nat) (vb : Value) (l : List UInt8) (hB : Bytes w vb l) :
    Calls Try.prog 28 #[.pointer (some ⟨E, 0, none⟩), .int .u16 ix, .int .u8 sb, vb] w fun e w' => e = .returned (.int .u32 (wc its ix sb l)) ∧ (∃ vV', Rd E ((wrt its ix sb l).map Im.e) vL ((wrt its ix sb l).map Im.v) vV' w') ∧ w.grownBy w' (some E) := by
  have hM := QMay_any h hl hok ix sb vb l hB
  obtain ⟨ao, cap, rfl⟩ := bytes_shape hB
  by_cases hc : wc its ix sb l = 0
  · obtain ⟨i, hf, ha, hE0, hb⟩ := wc_zero hc
    obtain ⟨k, hk, e1, f1, f2⟩ := fi_some hf
    have HFin := hidOf2 (show ∀ x v', Rd E (its.map Im.e) vL ((its.map Im.v).set k (decW i.e.df.t l)) v' x → Rd E ((wrt its ix sb l).map Im.e) vL ((wrt its ix sb l).map Im.v) v' x from fun x v' hx => by
      have e3 : wrt its ix sb l = setV its i.b (decW i.e.df.t l) := by unfold wrt; rw [if_pos hc, hf]
      have e4 := setV_v hap hk (decW i.e.df.t l)
      rw [e1] at e4
      rw [e3, setV_e, e4]
      exact hx)
    have HC := hidOf2 hc
    have HEL := hidOf2 h.lt
    rw [hc] at hM
    have HR0 := hidOf2 h
    have HBY := hidOf2 hB
    have hElt := h.lt
    clear h hB hf ha hE0 hb
    go_enter Try.func28, Try.ntmps28
    go_wp2_with fail
    refine hM.mono ?_
    rintro e w1 ⟨rfl, b1⟩
    have R1 := HR0.out.below b1
    have hF := QFind_any R1 (by simpa using hl) ix sb
    rw [f1, f2] at hF
    obtain ⟨c0, c1⟩ := R1.c
    obtain ⟨lb, lo, cL, vb, vo, cV, rfl, rfl, hlb, hvb, rL, rV⟩ := R1.atI hk
    rw [e1] at rL
    have k11 := rL 11 _ rfl
    have HRq := hidOf2 R1
    have hdec := r7Decode_v i.e.df.t i.e.df.ht (.slice ao l.length cap) l w1 (HBY.out.below b1)
    clear hM R1 rL rV hlb hvb HBY
    obtain ⟨dV, hdV⟩ : ∃ d, decW i.e.df.t l = d := ⟨_, rfl⟩
    obtain ⟨dE, hdE⟩ : ∃ d, decE i.e.df.t l = d := ⟨_, rfl⟩
    rw [hdV] at HFin hdec
    rw [hdE] at hdec
    clear hdV hdE
    have hkV : k < (its.map Im.v).length := by simpa using hk
    have hVl : (its.map Im.v).length ≤ 1024 := by rw [List.length_map]; exact hl
    generalize its.map Im.v = V at *
    generalize its.map Im.e = L at *
    go_wp2_with fail
    refine hF.mono ?_
    rintro e w2 ⟨rfl, rfl⟩
    clear hF
    clear e1
    go_wp2_with fail
    refine hdec.mono ?_
    rintro e w3 ⟨rfl, b3⟩
    have B3 := b1.trans (b3.mono b1.size)
    have R3 := HRq.out.below b3
    obtain ⟨q2, hq2⟩ : ∃ q, w3.heap.size = q := ⟨_, rfl⟩
    have g0 : Va q2 Vl.nul (w3.alloc (.cells #[.int .i64 0, .int .u64 0, .string ⟨#[]⟩] 33)) := hq2 ▸ Va.new w3 Vl.nul
    have b4 : Below w3.heap.size w3 ((w3.alloc (.cells #[.int .i64 0, .int .u64 0, .string ⟨#[]⟩] 33)).setRow q2 dV.arr) := below_row ((Below.refl _ _).alloc (Nat.le_refl _) _) (by omega) (by rw [size_alloc]; omega) dV.arr
    have g1 := g0.row dV
    have HR4 := hidOf2 (R3.below b4)
    have HEq := hidOf2 (show ¬ q2 = E from fun e => by have := R3.lt; omega)
    have HB4 := hidOf2 (B3.trans (b4.mono B3.size))
    clear hdec b3 B3 R3 b1 b4 HRq c0 c1 k11 HR0
    go_upto_region 5 with (first | (refine g0.sd dV rfl _ _ rfl rfl rfl ?_))
    try simp only [hq2]
    generalize ((w3.alloc (.cells #[.int .i64 0, .int .u64 0, .string ⟨#[]⟩] 33)).setRow q2 dV.arr) = w4 at *
    clear g0
    have bA : Below w4.heap.size w4 (w4.alloc (.cells #[] 33)) := (Below.refl _ _).alloc (Nat.le_refl _) _
    have hWa := (HR4.out.below bA).rowV.wide
    have c1 := (HR4.out.below bA).c.2
    have hown := own0V w4
    go_upto_region 6 with (first | (refine bs0V rfl rfl ?_) | (refine apV rfl _ _ rfl w4.heap.size (.slice (some ⟨w4.heap.size, 0, none⟩) 0 0) [] rfl hown _ V rfl hWa (by simp; omega) bA.size ?_; intro v5 w5 P5 G5; rw [List.nil_append] at P5; have b5 : Below w4.heap.size w4 w5 := bA.grown G5 bA.size (own_lt hown); have R5 := HR4.out.below b5; have f5 := R5.frozen 1; have c5 := R5.c.2; obtain ⟨g, c2, hv5⟩ := own_some P5 (by omega); subst hv5; have RN := R5.setV (RT.own DV P5); have PN := own_set P5 (own_ne P5 R5.head) 1 (.slice (some ⟨g, 0, none⟩) V.length c2); have HgB := hidOf2 (own_lt P5 g rfl); have gN := (g1.below b5).other (p := ⟨E, 1, none⟩) (fun e => HEq.out e) (.slice (some ⟨g, 0, none⟩) V.length c2); have HG5 := hidOf2 (grown_trans (gb_any (HB4.out.trans (b5.mono HB4.out.size)) (some E)) (set_kept w5 E 1 (.slice (some ⟨g, 0, none⟩) V.length c2))); have HNQ := hidOf2 (show q2 ≠ g from fun e => by have := own_lt P5 g rfl; have := g1.lt; omega); have HgW := hidOf2 (Nat.le_trans HB4.out.size (own_lt P5 g rfl)); clear b5 R5 P5 G5 hWa bA hown g1))
    generalize w5.setCell ⟨E, 1, none⟩ (.slice (some ⟨g, 0, none⟩) V.length c2) = w6 at *
    clear f5 c5 c1
    have S0 : w6.drew.cell? ⟨E, 1, none⟩ = some (.slice (some ⟨g, 0, none⟩) V.length c2) ∧ Va q2 dV w6.drew := ⟨RN.c.2, gN⟩
    have R6 : Rd E L _ V _ w6.drew := RN.below (bdr (Below.refl _ w6) 1)
    have P6 := own_drew PN
    have ht := own_there P6 hkV
    have hkn2 : k < V.length := hkV
    have HG6 := hidOf2 (show w.grownBy w6.drew (some E) from grown_trans HG5.out (gb_any (bdr (Below.refl _ w6) 1) (some E)))
    clear HR4 HB4 HG5 RN PN gN
    refine wp_region_held (S := fun x => x.cell? ⟨E, 1, none⟩ = some (.slice (some ⟨g, 0, none⟩) V.length c2) ∧ Va q2 dV x) (by kernel_rfl) ?_
    change wpAnyH _ _ _ _ _ _ _ _ w6.drew
    refine wpAnyH_take (i := 0) (v := (.pointer (some ⟨E, 0, none⟩))) rfl (by kernel_rfl) (by kernel_rfl) (by kernel_rfl) (fun _ _ _ h => h) (.inl ⟨rfl, fun _ hS => rfl⟩) S0 ?_
    simp only [List.getElem_toArray, List.getElem_cons_succ, List.getElem_cons_zero, Act.put, List.setIfInBounds_toArray, List.set_cons_succ, List.set_cons_zero]
    refine wpAnyH_take (i := 1) (v := (.pointer (some ⟨E, 0, none⟩))) rfl (by kernel_rfl) (by kernel_rfl) (by kernel_rfl) (fun _ _ _ h => h) (.inl ⟨rfl, fun _ hS => by simp [execOp, go_sem, Act.eval]⟩) S0 ?_
    simp only [List.getElem_toArray, List.getElem_cons_succ, List.getElem_cons_zero, Act.put, List.setIfInBounds_toArray, List.set_cons_succ, List.set_cons_zero]
    refine wpAnyH_take (i := 2) (v := (.pointer (some ⟨E, 1, none⟩))) rfl (by kernel_rfl) (by kernel_rfl) (by kernel_rfl) (fun _ _ _ h => h) (.inl ⟨rfl, fun _ hS => by simp [execOp, go_sem, Act.eval]⟩) S0 ?_
    simp only [List.getElem_toArray, List.getElem_cons_succ, List.getElem_cons_zero, Act.put, List.setIfInBounds_toArray, List.set_cons_succ, List.set_cons_zero]
    refine wpAnyH_take (i := 3) (v := (.slice (some ⟨g, 0, none⟩) V.length c2)) rfl (by kernel_rfl) (by kernel_rfl) (by kernel_rfl) (fun _ _ _ h => h) (.inl ⟨rfl, fun _ hS => exec_load rfl rfl (load_vals _ _ _ _ _ _ hS.1)⟩) S0 ?_
    simp only [List.getElem_toArray, List.getElem_cons_succ, List.getElem_cons_zero, Act.put, List.setIfInBounds_toArray, List.set_cons_succ, List.set_cons_zero]
    refine wpAnyH_take (i := 4) (v := (.int .i64 (k : Int))) rfl (by kernel_rfl) (by kernel_rfl) (by kernel_rfl) (fun _ _ _ h => h) (.inl ⟨rfl, fun _ hS => rfl⟩) S0 ?_
    simp only [List.getElem_toArray, List.getElem_cons_succ, List.getElem_cons_zero, Act.put, List.setIfInBounds_toArray, List.set_cons_succ, List.set_cons_zero]
    refine wpAnyH_take (i := 5) (v := (.agg dV.arr)) rfl (by kernel_rfl) (by kernel_rfl) (by kernel_rfl) (fun _ _ _ h => h) (.inl ⟨rfl, fun _ hS => exec_load rfl rfl hS.2.load⟩) S0 ?_
    simp only [List.getElem_toArray, List.getElem_cons_succ, List.getElem_cons_zero, Act.put, List.setIfInBounds_toArray, List.set_cons_succ, List.set_cons_zero]
    refine wpAnyH_take (i := 6) (v := (.pointer (some ⟨g, k * 3, none⟩))) rfl (by kernel_rfl) (by kernel_rfl) (by kernel_rfl) (fun _ _ _ h => h) (.inl ⟨rfl, fun _ hS => exec_idxV0 rfl rfl rfl hkn2 _⟩) S0 ?_
    simp only [List.getElem_toArray, List.getElem_cons_succ, List.getElem_cons_zero, Act.put, List.setIfInBounds_toArray, List.set_cons_succ, List.set_cons_zero]
    refine wpAnyH_all (rs := [7]) (by kernel_rfl) (by simp) ?_
    intro k hk
    simp only [List.mem_cons, List.mem_nil_iff, or_false] at hk
    subst hk
    refine wpOp_run rfl rfl (wp_store_mid 33 _ _ rfl g (k * 3) dV.arr rfl rfl (by rw [dV.arr_size]; exact ht) (by rw [dV.arr_size]; exact infoV) dV.one ?_)
    change _ ∧ wpAnyH _ _ _ _ _ _ _ _ (w6.drew.setCells g (k * 3) (vlC dV))
    have RZ := R6.setAt P6 hkV dV
    have PZ := own_setV P6 hkV dV
    have S1 : (w6.drew.setCells g (k * 3) (vlC dV)).cell? ⟨E, 1, none⟩ = some (.slice (some ⟨g, 0, none⟩) V.length c2) ∧ Va q2 dV (w6.drew.setCells g (k * 3) (vlC dV)) := ⟨RZ.c.2, (setCells_heap _ _ _ _ _ HNQ.out).trans S0.2⟩
    refine ⟨S1, ?_⟩
    simp only [List.getElem_toArray, List.getElem_cons_succ, List.getElem_cons_zero, Act.put, List.setIfInBounds_toArray, List.set_cons_succ, List.set_cons_zero]
    refine wpAnyH_done (by kernel_rfl) ?_ _
    have HRZ := hidOf2 RZ
    have HGZ := hidOf2 (grown_fresh HG6.out HgW.out (setCells_kept w6.drew g (k * 3) (vlC dV)))
    clear RZ PZ S1 S0 R6 P6 ht
    generalize w6.drew.setCells g (k * 3) (vlC dV) = w7 at *
    go_wp2
    go_ret
    exact ⟨ret_int (by rw [HC.out]; rfl), ⟨_, HFin.out _ _ HRZ.out⟩, HGZ.out⟩
  · have dc : ((wc its ix sb l : Int) == 0) = false := by simp; omega
    have HF := hidOf2 (show wrt its ix sb l = its by unfold wrt; rw [if_neg hc])
    have HR0 := hidOf2 h
    clear h hB
    generalize wc its ix sb l = C at *
    go_enter Try.func28, Try.ntmps28
    go_wp2_with fail
    refine hM.mono ?_
    rintro e w1 ⟨rfl, b1⟩
    have R1 := hidOf2 (HR0.out.below b1)
    clear hM HR0
    go_wp2
    go_ret
    exact ⟨rfl, ⟨_, by rw [HF.out]; exact R1.out⟩, gb_any b1 _⟩
end Go.Proofs.Ytdcogpadioeclaa
namespace Go.Proofs.Ytdcogpadioeclaa
open Go.RowKit Go.Proofs.Ty Go.Sort Go.Lib
set_option linter.unusedVariables false
set_option maxRecDepth 1000000
set_option linter.unusedSimpArgs false
theorem enterPl : ∀ args x, (callFunc 17 args).run Try.prog x = .ok (.enter 17 args) x := fun _ _ => by rfl
theorem own_below {w y : World} {B : Nat} {e : TypeId} {c n : Nat} {v : Value} {xs : List Value} (h : w.ownsRow B e c v n xs) (hb : Below w.heap.size w y) : y.ownsRow B e c v n xs := by
  refine ⟨h.1, h.2.imp id ?_⟩
  rintro ⟨g, cap, cur, e1, e2, e3, e4⟩
  exact ⟨g, cap, cur, e1, e2, (hb.block g (Array.getElem?_eq_some_iff.1 e3).1).trans e3, e4⟩
set_option maxHeartbeats 8000000 in
theorem QSet_any {E : Nat} {its : List Im} {vL vV : Value} {w : World} (h : Rd E (its.map Im.e) vL (its.map Im.v) vV w) (hl : its.length ≤ 1024) (hok : ∀ i ∈ its, Ok i) (hap : (its.map Im.b).Nodup) (ix sb : Nat) (v : Vl) :
    Calls Try.prog 30 #[.pointer (some ⟨E, 0, none⟩), .int .u16 ix, .int .u8 sb, .agg v.arr] w fun e w' => e = .returned (.int .i64 (setc its ix sb v)) ∧ (∃ vV', Rd E ((sett its ix sb v).map Im.e) vL ((sett its ix sb v).map Im.v) vV' w') ∧ w.grownBy w' (some E) := by
  obtain ⟨q, hq⟩ : ∃ q, w.heap.size = q := ⟨_, rfl⟩
  have f0 : Va q v (w.alloc (.cells v.arr 33)) := hq ▸ Va.new w v
  have bA : Below w.heap.size w (w.alloc (.cells v.arr 33)) := (Below.refl _ _).alloc (Nat.le_refl _) _
  have h0 := h.below bA
  have hF := QFind_any h0 (by simpa using hl) ix sb
  have HC : Hid (setc its ix sb v = match fnd its ix sb with
    | none => 4
    | some i => if i.e.ac = 3 then 1 else if v.t ≠ i.e.df.t then 1 else v.chk) := rfl
  have HT : Hid (sett its ix sb v = match fnd its ix sb with
    | none => its
    | some i => if setc its ix sb v = 0 then setV its i.b v.plain else its) := rfl
  generalize sett its ix sb v = ST at *
  generalize setc its ix sb v = SC at *
  have HEq := hidOf2 (show ¬ q = E from fun e => by have := h.lt; omega)
  cases hf : fnd its ix sb with
  | none =>
    rw [hf] at HC HT
    obtain ⟨f1, f2⟩ := fi_none hf
    rw [f1, f2] at hF
    have d1 : ((noc its ix : Int) != 0) = true := by have := noc_ne its ix; simp; omega
    have HR0 := hidOf2 h0
    generalize noc its ix = N at *
    clear h h0 hf f1 f2
    go_enter Try.func30, Try.ntmps30
    go_upto_region 1 with fail
    generalize (w.alloc (.cells v.arr 33)) = W at *
    try simp only [hq]
    go_wp2_with fail
    refine hF.mono ?_
    rintro e w1 ⟨rfl, rfl⟩
    clear hF f0
    go_wp2
    go_ret
    exact ⟨ret_int (by rw [HC.out]; rfl), ⟨_, by rw [HT.out]; exact HR0.out⟩, gb_any bA _⟩
  | some i =>
    rw [hf] at HC HT
    obtain ⟨k, hk, e1, f1, f2⟩ := fi_some hf
    have htt := (hok i (fnd_mem hf)).t
    obtain ⟨c0, c1⟩ := h0.c
    obtain ⟨lb, lo, cL, vb, vo, cV, rfl, rfl, hlb, hvb, rL, rV⟩ := h0.atI hk
    rw [e1] at rL rV
    rw [f1, f2] at hF
    have k2 := rL 2 _ rfl
    have v0 := rV 0 _ rfl
    simp only [Nat.add_zero] at v0
    rw [htt] at v0
    have HFin := hidOf2 (show ST = setV its i.b v.plain → ∀ x v', Rd E (its.map Im.e) (.slice (some ⟨lb, lo, none⟩) its.length cL) ((its.map Im.v).set k v.plain) v' x → Rd E (ST.map Im.e) (.slice (some ⟨lb, lo, none⟩) its.length cL) (ST.map Im.v) v' x from fun e3 x v' hx => by
      have e4 := setV_v hap hk v.plain
      rw [e1] at e4
      rw [e3, setV_e, e4]
      exact hx)
    have hkV : k < (its.map Im.v).length := by simpa using hk
    have hVl : (its.map Im.v).length ≤ 1024 := by rw [List.length_map]; exact hl
    have HR0 := hidOf2 h0
    have t0 := f0.c0
    clear h h0 hf e1 f1 f2 rL rV
    have HR1 := hidOf2 (show ST = its → ∀ x, Rd E (its.map Im.e) (.slice (some ⟨lb, lo, none⟩) its.length cL) (its.map Im.v) (.slice (some ⟨vb, vo, none⟩) its.length cV) x → Rd E (ST.map Im.e) (.slice (some ⟨lb, lo, none⟩) its.length cL) (ST.map Im.v) (.slice (some ⟨vb, vo, none⟩) its.length cV) x from fun e3 x hx => by rw [e3]; exact hx)
    generalize its.map Im.v = V at *
    generalize its.map Im.e = L at *
    go_enter Try.func30, Try.ntmps30
    go_upto_region 1 with fail
    generalize (w.alloc (.cells v.arr 33)) = W at *
    try simp only [hq]
    go_wp2_with fail
    refine hF.mono ?_
    rintro e w1 ⟨rfl, rfl⟩
    clear hF htt
    by_cases ha : i.e.ac = 3
    · have E1 := hidOf2 (show SC = 1 from HC.out.trans (if_pos ha))
      have E2 := hidOf2 (show ST = its by rw [HT.out, E1.out]; rfl)
      rw [ha] at k2
      clear HC HT HFin
      go_upto_region 4 with fail
      go_quiet (fail)
      go_wp2
      go_ret
      exact ⟨ret_int (by rw [E1.out]; rfl), ⟨_, HR1.out E2.out _ (HR0.out.below (bdr (Below.refl _ _) _))⟩, gb_any (bdr bA _) _⟩
    · have da : (i.e.ac == 3) = false := by simpa using ha
      have HC2 := hidOf2 (HC.out.trans (if_neg ha))
      clear HC
      generalize i.e.ac = A at *
      by_cases ht : v.t = i.e.df.t
      · have HC3 := hidOf2 (show SC = v.chk from HC2.out.trans (if_neg (by simpa using ht)))
        have dt : (v.t != i.e.df.t) = false := by simpa using ht
        clear HC2 ht
        go_upto_region 4 with fail
        go_quiet (fail)
        have hC := r7Check_v v (w1.drewN nq)
        have f2 : Va q v (w1.drewN nq) := f0
        have B2 : Below w.heap.size w (w1.drewN nq) := bdr bA nq
        have HR2 := hidOf2 (HR0.out.below (bdr (Below.refl _ _) nq))
        clear c0 c1 k2 v0 t0 f0 bA HR0
        generalize w1.drewN nq = w2 at *
        clear nq
        go_wp2_with (first | (refine f2.ld rfl _ rfl rfl ?_))
        refine hC.mono ?_
        rintro e w3 ⟨rfl, b3⟩
        have f3 := f2.below b3
        have B3 := B2.trans (b3.mono B2.size)
        have HR3 := hidOf2 (HR2.out.below b3)
        clear hC f2 B2 b3 HR2
        by_cases hk0 : v.chk = 0
        · rw [hk0] at HC3 ⊢
          have HC := hidOf2 HC3.out
          have E2 := hidOf2 (show ST = setV its i.b v.plain by rw [HT.out, HC3.out]; rfl)
          have HFin2 := hidOf2 (HFin.out E2.out)
          clear HFin HT HC3 HR1
          have HFin := HFin2
          clear HFin2
          have bA : Below w3.heap.size w3 (w3.alloc (.cells #[] 33)) := (Below.refl _ _).alloc (Nat.le_refl _) _
          have hWa := (HR3.out.below bA).rowV.wide
          have c1 := (HR3.out.below bA).c.2
          have hown := own0V w3
          go_upto_region 10 with (first | (refine bs0V rfl rfl ?_) | (refine apV rfl _ _ rfl w3.heap.size (.slice (some ⟨w3.heap.size, 0, none⟩) 0 0) [] rfl hown _ V rfl hWa (by simp; omega) bA.size ?_; intro v5 w5 P5 G5; rw [List.nil_append] at P5; have b5 : Below w3.heap.size w3 w5 := bA.grown G5 bA.size (own_lt hown); have R5 := HR3.out.below b5; have f5 := R5.frozen 1; have c5 := R5.c.2; obtain ⟨g, c2, hv5⟩ := own_some P5 (by omega); subst hv5; have RN := R5.setV (RT.own DV P5); have PN := own_set P5 (own_ne P5 R5.head) 1 (.slice (some ⟨g, 0, none⟩) V.length c2); have gN := (f3.below b5).other (p := ⟨E, 1, none⟩) (fun e => HEq.out e) (.slice (some ⟨g, 0, none⟩) V.length c2); have HG5 := hidOf2 (grown_trans (gb_any (B3.trans (b5.mono B3.size)) (some E)) (set_kept w5 E 1 (.slice (some ⟨g, 0, none⟩) V.length c2))); have HNQ := hidOf2 (show q ≠ g from fun e => by have := own_lt P5 g rfl; have := f3.lt; omega); have HgW := hidOf2 (Nat.le_trans B3.size (own_lt P5 g rfl)); clear b5 R5 P5 G5 hWa bA hown f3 B3))
          generalize w5.setCell ⟨E, 1, none⟩ (.slice (some ⟨g, 0, none⟩) V.length c2) = w6 at *
          clear f5 c5 c1
          have S0 : w6.drew.cell? ⟨E, 1, none⟩ = some (.slice (some ⟨g, 0, none⟩) V.length c2) ∧ Va q v w6.drew := ⟨RN.c.2, gN⟩
          have R6 : Rd E L _ V _ w6.drew := RN.below (bdr (Below.refl _ w6) 1)
          have P6 := own_drew PN
          have HG6 := hidOf2 (show w.grownBy w6.drew (some E) from grown_trans HG5.out (gb_any (bdr (Below.refl _ w6) 1) (some E)))
          clear HR3 HG5 RN PN gN
          refine wp_region_held (S := fun x => x.cell? ⟨E, 1, none⟩ = some (.slice (some ⟨g, 0, none⟩) V.length c2) ∧ Va q v x) (by kernel_rfl) ?_
          change wpAnyH _ _ _ _ _ _ _ _ w6.drew
          refine wpAnyH_take (i := 0) (v := (.pointer (some ⟨E, 0, none⟩))) rfl (by kernel_rfl) (by kernel_rfl) (by kernel_rfl) (fun _ _ _ h => h) (.inl ⟨rfl, fun _ hS => rfl⟩) S0 ?_
          simp only [List.getElem_toArray, List.getElem_cons_succ, List.getElem_cons_zero, Act.put, List.setIfInBounds_toArray, List.set_cons_succ, List.set_cons_zero]
          refine wpAnyH_take (i := 1) (v := (.pointer (some ⟨E, 0, none⟩))) rfl (by kernel_rfl) (by kernel_rfl) (by kernel_rfl) (fun _ _ _ h => h) (.inl ⟨rfl, fun _ hS => by simp [execOp, go_sem, Act.eval]⟩) S0 ?_
          simp only [List.getElem_toArray, List.getElem_cons_succ, List.getElem_cons_zero, Act.put, List.setIfInBounds_toArray, List.set_cons_succ, List.set_cons_zero]
          refine wpAnyH_take (i := 2) (v := (.pointer (some ⟨E, 1, none⟩))) rfl (by kernel_rfl) (by kernel_rfl) (by kernel_rfl) (fun _ _ _ h => h) (.inl ⟨rfl, fun _ hS => by simp [execOp, go_sem, Act.eval]⟩) S0 ?_
          simp only [List.getElem_toArray, List.getElem_cons_succ, List.getElem_cons_zero, Act.put, List.setIfInBounds_toArray, List.set_cons_succ, List.set_cons_zero]
          refine wpAnyH_take (i := 3) (v := (.slice (some ⟨g, 0, none⟩) V.length c2)) rfl (by kernel_rfl) (by kernel_rfl) (by kernel_rfl) (fun _ _ _ h => h) (.inl ⟨rfl, fun _ hS => exec_load rfl rfl (load_vals _ _ _ _ _ _ hS.1)⟩) S0 ?_
          simp only [List.getElem_toArray, List.getElem_cons_succ, List.getElem_cons_zero, Act.put, List.setIfInBounds_toArray, List.set_cons_succ, List.set_cons_zero]
          refine wpAnyH_take (i := 4) (v := (.int .i64 (k : Int))) rfl (by kernel_rfl) (by kernel_rfl) (by kernel_rfl) (fun _ _ _ h => h) (.inl ⟨rfl, fun _ hS => rfl⟩) S0 ?_
          simp only [List.getElem_toArray, List.getElem_cons_succ, List.getElem_cons_zero, Act.put, List.setIfInBounds_toArray, List.set_cons_succ, List.set_cons_zero]
          refine wpAnyH_take (i := 5) (v := (.agg v.arr)) rfl (by kernel_rfl) (by kernel_rfl) (by kernel_rfl) (fun _ _ _ h => h) (.inl ⟨rfl, fun _ hS => exec_load rfl rfl hS.2.load⟩) S0 ?_
          simp only [List.getElem_toArray, List.getElem_cons_succ, List.getElem_cons_zero, Act.put, List.setIfInBounds_toArray, List.set_cons_succ, List.set_cons_zero]
          refine wpAnyH_all (rs := [6]) (by kernel_rfl) (by simp) ?_
          intro k hk
          simp only [List.mem_cons, List.mem_nil_iff, or_false] at hk
          subst hk
          refine wpOp_run rfl rfl (wp_call_fn 17 #[.agg v.arr] (by simp [execOp, go_sem, Act.eval, resolve, invoke, enterPl]) ?_)
          refine (r7Plain_v v w6.drew).mono ?_
          rintro e w7 ⟨rfl, b7⟩
          have R7 := R6.below b7
          have P7 := own_below P6 b7
          have ht := own_there P7 hkV
          have HG7 := hidOf2 (show w.grownBy w7 (some E) from grown_trans HG6.out (gb_any b7 (some E)))
          have S1 : w7.cell? ⟨E, 1, none⟩ = some (.slice (some ⟨g, 0, none⟩) V.length c2) ∧ Va q v w7 := ⟨R7.c.2, S0.2.below b7⟩
          refine ⟨S1, ?_⟩
          simp only [List.getElem_toArray, List.getElem_cons_succ, List.getElem_cons_zero, Act.put, List.setIfInBounds_toArray, List.set_cons_succ, List.set_cons_zero]
          refine wpAnyH_take (i := 7) (v := (.pointer (some ⟨g, k * 3, none⟩))) rfl (by kernel_rfl) (by kernel_rfl) (by kernel_rfl) (fun _ _ _ h => h) (.inl ⟨rfl, fun _ hS => exec_idxV0 rfl rfl rfl hkV _⟩) S1 ?_
          simp only [List.getElem_toArray, List.getElem_cons_succ, List.getElem_cons_zero, Act.put, List.setIfInBounds_toArray, List.set_cons_succ, List.set_cons_zero]
          refine wpAnyH_all (rs := [8]) (by kernel_rfl) (by simp) ?_
          intro k hk
          simp only [List.mem_cons, List.mem_nil_iff, or_false] at hk
          subst hk
          refine wpOp_run rfl rfl (wp_store_mid 33 _ _ rfl g (k * 3) v.plain.arr rfl rfl (by rw [v.plain.arr_size]; exact ht) (by rw [v.plain.arr_size]; exact infoV) v.plain.one ?_)
          change _ ∧ wpAnyH _ _ _ _ _ _ _ _ (w7.setCells g (k * 3) (vlC v.plain))
          have RZ := R7.setAt P7 hkV v.plain
          have S2 : (w7.setCells g (k * 3) (vlC v.plain)).cell? ⟨E, 1, none⟩ = some (.slice (some ⟨g, 0, none⟩) V.length c2) ∧ Va q v (w7.setCells g (k * 3) (vlC v.plain)) := ⟨RZ.c.2, (setCells_heap _ _ _ _ _ HNQ.out).trans S1.2⟩
          refine ⟨S2, ?_⟩
          simp only [List.getElem_toArray, List.getElem_cons_succ, List.getElem_cons_zero, Act.put, List.setIfInBounds_toArray, List.set_cons_succ, List.set_cons_zero]
          refine wpAnyH_done (by kernel_rfl) ?_ _
          have HRZ := hidOf2 RZ
          have HGZ := hidOf2 (grown_fresh HG7.out HgW.out (setCells_kept w7 g (k * 3) (vlC v.plain)))
          clear RZ S1 S2 S0 R6 P6 R7 P7 ht
          generalize w7.setCells g (k * 3) (vlC v.plain) = w8 at *
          go_wp2
          go_ret
          exact ⟨ret_int (by rw [HC.out]; rfl), ⟨_, HFin.out _ _ HRZ.out⟩, HGZ.out⟩
        · have dk : ((v.chk : Int) != 0) = true := by simpa using hk0
          have E2 := hidOf2 (show ST = its by rw [HT.out, HC3.out]; exact if_neg hk0)
          clear HT HFin
          generalize v.chk = CK at *
          go_wp2
          go_ret
          exact ⟨ret_int (by rw [HC3.out]), ⟨_, HR1.out E2.out _ HR3.out⟩, gb_any B3 _⟩
      · have E1 := hidOf2 (show SC = 1 from HC2.out.trans (if_pos (by simpa using ht)))
        have E2 := hidOf2 (show ST = its by rw [HT.out, E1.out]; rfl)
        have dt : (v.t != i.e.df.t) = true := by simpa using ht
        clear HC2 HT HFin
        go_upto_region 4 with fail
        go_quiet (fail)
        go_wp2
        go_ret
        exact ⟨ret_int (by rw [E1.out]; rfl), ⟨_, HR1.out E2.out _ (HR0.out.below (bdr (Below.refl _ _) _))⟩, gb_any (bdr bA _) _⟩
end Go.Proofs.Ytdcogpadioeclaa
namespace Go.Proofs.Ytdcogpadioeclaa
open Go.RowKit Go.Proofs.Ty
set_option linter.unusedVariables false
set_option maxRecDepth 1000000
set_option maxHeartbeats 1000000 in
theorem r7low_f (n z : Nat) (hz : z ≤ 8) (w : World) :
    Calls Try.prog 75 #[.int .u64 n, .int .i64 z] w fun e w' => ∃ x, e = .returned x ∧ Bytes w' x (lowL n z) ∧ Below w.heap.size w w' ∧ (∀ b, x.ownBlock = some b → w.heap.size ≤ b) := by
  have hown0 := own_empty w
  go_enter Try.func75, Try.ntmps75
  go_wp2
  go_loopw [5, 6] (fun v i wr => ∃ k : Nat, k ≤ z ∧ i = .int .i64 k ∧ wr.ownsRow w.heap.size 5 1 v (lowL n k).length (Lib.byteCells (lowL n k)) ∧ Below w.heap.size w wr) (fun _ i _ => z - (intOf i).toNat)
  case atStart => exact ⟨0, Nat.zero_le _, rfl, hown0, (Below.refl _ _).alloc (Nat.le_refl _) _⟩
  case round =>
    obtain ⟨k, hk, rfl, hown, hb⟩ := hrel
    by_cases hkz : k < z
    · have hsn := hidOf (lowL_snoc n k)
      have hlen := lowL_length n k
      have szw := hb.size
      have hcb := byte_at n k
      rw [Nat.mul_comm] at hcb
      have hcell := cell_new wr (.int .u8 (UInt8.ofNat (n / 256 ^ k)).toNat) 5
      have hown2 := ownsRow_alloc hown (.cells #[.int .u8 (UInt8.ofNat (n / 256 ^ k)).toNat] 5)
      have hlt := own_lt hown
      generalize UInt8.ofNat (n / 256 ^ k) = c at *
      generalize lowL n k = acc at *
      go_wp2_with (at_builtin; refine append_one rfl _ _ rfl w.heap.size _ acc rfl hown2 ⟨wr.heap.size, 0, none⟩ c rfl hcell (by omega) (by rw [size_alloc]; omega) ?_)
      intro v' w1 o1 g1
      have b1 : Below w.heap.size w w1 := (hb.alloc szw _).grown g1 (by rw [size_alloc]; omega) hlt
      rw [← hsn.out] at o1
      clear hown2 g1 hcell
      go_wp2
      go_roundw
      case rel => exact ⟨k + 1, by omega, by go_num, by rw [lowL_length]; exact o1, b1⟩
      case measure => simp [intOf]; omega
    · obtain rfl : k = z := by omega
      go_wp2
      go_ret
      exact ⟨_, rfl, bytes_of_own hown, hb, own_lt hown⟩
set_option maxHeartbeats 1000000 in
theorem r7Encode_f (v : Vl) (w : World) :
    Calls Try.prog 53 #[.agg v.arr] w fun e w' => ∃ x, e = .returned (.tuple #[x, .int .i64 v.chk]) ∧ Bytes w' x v.enc ∧ Below w.heap.size w w' ∧ (∀ b, x.ownBlock = some b → w.heap.size ≤ b) := by
  have fA := Va.new w v
  have bA : Below w.heap.size w (w.alloc (.cells v.arr 33)) := (Below.refl _ _).alloc (Nat.le_refl _) _
  have sA := size_alloc w (.cells v.arr 33)
  have hC := r7Check_v v
  have hS := r7Size_any v.t
  have hE : Hid (v.enc = if v.chk = 0 then (if 0 < siz v.t then lowL v.n (siz v.t) else v.s.data.toList) else []) := rfl
  have hLow := fun w => r7low_f v.n (siz v.t) (siz_le v.t) w
  generalize v.chk = C at *
  generalize siz v.t = z at *
  go_enter Try.func53, Try.ntmps53
  generalize hW : w.alloc (.cells v.arr 33) = W at *
  generalize hq : w.heap.size = q at *
  go_wp2_with (refine fA.ld rfl _ rfl rfl ?_)
  refine (hC _).mono ?_
  rintro e w1 ⟨rfl, b1⟩
  have f1 := fA.below b1
  have B1 := bA.trans (b1.mono (by omega))
  have s1 := b1.size
  have c0 := f1.c0
  have c1 := f1.c1
  have c2 := f1.c2
  clear hC fA bA b1
  by_cases h0 : C = 0
  · subst h0
    by_cases hz : 0 < z
    · have dz : decide ((0 : Int) < (z : Int)) = true := decide_eq_true (by omega)
      have e1 := hidOf (show v.enc = lowL v.n z by rw [hE.out]; simp [hz])
      clear hE
      go_wp2_with (first | (go_at_call 41; refine (hS _).mono ?_; rintro e w2 ⟨rfl, rfl⟩))
      refine (hLow _).mono ?_
      rintro e w3 ⟨x, rfl, hB3, b3, hN3⟩
      have B3 := B1.trans (b3.mono (by omega))
      go_wp2
      go_ret2
      exact ⟨_, rfl, by rw [e1.out]; exact hB3, B3, fun b hb => by have := hN3 b hb; omega⟩
    · have dz : decide ((0 : Int) < (z : Int)) = false := decide_eq_false (by omega)
      have e1 := hidOf (show v.enc = v.s.data.toList by rw [hE.out]; simp [hz])
      clear hE
      have hconv := run_bytes_of_string (P := Try.prog) w1 9 30 5 v.s Try.underlying9 Try.underlying30 Try.underlying5
      have hR0 := Row.ofText w1 v.s (grownCap w1 v.s.size 0 5) 5
      go_wp2_with (go_at_call 41; refine (hS _).mono ?_; rintro e w2 ⟨rfl, rfl⟩)
      go_ret2
      refine ⟨_, rfl, ?_, (B1.trans ((Below.refl _ _).alloc (by omega) _)).drew, fun b hb => by injection hb with hb; subst hb; show q ≤ w2.heap.size; have := B1.size; omega⟩
      rw [e1.out]
      have := Bytes.of_row (l := v.s.data.toList) hR0 (grownCap w2 v.s.size 0 5)
      rw [show v.s.data.toList.length = v.s.size by simp] at this
      exact this
  · have dz : ((C : Int) != 0) = true := by simpa using h0
    have e1 := hidOf (show v.enc = [] by rw [hE.out]; simp [h0])
    clear hE
    go_wp2
    go_ret2
    exact ⟨_, rfl, by rw [e1.out]; exact Bytes.nil _, B1, fun b hb => by cases hb⟩
end Go.Proofs.Ytdcogpadioeclaa
namespace Go.Proofs.Ytdcogpadioeclaa
open Go.RowKit Go.Proofs.Ty Go.Sort Go.Lib
set_option linter.unusedVariables false
set_option maxRecDepth 1000000
set_option linter.unusedSimpArgs false
theorem bs3L {w : World} {ops : Array Oper} {rest : List Oper} {o : Oper} {a : Act} {Q : Exit → Act → World → Prop} (hgd : Region.wanted o (yielded ops a.tmps) = true) (x y z : Operand) (ho : o.op = .buildSlice 30 3 #[(0, x), (1, y), (2, z)]) (p q r : Int) (hx : a.eval x = .int .u8 p) (hy : a.eval y = .int .u8 q) (hz : a.eval z = .int .u8 r)
    (hh : wpList Try.prog ops Q rest (a.put o.dst (.slice (some ⟨w.heap.size, 0, none⟩) 3 3)) (w.alloc (.cells #[.int .u8 p, .int .u8 q, .int .u8 r] 5))) : wpList Try.prog ops Q (o :: rest) a w :=
  BigFrame.wpList_want hgd fun _ hK => wp_bs3 x y z ho p q r hx hy hz (hK _ _ hh)
set_option maxHeartbeats 8000000 in
theorem QSave_any {E : Nat} {its : List Im} {vL vV : Value} {w : World} (h : Rd E (its.map Im.e) vL (its.map Im.v) vV w) (hlen : its.length ≤ 1024) :
    Calls Try.prog 34 #[.pointer (some ⟨E, 0, none⟩)] w fun e w' => ∃ x, e = .returned x ∧ w'.ownsRow w.heap.size 5 1 x (sav its).length (Lib.byteCells (sav its)) ∧ Below w.heap.size w w' := by
  have HD := hidOf2 h
  have HN := hidOf2 (show (w.alloc (.cells #[] 5)).ownsRow w.heap.size 5 1 (.slice (some ⟨w.heap.size, 0, none⟩) 0 0) (sav (its.take 0)).length (Lib.byteCells (sav (its.take 0))) from own_empty w)
  have HB0 := hidOf2 (show Below w.heap.size w (w.alloc (.cells #[] 5)) from (Below.refl _ _).alloc (Nat.le_refl _) _)
  obtain ⟨aL, cL, hvL⟩ := h.rowL.wide.shape
  obtain ⟨aV, cV, hvV⟩ := h.rowV.wide.shape
  rw [List.length_map] at hvL hvV
  subst hvL
  subst hvV
  clear h
  go_enter Try.func34, Try.ntmps34
  go_wp2
  go_loopw [3, 4] (fun s3 s4 x => ∃ k : Nat, k ≤ its.length ∧ s4 = .int .i64 k ∧ (∃ ao cap, s3 = .slice ao (sav (its.take k)).length cap) ∧ Hid (x.ownsRow w.heap.size 5 1 s3 (sav (its.take k)).length (Lib.byteCells (sav (its.take k)))) ∧ Hid (Below w.heap.size w x)) (fun _ s4 _ => its.length - (intOf s4).toNat)
  case atStart => exact ⟨0, Nat.zero_le _, rfl, ⟨_, _, rfl⟩, HN, HB0⟩
  case round =>
    clear HN HB0
    obtain ⟨k, hk, rfl, ⟨ao, cap, rfl⟩, HO, HB⟩ := hrel
    have hD3 := HD.out.below HB.out
    obtain ⟨c0, c1⟩ := hD3.c
    by_cases hkl : k < its.length
    · obtain ⟨lb, lo, cL', vb, vo, cV', e1, e2, hlb, hvb, rL, rV⟩ := hD3.atI hkl
      injection e1 with e1 _ e1c
      injection e2 with e2 _ e2c
      subst e1
      subst e2
      subst e1c
      subst e2c
      have HS := hidOf2 (sav_step its k hkl)
      generalize its[k] = i at *
      obtain ⟨q, hq⟩ : ∃ q, wr.heap.size = q := ⟨_, rfl⟩
      have hh : (wr.alloc (.cells #[.int .u16 0, .int .u8 0, .int .i64 0, .bool false, .bool false, .int .i64 0, .int .u64 0, .string ⟨#[]⟩, .int .i64 0, .int .u64 0, .string ⟨#[]⟩, .int .i64 0, .int .u64 0, .string ⟨#[]⟩] 47)).heap[q]? = some (.cells #[.int .u16 0, .int .u8 0, .int .i64 0, .bool false, .bool false, .int .i64 0, .int .u64 0, .string ⟨#[]⟩, .int .i64 0, .int .u64 0, .string ⟨#[]⟩, .int .i64 0, .int .u64 0, .string ⟨#[]⟩] 47 (0, 0)) := by rw [← hq]; exact heap_alloc_new _ _
      have hE := Eb.row hh i.e
      have bA : Below wr.heap.size wr (wr.alloc (.cells #[.int .u16 0, .int .u8 0, .int .i64 0, .bool false, .bool false, .int .i64 0, .int .u64 0, .string ⟨#[]⟩, .int .i64 0, .int .u64 0, .string ⟨#[]⟩, .int .i64 0, .int .u64 0, .string ⟨#[]⟩] 47)) := (Below.refl _ _).alloc (Nat.le_refl _) _
      have bB := below_row bA (by omega) bA.size (q := q) i.e.arr
      have HB2 := hidOf2 (HB.out.trans (bB.mono HB.out.size))
      have HO2 := hidOf2 (own_below5 HO.out bB)
      have rV2 := rng_below rV bB hvb
      have c1b := (hD3.below bB).c.2
      clear bA bB hD3 rV
      go_upto_region 6 with (first | (refine ldE rL rfl _ rfl rfl ?_) | (refine sdE hh rfl i.e rfl _ _ rfl rfl rfl ?_))
      try simp only [hq]
      generalize ((wr.alloc (.cells #[.int .u16 0, .int .u8 0, .int .i64 0, .bool false, .bool false, .int .i64 0, .int .u64 0, .string ⟨#[]⟩, .int .i64 0, .int .u64 0, .string ⟨#[]⟩, .int .i64 0, .int .u64 0, .string ⟨#[]⟩] 47)).setRow q i.e.arr) = w3 at *
      clear hh rL HB HO c0 c1
      obtain ⟨k0, k1, k2, _⟩ := hE.c
      have hY := r7Encode_f i.v w3
      by_cases ha : i.e.ac = 2
      · rw [ha] at k2
        have HS2 := hidOf2 (HS.out.trans (by rw [svI, if_pos ha]))
        clear HS
        go_wp2_with (first | (refine ldV rV2 rfl _ rfl rfl ?_))
        refine hY.mono ?_
        rintro y w4 ⟨raw, rfl, hraw, b4, hnew⟩
        obtain ⟨aor, capr, rfl⟩ := bytes_shape hraw
        have HNE : Hid (i.v.enc ≠ [] → ∀ b, (Value.slice aor i.v.enc.length capr).ownBlock = some b → (Value.slice ao (sav (its.take k)).length cap).ownBlock ≠ some b) := fun _ b hb hb2 => by have h1 := hnew b hb; have h2 := own_block_lt HO2.out b hb2; omega
        have HB4 := hidOf2 (HB2.out.trans (b4.mono HB2.out.size))
        have HO4 := hidOf2 (own_below5 HO2.out b4)
        have hE4 := hE.below b4
        obtain ⟨k0, k1, _, _⟩ := hE4.c
        have hix := i.e.hix
        have hsb := i.e.hsb
        have b5 : Below w4.heap.size w4 (w4.alloc (.cells #[.int .u8 ((i.e.ix : Int) % 256), .int .u8 ((i.e.ix : Int) / 256), .int .u8 (i.e.sb : Int)] 5)) := (Below.refl _ _).alloc (Nat.le_refl _) _
        have HR5 := hidOf2 (hraw.below b5)
        have ho5 := ownsRow_alloc HO4.out (.cells #[.int .u8 ((i.e.ix : Int) % 256), .int .u8 ((i.e.ix : Int) / 256), .int .u8 (i.e.sb : Int)] 5)
        have h3 := bytes3 w4 i.e
        have hl5 : (sav (its.take k)).length + (hd3 i.e).length ≤ 140737488355328 := by rw [hd3_len]; have := sav_take its k; omega
        have hb5 : w.heap.size ≤ (w4.alloc (.cells #[.int .u8 ((i.e.ix : Int) % 256), .int .u8 ((i.e.ix : Int) / 256), .int .u8 (i.e.sb : Int)] 5)).heap.size := Nat.le_trans HB4.out.size b5.size
        clear hY hraw hnew b4 hE HO2 HB2 rV2 c1b k2
        go_upto_region 9 with (first | (refine bs3L rfl _ _ _ rfl ((i.e.ix : Int) % 256) ((i.e.ix : Int) / 256) (i.e.sb : Int) (by first | rfl | (simp [Act.eval, wrap8] <;> omega)) (by first | rfl | (simp [Act.eval, wrap8] <;> omega)) rfl ?_) | (refine append_bytes2 rfl _ _ rfl w.heap.size _ _ rfl ho5 _ _ rfl h3 hl5 hb5 ?_; intro v6 w6 P6 G6 H6))
        have b6 : Below w.heap.size w w6 := (HB4.out.trans (b5.mono HB4.out.size)).grown G6 hb5 (fun j hj => own_lt HO4.out j hj)
        have HRW := hidOf2 (bytes_keep HR5.out HNE.out G6)
        have HN6 := hidOf2 (ne_keep HR5.out HNE.out H6)
        have HS6 := hidOf2 (own_shape5 P6)
        have HO6 := hidOf2 P6
        have HB6 := hidOf2 b6
        clear b5 b6 P6 G6 H6 HO4 HB4 HR5 HNE ho5 h3 hl5 hb5 hE4 k0 k1
        go_wp2
        have hpre := sav_take its k
        have henc := enc_len i.v
        have HPX := hidOf2 (show (sav (its.take k) ++ hd3 i.e ++ lowL i.v.enc.length 0) = sav (its.take k) ++ hd3 i.e by simp [lowL])
        go_loopw [3, 8] (fun s3 s46 x => ∃ j : Nat, j ≤ 4 ∧ s46 = .int .i64 j ∧ (∃ ao cap, s3 = .slice ao (sav (its.take k) ++ hd3 i.e ++ lowL i.v.enc.length j).length cap) ∧ Hid (x.ownsRow w.heap.size 5 1 s3 (sav (its.take k) ++ hd3 i.e ++ lowL i.v.enc.length j).length (Lib.byteCells (sav (its.take k) ++ hd3 i.e ++ lowL i.v.enc.length j))) ∧ Hid (Below w.heap.size w x) ∧ Hid (Bytes x (.slice aor i.v.enc.length capr) i.v.enc) ∧ Hid (i.v.enc ≠ [] → ∀ b, (Value.slice aor i.v.enc.length capr).ownBlock = some b → s3.ownBlock ≠ some b)) (fun _ s46 _ => 4 - (intOf s46).toNat)
        case atStart => exact ⟨0, by omega, rfl, by rw [HPX.out]; exact HS6.out, by rw [HPX.out]; exact HO6, HB6, HRW, HN6⟩
        case round =>
          clear HO6 HB6 HRW HN6 HPX
          obtain ⟨j, hj, rfl, ⟨ao7, cp7, rfl⟩, HO7, HB7, HR7, HN7⟩ := hrel
          by_cases hj4 : j < 4
          · have hsn := hidOf2 (lowL_snoc i.v.enc.length j)
            have hby := byte_at i.v.enc.length j
            rw [Nat.mul_comm] at hby
            generalize UInt8.ofNat (i.v.enc.length / 256 ^ j) = c at *
            have hw1 := bytes1 wr c
            have ho1 := ownsRow_alloc HO7.out (.cells #[.int .u8 c.toNat] 5)
            have hl1 : (sav (its.take k) ++ hd3 i.e ++ lowL i.v.enc.length j).length + [c].length ≤ 140737488355328 := by rw [List.length_append, List.length_append, hd3_len, lowL_length]; simp; omega
            have hb1 : w.heap.size ≤ (wr.alloc (.cells #[.int .u8 c.toNat] 5)).heap.size := by rw [size_alloc]; have := HB7.out.size; omega
            have bA : Below wr.heap.size wr (wr.alloc (.cells #[.int .u8 c.toNat] 5)) := (Below.refl _ _).alloc (Nat.le_refl _) _
            go_wp2_with (first | (refine append_bytes2 rfl _ _ rfl w.heap.size _ _ rfl ho1 _ _ rfl hw1 hl1 hb1 ?_; intro v8 w8 P8 G8 H8))
            have he := hidOf2 (show sav (its.take k) ++ hd3 i.e ++ lowL i.v.enc.length (j + 1) = sav (its.take k) ++ hd3 i.e ++ lowL i.v.enc.length j ++ [c] by rw [hsn.out]; simp only [List.append_assoc])
            have HP8 := hidOf2 P8
            have HB8 := hidOf2 ((HB7.out.trans (bA.mono HB7.out.size)).grown G8 hb1 (fun j hj => own_lt HO7.out j hj))
            have HR8 := hidOf2 (bytes_keep (HR7.out.below bA) HN7.out G8)
            have HN8 := hidOf2 (ne_keep (HR7.out.below bA) HN7.out H8)
            have HS8 := hidOf2 (own_shape5 P8)
            clear P8 G8 H8 HO7 HB7 HR7 HN7 ho1 hw1 bA hl1 hb1
            go_roundw
            case rel => exact ⟨j + 1, by omega, by go_num, by rw [he.out]; exact HS8.out, by rw [he.out]; exact HP8, HB8, HR8, HN8⟩
            case measure => simp [intOf]; omega
          · have hj5 : j = 4 := by omega
            subst hj5
            have ho1 := HO7.out
            have hw1 := HR7.out
            have hl1 : (sav (its.take k) ++ hd3 i.e ++ lowL i.v.enc.length 4).length + i.v.enc.length ≤ 140737488355328 := by rw [List.length_append, List.length_append, hd3_len, lowL_length]; omega
            have hb1 := HB7.out.size
            go_wp2_with (first | (refine append_bytes2 rfl _ _ rfl w.heap.size _ _ rfl ho1 _ _ rfl hw1 hl1 hb1 ?_; intro v8 w8 P8 G8 H8))
            have he := hidOf2 (show sav (its.take (k + 1)) = sav (its.take k) ++ hd3 i.e ++ lowL i.v.enc.length 4 ++ i.v.enc by rw [HS2.out]; simp only [List.append_assoc])
            have HP8 := hidOf2 P8
            have HB8 := hidOf2 (HB7.out.grown G8 hb1 (fun j hj => own_lt HO7.out j hj))
            have HS8 := hidOf2 (own_shape5 P8)
            clear P8 G8 H8 HO7 HB7 HR7 HN7 ho1 hw1 hl1 hb1
            go_roundw
            case rel => exact ⟨k + 1, by omega, by go_num, by rw [he.out]; exact HS8.out, by rw [he.out]; exact HP8, HB8⟩
            case measure => simp [intOf]; omega
      · have d1 : (i.e.ac != 2) = true := by simpa using ha
        have HS2 := hidOf2 (HS.out.trans (by rw [svI, if_neg ha, List.append_nil]))
        generalize i.e.ac = A at *
        clear HS hY
        go_wp2
        go_roundw
        case rel => exact ⟨k + 1, by omega, by go_num, by rw [HS2.out]; exact ⟨_, _, rfl⟩, by rw [HS2.out]; exact HO2, HB2⟩
        case measure => simp [intOf]; omega
    · have e1 : k = its.length := by omega
      subst e1
      rw [List.take_length] at HO
      have HO2 := hidOf2 HO.out
      clear HO hD3
      rw [List.take_length]
      go_wp2
      go_ret
      exact ⟨_, rfl, HO2.out, HB.out⟩
end Go.Proofs.Ytdcogpadioeclaa
namespace Go.Proofs.Ytdcogpadioeclaa
open Go.RowKit Go.Proofs.Ty Go.Sort Go.Lib
set_option linter.unusedVariables false
set_option maxRecDepth 1000000
set_option linter.unusedSimpArgs false
theorem kp_other {D R : Nat} {its : List Im} {x y : World} (hd : Dct D R its x) (hK : Kp (its.map Im.b) x y) {q T : Nat} {A : Array Value} {fr : Nat × Nat} (hq : x.heap[q]? = some (.cells A T fr)) (ht : T ≠ 79) : y.heap[q]? = some (.cells A T fr) :=
  (hK.block q (Array.getElem?_eq_some_iff.1 hq).1 (fun hm => by
    obtain ⟨i, hi, e⟩ := List.mem_map.1 hm
    have h1 := hd.items i hi
    rw [show i.b = q from e] at h1
    have h2 : x.heap[q]? = some (.cells (imC i.e i.v).toArray 79 (0, 0)) := h1
    rw [hq] at h2
    simp at h2
    exact ht h2.2.1)).trans hq
theorem kp_dct {D R D2 R2 : Nat} {its its2 : List Im} {x y : World} (hd : Dct D R its x) (h2 : Dct D2 R2 its2 x) (hK : Kp (its.map Im.b) x y) (dis : ∀ b ∈ its2.map Im.b, b ∉ its.map Im.b) : Dct D2 R2 its2 y :=
  ⟨kp_other hd hK h2.head (by decide), kp_other hd hK h2.row (by decide), fun i hi => (hK.block i.b (h2.items i hi).lt (dis i.b (List.mem_map.2 ⟨i, hi, rfl⟩))).trans (h2.items i hi), h2.apart, h2.sorted, h2.len⟩
theorem kp_own {D R : Nat} {its : List Im} {x y : World} {B T c n : Nat} {v : Value} {xs : List Value} (h : x.ownsRow B T c v n xs) (hd : Dct D R its x) (hK : Kp (its.map Im.b) x y) (ht : T ≠ 79) : y.ownsRow B T c v n xs := by
  refine ⟨h.1, h.2.imp id ?_⟩
  rintro ⟨g, cap, cur, e1, e2, e3, e4⟩
  exact ⟨g, cap, cur, e1, e2, kp_other hd hK e3 ht, e4⟩
/-- A block of another type than the row's. -/
theorem row_other {x y : World} {r : Option Nat} (G : x.grownBy y r) {U : Nat} (hr : ∀ b, r = some b → ∃ cur, x.heap[b]? = some (.cells cur U (0, 0))) {q T : Nat} {A : Array Value} {fr : Nat × Nat} (hq : x.heap[q]? = some (.cells A T fr)) (ht : T ≠ U) : y.heap[q]? = some (.cells A T fr) :=
  (G.block q (Array.getElem?_eq_some_iff.1 hq).1 (fun e => by
    obtain ⟨cur, h1⟩ := hr q e.symm
    rw [hq] at h1
    simp at h1
    exact ht h1.2.1)).trans hq
theorem row_dct {x y : World} {r : Option Nat} (G : x.grownBy y r) {U : Nat} (hr : ∀ b, r = some b → ∃ cur, x.heap[b]? = some (.cells cur U (0, 0))) (h1 : U ≠ 73) (h2 : U ≠ 75) (h3 : U ≠ 79) {D R : Nat} {its : List Im} (h : Dct D R its x) : Dct D R its y :=
  ⟨row_other G hr h.head h1.symm, row_other G hr h.row h2.symm, fun i hi => row_other G hr (show x.heap[i.b]? = _ from h.items i hi) h3.symm, h.apart, h.sorted, h.len⟩
/-- Two dictionaries. -/
structure Se (w : World) (X D R E D2 R2 : Nat) (its its2 : List Im) (x : World) : Prop where
  d1 : Dct D R its x
  d2 : Dct D2 R2 its2 x
  pair : x.heap[X]? = some (.cells #[.pointer (some ⟨D, 0, none⟩), .pointer (some ⟨E, 0, none⟩)] 54 (0, 0))
  below : Below w.heap.size w x
  b1 : ∀ b ∈ its.map Im.b, w.heap.size ≤ b
  b2 : ∀ b ∈ its2.map Im.b, w.heap.size ≤ b
  dis : ∀ b ∈ its.map Im.b, b ∉ its2.map Im.b
  tw : Tw its its2
section
variable {w : World} {X D R E D2 R2 : Nat} {its its2 : List Im} {x y : World}
theorem Se.next (h : Se w X D R E D2 R2 its its2 x) (hb : Below x.heap.size x y) : Se w X D R E D2 R2 its its2 y :=
  ⟨h.d1.below hb, h.d2.below hb, (hb.block X (Array.getElem?_eq_some_iff.1 h.pair).1).trans h.pair, h.below.trans (hb.mono h.below.size), h.b1, h.b2, h.dis, h.tw⟩
theorem Se.cX (h : Se w X D R E D2 R2 its its2 x) : x.cell? ⟨X, 0, none⟩ = some (.pointer (some ⟨D, 0, none⟩)) := Lib.cell_of_heap h.pair 0
theorem Se.row8 (h : Se w X D R E D2 R2 its its2 x) {r : Option Nat} (G : x.grownBy y r) (hr : ∀ b, r = some b → w.heap.size ≤ b ∧ ∃ cur, x.heap[b]? = some (.cells cur 5 (0, 0))) : Se w X D R E D2 R2 its its2 y :=
  have hr2 : ∀ b, r = some b → ∃ cur, x.heap[b]? = some (.cells cur 5 (0, 0)) := fun b hb => (hr b hb).2
  ⟨row_dct G hr2 (by decide) (by decide) (by decide) h.d1, row_dct G hr2 (by decide) (by decide) (by decide) h.d2, row_other G hr2 h.pair (by decide), h.below.grown G h.below.size (fun j hj => (hr j hj).1), h.b1, h.b2, h.dis, h.tw⟩
/-- Both are written. -/
theorem Se.both {z : World} (h : Se w X D R E D2 R2 its its2 x) (ix sb : Nat) (l : List UInt8) (hd : Dct D R (wrt its ix sb l) y) (hK : Kp (its.map Im.b) x y) {y' : World} (hy : Dct D2 R2 its2 y') (hd1 : Dct D R (wrt its ix sb l) y') (hp : y'.heap[X]? = some (.cells #[.pointer (some ⟨D, 0, none⟩), .pointer (some ⟨E, 0, none⟩)] 54 (0, 0))) (hB : Below w.heap.size w y')
    (hd2 : Dct D2 R2 (wrt its2 ix sb l) z) (hK2 : Kp (its2.map Im.b) y' z) : Se w X D R E D2 R2 (wrt its ix sb l) (wrt its2 ix sb l) z := by
  have a1 := (((⟨rfl, rfl⟩ : Al (its.map Im.e) (its.map Im.b) its)).wrt ix sb l).b
  have a2 := (((⟨rfl, rfl⟩ : Al (its2.map Im.e) (its2.map Im.b) its2)).wrt ix sb l).b
  refine ⟨kp_dct hy hd1 hK2 (by rw [a1]; exact h.dis), hd2, kp_other hy hK2 hp (by decide), hK2.below hB hB.size h.b2, by rw [a1]; exact h.b1, by rw [a2]; exact h.b2, by rw [a1, a2]; exact h.dis, h.tw.wrt h.d1.apart h.d2.apart h.d1.sorted h.d2.sorted ix sb l⟩
end
def Aq (q : Nat) (a : A8) (x : World) : Prop := x.heap[q]? = some (.cells a.arr 35 (0, 0))
theorem Aq.c {q : Nat} {a : A8} {x : World} (h : Aq q a x) : x.cell? ⟨q, 1, none⟩ = some (.int .u16 a.ix) ∧ x.cell? ⟨q, 2, none⟩ = some (.int .u8 a.sb) ∧ x.cell? ⟨q, 3, none⟩ = some a.bv := ⟨Lib.cell_of_heap h 1, Lib.cell_of_heap h 2, Lib.cell_of_heap h 3⟩
theorem acC_one (a : A8) (h : a.bv.oneCell' = true) : ∀ u ∈ acC a, u.oneCell' = true := by
  intro u hu
  simp [acC] at hu
  rcases hu with rfl | rfl | rfl | rfl | rfl | rfl | rfl | rfl <;> first | rfl | exact h
section
variable {w : World} {ops : Array Oper} {rest : List Oper} {p : Oper} {a : Act} {Q : Exit → Act → World → Prop} {b o : Nat}
theorem ldA {e : A8} (h : w.rangeAt b o (acC e)) (hgd : Region.wanted p (yielded ops a.tmps) = true) (x : Operand) (ho : p.op = .load 35 x) (hx : a.eval x = .pointer (some ⟨b, o, none⟩))
    (hh : wpList Try.prog ops Q rest (a.put p.dst (.agg e.arr)) w) : wpList Try.prog ops Q (p :: rest) a w :=
  BigFrame.wpList_want hgd fun _ hK => wp_load_mid 35 x ho b o hx (acC e) _ h Try.underlying35 rfl (by rw [infoAz]; rfl) (hK _ _ hh)
theorem sdA {q : Nat} {c : Array Value} (h : w.heap[q]? = some (.cells c 35 (0, 0))) (hc : c.size = 8) (e : A8) (he : e.bv.oneCell' = true) (hgd : p.guard = none) (x y : Operand) (ho : p.op = .store 35 x y) (hx : a.eval x = .pointer (some ⟨q, 0, none⟩)) (hy : a.eval y = .agg e.arr)
    (hh : wpList Try.prog ops Q rest (a.put p.dst undef) (w.setRow q e.arr)) : wpList Try.prog ops Q (p :: rest) a w :=
  wpList_store_row hgd 35 x y ho q e.arr hx hy 35 c h (by show _ = some 8; exact infoAz) (by rw [hc]; rfl) (all_oneCell_toArray (acC_one e he)) hh
end
end Go.Proofs.Ytdcogpadioeclaa
namespace Go.Proofs.Ytdcogpadioeclaa
open Go.RowKit Go.Proofs.Ty Go.Sort Go.Lib
set_option linter.unusedVariables false
set_option maxRecDepth 1000000
set_option linter.unusedSimpArgs false
theorem quiet_neqE {W : World} {ops : Array Oper} {rest : List Oper} {o : Oper} {a : Act} {Q : Act → Prop} (e : En) (hgd : Region.wanted o (yielded ops a.tmps) = true) (x y : Operand) (ho : o.op = .binOp .neq 47 x y 47) (hx : a.eval x = .agg e.arr) (hy : a.eval y = .agg e.arr)
    (hh : wpQuiet Try.prog ops (fun w' => ∃ x : Later W, w' = x.now) Q rest (a.put o.dst (.bool false))) : wpQuiet Try.prog ops (fun w' => ∃ x : Later W, w' = x.now) Q (o :: rest) a := by
  unfold wpQuiet
  rw [if_pos hgd]
  refine ⟨.bool false, ?_, hh⟩
  rintro w' ⟨z, rfl⟩
  have hl := enSame e z.now
  have hg : (eqGuard .neq 47 x y (.agg e.arr) (.agg e.arr)).run Try.prog z.now = .ok () z.now := run_eqGuard_agg z.now .neq 47 x y e.arr e.arr guardE
  unfold Oper.quietAt execOp
  simp only [ho, hx, hy, Sem.run_bind, Sem.run_pure, hg, Result.andThen_ok, hl]
  exact ⟨rfl, rfl⟩
theorem wp_conv {o : Oper} {a : Act} {w : World} {K : Act → World → Prop} {Q : Exit → Act → World → Prop} (x : Operand) (ho : o.op = .convert 30 9 x) (v u : Value) (hx : a.eval x = v)
    (hr : (convert 30 9 v).run Try.prog w = .ok u w) (h : K (a.put o.dst u) w) : o.wp Try.prog a w K Q := by
  unfold Oper.wp execOp
  simp only [ho, hx, Sem.run_bind, Sem.run_pure, Result.andThen_ok, hr]
  exact h
end Go.Proofs.Ytdcogpadioeclaa
namespace Go.Proofs.Ytdcogpadioeclaa
open Go.RowKit Go.Proofs.Ty
set_option linter.unusedVariables false
set_option maxRecDepth 1000000
set_option linter.unusedSimpArgs false
/-- A saved value in memory. -/
structure Sw where
  s : Sv
  ao : Option Addr
  cp : Nat
def Sw.bv (x : Sw) : Value := .slice x.ao x.s.raw.length x.cp
def swC (x : Sw) : List Value := [.int .u16 x.s.ix, .int .u8 x.s.sb, .slice x.ao x.s.raw.length x.cp]
def Sw.arr (x : Sw) : Array Value := (swC x).toArray
def Sw.nul : Sw := ⟨⟨0, 0, [], by decide, by decide⟩, none, 0⟩
theorem swC_one (x : Sw) : ∀ u ∈ swC x, u.oneCell' = true := by
  intro u hu
  simp [swC] at hu
  rcases hu with rfl | rfl | rfl <;> rfl
def DS : Dec Sw := ⟨swC, 3, by decide, fun _ => rfl, swC_one⟩
theorem infoS : (Try.prog.info? 91).map (·.size) = some 3 := by kernel_rfl
theorem infoSz : (Try.prog.info? 91).map (fun i => (i.zero, i.size, i.bytes)) = some (some (.agg #[.int .u16 0, .int .u8 0, .slice none 0 0]), 3, 32) := by kernel_rfl
def Sb (q : Nat) (x : Sw) (w : World) : Prop := w.heap[q]? = some (.cells x.arr 91 (0, 0))
section
variable {q : Nat} {s : Sw} {w : World}
theorem Sb.lt (h : Sb q s w) : q < w.heap.size := (Array.getElem?_eq_some_iff.1 h).1
theorem Sb.new (w : World) (s : Sw) : Sb w.heap.size s (w.alloc (.cells s.arr 91)) := heap_alloc_new w _
theorem Sb.below {w' : World} (h : Sb q s w) (hb : Below w.heap.size w w') : Sb q s w' := (hb.block q h.lt).trans h
theorem Sb.row (h : Sb q s w) (s' : Sw) : Sb q s' (w.setRow q s'.arr) := setRow_heap w q s.arr _ 91 _ h
theorem Sb.c (h : Sb q s w) : w.cell? ⟨q, 0, none⟩ = some (.int .u16 s.s.ix) ∧ w.cell? ⟨q, 1, none⟩ = some (.int .u8 s.s.sb) ∧ w.cell? ⟨q, 2, none⟩ = some (.slice s.ao s.s.raw.length s.cp) := ⟨Lib.cell_of_heap h 0, Lib.cell_of_heap h 1, Lib.cell_of_heap h 2⟩
theorem Sb.load (h : Sb q s w) : (loadVar 91 ⟨q, 0, none⟩).run Try.prog w = .ok (.agg s.arr) w :=
  run_loadVar_row w q 91 91 s.arr (0, 0) _ h Try.underlying91 rfl (by show _ = some 3; exact infoS)
theorem Sb.ld {ops : Array Oper} {rest : List Oper} {o : Oper} {a : Act} {Q : Exit → Act → World → Prop} (h : Sb q s w) (hgd : Region.wanted o (yielded ops a.tmps) = true) (x : Operand) (ho : o.op = .load 91 x) (hx : a.eval x = .pointer (some ⟨q, 0, none⟩))
    (hh : wpList Try.prog ops Q rest (a.put o.dst (.agg s.arr)) w) : wpList Try.prog ops Q (o :: rest) a w :=
  BigFrame.wpList_want hgd fun _ hK => wp_load_row 91 x ho q hx 91 s.arr (0, 0) _ h Try.underlying91 rfl (by show _ = some 3; exact infoS) (hK _ _ hh)
theorem Sb.sd {ops : Array Oper} {rest : List Oper} {o : Oper} {a : Act} {Q : Exit → Act → World → Prop} (h : Sb q s w) (s' : Sw) (hgd : o.guard = none) (x y : Operand) (ho : o.op = .store 91 x y) (hx : a.eval x = .pointer (some ⟨q, 0, none⟩)) (hy : a.eval y = .agg s'.arr)
    (hh : wpList Try.prog ops Q rest (a.put o.dst undef) (w.setRow q s'.arr)) : wpList Try.prog ops Q (o :: rest) a w :=
  wpList_store_row hgd 91 x y ho q s'.arr hx hy 91 s.arr h (by show _ = some 3; exact infoS) rfl (all_oneCell_toArray (swC_one s')) hh
end
theorem exec_idxB {a : Act} {o : Oper} {s i : Operand} {b off n c k : Nat} (ho : o.op = .indexAddr 30 s i) (hs : a.eval s = .slice (some ⟨b, off, none⟩) n c) (hi : a.eval i = .int .i64 (k : Int)) (hk : k < n) (w : World) : (execOp a.eval o).run Try.prog w = .ok (.value (.pointer (some ⟨b, off + k, none⟩))) w := by
  have h1 : (0 : Int) ≤ (k : Int) := by omega
  have h2 : (k : Int) < (n : Int) := by omega
  unfold execOp
  simp only [ho, hs, hi]
  obtain ⟨i0, hi0, hz0, hz1, hz2⟩ := info_parts info5
  simp [go_sem, run_underlying Try.underlying30, sizeOf, typeInfo, hi0, hz1, h1, h2, Addr.add_mid]
theorem load_u8q (x : World) (D k : Nat) (z : Int) (hc : x.cell? ⟨D, k, none⟩ = some (.int .u8 z)) : (loadVar 5 ⟨D, k, none⟩).run Try.prog x = .ok (.int .u8 z) x := by
  simp [go_sem, run_underlying Try.underlying5, hc]
theorem exec_loadq {a : Act} {o : Oper} {x : Operand} {w : World} {ty : TypeId} {ad : Addr} {v : Value} (ho : o.op = .load ty x) (hx : a.eval x = .pointer (some ad)) (hr : (loadVar ty ad).run Try.prog w = .ok v w) : (execOp a.eval o).run Try.prog w = .ok (.value v) w := by
  unfold execOp
  simp only [ho, hx, Instr.loadAt, Instr.sureAddr, Sem.run_bind, Sem.run_pure, Result.andThen_ok, hr]
theorem exec_cv16 {a : Act} {o : Oper} {x : Operand} {n : Nat} (ho : o.op = .convert 5 29 x) (hx : a.eval x = .int .u8 (n : Int)) (hn : n < 256) (w : World) : (execOp a.eval o).run Try.prog w = .ok (.value (.int .u16 (n : Int))) w := by
  have : IntKind.u16.wrap (n : Int) = (n : Int) := by simp [IntKind.wrap, IntKind.bits, IntKind.signed]; omega
  unfold execOp
  simp only [ho, hx]
  simp [go_sem, convert, run_underlying Try.underlying5, run_underlying Try.underlying29, this]
theorem exec_shl16 {a : Act} {o : Oper} {x y : Operand} {n : Nat} {t : TypeId} (ho : o.op = .binOp .shl 29 x y t) (hx : a.eval x = .int .u16 (n : Int)) (hy : a.eval y = .int .u64 8) (hn : n < 256) (w : World) : (execOp a.eval o).run Try.prog w = .ok (.value (.int .u16 ((n * 256 : Nat) : Int))) w := by
  have : IntKind.u16.wrap ((n : Int) * 256) = ((n * 256 : Nat) : Int) := by simp [IntKind.wrap, IntKind.bits, IntKind.signed]; omega
  unfold execOp
  simp only [ho, hx, hy]
  simp [go_sem, this]
theorem or16 (a b : Nat) (ha : a < 256) (hb : b < 256) : bits BinOp.or IntKind.u16 (a : Int) ((b * 256 : Nat) : Int) = ((a + 256 * b : Nat) : Int) := by
  have h1 : a ||| b * 256 = a + 256 * b := by
    have := Nat.shiftLeft_add_eq_or_of_lt (i := 8) (b := a) (by omega) b
    rw [Nat.shiftLeft_eq] at this
    rw [Nat.or_comm]
    have e : b * 256 ||| a = b * 256 + a := by simpa using this.symm
    omega
  have h2 : (((b * 256 : Nat) : Int) % 65536).toNat = b * 256 := by omega
  have h3 : (((a : Nat) : Int) % 65536).toNat = a := by omega
  show IntKind.u16.wrap ((((((a : Nat) : Int) % 65536).toNat ||| (((b * 256 : Nat) : Int) % 65536).toNat : Nat)) : Int) = _
  rw [h2, h3, h1]
  simp [IntKind.wrap, IntKind.bits, IntKind.signed]
  omega
theorem exec_or16 {a : Act} {o : Oper} {x y : Operand} {m n : Nat} (ho : o.op = .binOp .or 29 x y 29) (hx : a.eval x = .int .u16 (m : Int)) (hy : a.eval y = .int .u16 ((n * 256 : Nat) : Int)) (hm : m < 256) (hn : n < 256) (w : World) : (execOp a.eval o).run Try.prog w = .ok (.value (.int .u16 ((m + 256 * n : Nat) : Int))) w := by
  have := or16 m n hm hn
  unfold execOp
  simp only [ho, hx, hy]
  simp [go_sem]
  simpa using this
theorem Bytes.get {w : World} {b off cap : Nat} {l : List UInt8} (h : Bytes w (.slice (some ⟨b, off, none⟩) l.length cap) l) (k : Nat) (hk : k < l.length) : b < w.heap.size ∧ w.cell? ⟨b, off + k, none⟩ = some (.int .u8 l[k].toNat) := by
  obtain ⟨ao, cap', hv, _, hc⟩ := h
  injection hv with e1 _ e3
  subst e1
  obtain ⟨b', off', e, hlt, hr⟩ := hc k hk
  injection e with e
  injection e with e1 e2
  subst e1 e2
  exact ⟨hlt, hr⟩
theorem Bytes.is {w : World} {ao : Option Addr} {cap : Nat} {l : List UInt8} (h : Bytes w (.slice ao l.length cap) l) (hk : 0 < l.length) : ∃ b off, ao = some ⟨b, off, none⟩ := by
  obtain ⟨ao', cap', hv, _, hc⟩ := h
  injection hv with e1 _ e3
  subst e1
  obtain ⟨b', off', e, hlt, hr⟩ := hc 0 hk
  exact ⟨b', off', e⟩
theorem exec_sliceB {a : Act} {o : Oper} {x : Operand} {lo hi : Option Operand} {v u : Value} {lo' hi' : Option Value} (ho : o.op = .slice 30 x lo hi none) (hx : a.eval x = v) (hlo : lo.map a.eval = lo') (hhi : hi.map a.eval = hi') (hr : ∀ W, (Instr.sliceAt 30 v lo' hi' none).run Try.prog W = .ok u W) (w : World) : (execOp a.eval o).run Try.prog w = .ok (.value u) w := by
  unfold execOp
  simp only [ho, hx, hlo, hhi, Option.map_none, Sem.run_bind, hr, Result.andThen_ok, Sem.run_pure]
theorem slB {w : World} {ops : Array Oper} {rest : List Oper} {Q : Exit → Act → World → Prop} {a : Act} {o : Oper} (x : Operand) (lo hi : Option Operand) (v u : Value) (lo' hi' : Option Value) (hgd : Region.wanted o (yielded ops a.tmps) = true) (ho : o.op = .slice 30 x lo hi none) (hx : a.eval x = v) (hlo : lo.map a.eval = lo') (hhi : hi.map a.eval = hi') (hr : ∀ W, (Instr.sliceAt 30 v lo' hi' none).run Try.prog W = .ok u W)
    (hh : wpList Try.prog ops Q rest (a.put o.dst u) w) : wpList Try.prog ops Q (o :: rest) a w := by
  refine BigFrame.wpList_want hgd fun K hK => ?_
  unfold Oper.wp
  rw [exec_sliceB ho hx hlo hhi hr]
  exact hK _ _ hh
theorem exec_bdS {a : Act} {o : Oper} {x y z : Operand} (ho : o.op = .build 91 #[(0, x), (1, y), (2, z)]) (s : Sw) (hx : a.eval x = .int .u16 s.s.ix) (hy : a.eval y = .int .u8 s.s.sb) (hz : a.eval z = .slice s.ao s.s.raw.length s.cp) (w : World) : (execOp a.eval o).run Try.prog w = .ok (.value (.agg s.arr)) w := by
  have hb : (Instr.build 91 #[(0, .int .u16 s.s.ix), (1, .int .u8 s.s.sb), (2, .slice s.ao s.s.raw.length s.cp)]).run Try.prog w = .ok (.agg s.arr) w := by kernel_rfl
  unfold execOp
  simp only [ho, List.map_toArray, List.map_cons, List.map_nil, hx, hy, hz, Sem.run_bind, hb, Result.andThen_ok, Sem.run_pure]
theorem head_results {Q : Nat} {s : Sw} {c : Bool} {w : World} (h : Sb Q s w) (tmps : Array Value) (h2 : tmps[2]?.getD undef = .pointer (some ⟨Q, 0, none⟩)) (h3 : tmps[3]?.getD undef = .bool c) :
    (results Try.f65 tmps).run Try.prog w = .ok (.tuple #[.agg s.arr, .bool c]) w := by
  have l0 := h.load
  simp [Go.results, Try.results65, h2, h3, asAddr, l0]
/-- Whether bytes begin with a saved value that is whole. -/
def hdB (l : List UInt8) : Bool := decide (7 ≤ l.length) && decide (hdN l ≤ l.length - 7)
set_option maxHeartbeats 4000000 in
theorem head_any (x : Value) (l : List UInt8) (w : World) (hB : Bytes w x l) (hC : Cp x) (hl : l.length ≤ 140737488351232) :
    Calls Try.prog 65 #[x] w fun e w' => ∃ s : Sw, e = .returned (.tuple #[.agg s.arr, .bool (hdB l)]) ∧ Below w.heap.size w w' ∧ (hdB l = true → s.s = svOf l ∧ ∀ y, Bytes y x l → Bytes y s.bv s.s.raw) := by
  obtain ⟨q, hq⟩ : ∃ q, w.heap.size = q := ⟨_, rfl⟩
  have g0 : Sb q Sw.nul (w.alloc (.cells #[.int .u16 0, .int .u8 0, .slice none 0 0] 91)) := hq ▸ Sb.new w Sw.nul
  have bA : Below w.heap.size w (w.alloc (.cells #[.int .u16 0, .int .u8 0, .slice none 0 0] 91)) := (Below.refl _ _).alloc (Nat.le_refl _) _
  have bN := below_row bA (by omega) bA.size (q := q) Sw.nul.arr
  have HH : Hid (hdB l = (decide (7 ≤ l.length) && decide (hdN l ≤ l.length - 7))) := rfl
  have HBW := hidOf2 (hB.below bA)
  have HS := hidOf2 (fun k hk => join_step ((l.drop 3).take 4) k hk (by rw [List.length_take]; omega))
  have HL := hidOf2 (fun (hk : 7 ≤ l.length) => bslice_l hB hC 7 hk)
  obtain ⟨ao, cap, rfl, h0, hc⟩ := hB.below bA
  generalize hdB l = H at *
  go_enter Try.func65, Try.ntmps65
  by_cases h7 : l.length < 7
  · have d1 : decide ((l.length : Int) < 7) = true := by simp; omega
    have e1 := hidOf2 (show H = false by rw [HH.out, decide_eq_false (by omega)]; rfl)
    clear HH HBW HS HL hc h0 hB
    go_upto_region 1 with fail
    generalize (w.alloc (.cells #[.int .u16 0, .int .u8 0, .slice none 0 0] 91)) = W at *
    try simp only [hq]
    have g1 := g0.row Sw.nul
    go_wp2_with (first | (refine g0.sd Sw.nul rfl _ _ rfl rfl rfl ?_))
    exact bodyPost_ret (head_results g1 _ rfl rfl) rfl ⟨_, by rw [e1.out], by first | exact bN | (rw [← hq]; exact bN), fun h => by rw [e1.out] at h; cases h⟩
  · have d1 : decide ((l.length : Int) < 7) = false := by simp; omega
    obtain ⟨ra, rc, hrun, hrB, hrC⟩ := HL.out (by omega)
    have HrB := hidOf2 hrB
    have HrC := hidOf2 hrC
    have hlen4 : ((l.drop 3).take 4).length = 4 := by rw [List.length_take, List.length_drop]; omega
    have hN : hdN l = joinL (((l.drop 3).take 4).take 4) := by rw [List.take_of_length_le (by omega)]; rfl
    have hNl := hdN_lt l
    clear HL hrB hrC
    go_upto_region 3 with fail
    generalize (w.alloc (.cells #[.int .u16 0, .int .u8 0, .slice none 0 0] 91)) = W at *
    try simp only [hq]
    go_wp2
    go_loop [4, 11] (fun n i => ∃ k : Nat, k ≤ 4 ∧ i = .int .i64 k ∧ n = .int .u64 (joinL (((l.drop 3).take 4).take k))) (fun _ i => 4 - (intOf i).toNat)
    case atStart => exact ⟨0, Nat.zero_le _, rfl, rfl⟩
    case round =>
      obtain ⟨k, hk, rfl, rfl⟩ := hrel
      by_cases hk4 : k < 4
      · obtain ⟨b, off, rfl, hlt, hcell⟩ := hc (3 + k) (by omega)
        have H1 := hidOf (HS.out k (by omega))
        have hcl := l[3 + k].toNat_lt
        have hg : ((l.drop 3).take 4)[k]'(by omega) = l[3 + k] := by simp
        rw [hg] at H1
        generalize hJ : joinL (((l.drop 3).take 4).take k) = J at *
        generalize l[3 + k].toNat = B at *
        go_wp2
        go_round
        case rel => exact ⟨k + 1, by omega, by go_num, val_int (by first | exact H1.out | (rw [← H1.out]; simp))⟩
        case measure => simp [intOf]; omega
      · obtain rfl : k = 4 := by omega
        rw [← hN]
        have DN := hidOf2 (@bslice_h W (.slice ra (l.length - 7) rc) (l.drop 7) (HrB.out W HBW.out) HrC.out .u64 (hdN l))
        clear hc
        by_cases hn : l.length - 7 < hdN l
        · have d2 : decide (((l.length - 7 : Nat) : Int) < ((hdN l : Nat) : Int)) = true := by simp; omega
          have e1 := hidOf2 (show H = false by rw [HH.out, decide_eq_false (show ¬ hdN l ≤ l.length - 7 by omega), Bool.and_false])
          have g1 := g0.row Sw.nul
          clear DN HH HS
          generalize hdN l = N at *
          go_wp2_with (first | (refine slB _ _ _ _ _ _ _ rfl rfl rfl rfl rfl hrun ?_) | (refine g0.sd Sw.nul rfl _ _ rfl rfl rfl ?_))
          exact bodyPost_ret (head_results g1 _ rfl rfl) rfl ⟨_, by rw [e1.out], by rw [← hq] at bN ⊢; exact bN, fun h => by rw [e1.out] at h; cases h⟩
        · have d2 : decide (((l.length - 7 : Nat) : Int) < ((hdN l : Nat) : Int)) = false := by simp; omega
          have e1 := hidOf2 (show H = true by rw [HH.out, decide_eq_true (show 7 ≤ l.length by omega), decide_eq_true (show hdN l ≤ l.length - 7 by omega)]; rfl)
          obtain ⟨ta, tc, trun, tB, tC⟩ := DN.out (by rw [List.length_drop]; omega)
          obtain ⟨b, off, hao⟩ := HBW.out.is (by omega)
          subst hao
          have hc0 := (HBW.out.get 0 (by omega)).2
          have hc1 := (HBW.out.get 1 (by omega)).2
          have hc2 := (HBW.out.get 2 (by omega)).2
          have hsl : ((l.drop 7).take (hdN l)).length = hdN l := by rw [List.length_take, List.length_drop]; omega
          have hA0 := l[0].toNat_lt
          have hA1 := l[1].toNat_lt
          have HX0 := hidOf2 (show (svOf l).ix = l[0].toNat + 256 * l[1].toNat by simp [svOf, List.getD_eq_getElem?_getD, List.getElem?_eq_getElem (show 0 < l.length by omega), List.getElem?_eq_getElem (show 1 < l.length by omega)])
          have HX1 := hidOf2 (show (svOf l).sb = l[2].toNat by simp [svOf, List.getD_eq_getElem?_getD, List.getElem?_eq_getElem (show 2 < l.length by omega)])
          have HX2 := hidOf2 (show (svOf l).raw.length = hdN l from hsl)
          have HTB := hidOf2 (fun x (hx : Bytes x (.slice (some ⟨b, off, none⟩) l.length cap) l) => tB x (HrB.out x hx))
          have BD : Below w.heap.size w W.drew := bdr bA 1
          have HW2 := hidOf2 (hB.below (below_row BD (by omega) BD.size (q := q) (⟨svOf l, ta, tc⟩ : Sw).arr))
          have HbF := hidOf2 (below_row BD (by omega) BD.size (q := q) (⟨svOf l, ta, tc⟩ : Sw).arr)
          have HSB := hidOf2 (show ∀ y, Bytes y (.slice (some ⟨b, off, none⟩) l.length cap) l → Bytes y (.slice ta (hdN l) tc) (svOf l).raw from HTB.out)
          have HSC := hidOf2 (And.intro ((HbF.out.cell (p := ⟨b, off + 0, none⟩) (hB.get 0 (by omega)).1).trans (hB.get 0 (by omega)).2) (And.intro ((HbF.out.cell (p := ⟨b, off + 1, none⟩) (hB.get 1 (by omega)).1).trans (hB.get 1 (by omega)).2) ((HbF.out.cell (p := ⟨b, off + 2, none⟩) (hB.get 2 (by omega)).1).trans (hB.get 2 (by omega)).2)))
          obtain ⟨S, hS⟩ : ∃ S : Sw, (⟨svOf l, ta, tc⟩ : Sw) = S := ⟨_, rfl⟩
          have HSe := hidOf2 (show S.s = svOf l by rw [← hS])
          have hSx : S.s.ix = l[0].toNat + 256 * l[1].toNat := by rw [HSe.out]; exact HX0.out
          have hSb : S.s.sb = l[2].toNat := by rw [HSe.out]; exact HX1.out
          have hSr : S.s.raw.length = hdN l := by rw [HSe.out]; exact HX2.out
          have hSa : S.ao = ta := by rw [← hS]
          have hSc : S.cp = tc := by rw [← hS]
          rw [hS] at HbF HSC
          have HSB2 := hidOf2 (show ∀ y, Bytes y (.slice (some ⟨b, off, none⟩) l.length cap) l → Bytes y S.bv S.s.raw from fun y hy => by
            have := HSB.out y hy
            rw [← HSe.out, ← hSr, ← hSa, ← hSc] at this
            exact this)
          rw [← hSr] at trun
          have gd : Sb q Sw.nul W.drew := g0
          have S0 : W.drew.cell? ⟨b, off + 0, none⟩ = some (.int .u8 l[0].toNat) ∧ W.drew.cell? ⟨b, off + 1, none⟩ = some (.int .u8 l[1].toNat) ∧ W.drew.cell? ⟨b, off + 2, none⟩ = some (.int .u8 l[2].toNat) := ⟨hc0, hc1, hc2⟩
          clear HX0 HX1 HX2 HTB HW2 HSB HH HS DN hS BD tB hc0 hc1 hc2 HBW HrB hB bN bA
          rw [← hSr]
          rw [← hSr] at d2 hNl hn
          clear hN hlen4 hSr
          obtain ⟨N, hSN⟩ : ∃ N, S.s.raw.length = N := ⟨_, rfl⟩
          rw [hSN] at trun d2 hNl hn ⊢
          generalize l[0].toNat = A0 at *
          generalize l[1].toNat = A1 at *
          generalize l[2].toNat = A2 at *
          go_upto_region 12 with (first | (refine slB _ _ _ _ _ _ _ rfl rfl rfl rfl rfl hrun ?_))
          refine wp_region_held (S := fun x => x.cell? ⟨b, off + 0, none⟩ = some (.int .u8 A0) ∧ x.cell? ⟨b, off + 1, none⟩ = some (.int .u8 A1) ∧ x.cell? ⟨b, off + 2, none⟩ = some (.int .u8 A2)) (by kernel_rfl) ?_
          change wpAnyH _ _ _ _ _ _ _ _ W.drew
          refine wpAnyH_take (i := 0) (v := (.slice (some ⟨b, off, none⟩) l.length cap)) rfl (by kernel_rfl) (by kernel_rfl) (by kernel_rfl) (fun _ _ _ h => h) (.inl ⟨rfl, fun _ hS => rfl⟩) S0 ?_
          simp only [List.getElem_toArray, List.getElem_cons_succ, List.getElem_cons_zero, Act.put, List.setIfInBounds_toArray, List.set_cons_succ, List.set_cons_zero]
          refine wpAnyH_take (i := 1) (v := (.pointer (some ⟨b, off + 0, none⟩))) rfl (by kernel_rfl) (by kernel_rfl) (by kernel_rfl) (fun _ _ _ h => h) (.inl ⟨rfl, fun _ hS => exec_idxB (k := 0) rfl rfl rfl (by omega) _⟩) S0 ?_
          simp only [List.getElem_toArray, List.getElem_cons_succ, List.getElem_cons_zero, Act.put, List.setIfInBounds_toArray, List.set_cons_succ, List.set_cons_zero]
          refine wpAnyH_take (i := 2) (v := (.int .u8 (A0 : Int))) rfl (by kernel_rfl) (by kernel_rfl) (by kernel_rfl) (fun _ _ _ h => h) (.inl ⟨rfl, fun _ hS => exec_loadq rfl rfl (load_u8q _ _ _ _ (hS.1))⟩) S0 ?_
          simp only [List.getElem_toArray, List.getElem_cons_succ, List.getElem_cons_zero, Act.put, List.setIfInBounds_toArray, List.set_cons_succ, List.set_cons_zero]
          refine wpAnyH_take (i := 3) (v := (.int .u16 (A0 : Int))) rfl (by kernel_rfl) (by kernel_rfl) (by kernel_rfl) (fun _ _ _ h => h) (.inl ⟨rfl, fun _ hS => exec_cv16 rfl rfl hA0 _⟩) S0 ?_
          simp only [List.getElem_toArray, List.getElem_cons_succ, List.getElem_cons_zero, Act.put, List.setIfInBounds_toArray, List.set_cons_succ, List.set_cons_zero]
          refine wpAnyH_take (i := 4) (v := (.slice (some ⟨b, off, none⟩) l.length cap)) rfl (by kernel_rfl) (by kernel_rfl) (by kernel_rfl) (fun _ _ _ h => h) (.inl ⟨rfl, fun _ hS => rfl⟩) S0 ?_
          simp only [List.getElem_toArray, List.getElem_cons_succ, List.getElem_cons_zero, Act.put, List.setIfInBounds_toArray, List.set_cons_succ, List.set_cons_zero]
          refine wpAnyH_take (i := 5) (v := (.pointer (some ⟨b, off + 1, none⟩))) rfl (by kernel_rfl) (by kernel_rfl) (by kernel_rfl) (fun _ _ _ h => h) (.inl ⟨rfl, fun _ hS => exec_idxB (k := 1) rfl rfl rfl (by omega) _⟩) S0 ?_
          simp only [List.getElem_toArray, List.getElem_cons_succ, List.getElem_cons_zero, Act.put, List.setIfInBounds_toArray, List.set_cons_succ, List.set_cons_zero]
          refine wpAnyH_take (i := 6) (v := (.int .u8 (A1 : Int))) rfl (by kernel_rfl) (by kernel_rfl) (by kernel_rfl) (fun _ _ _ h => h) (.inl ⟨rfl, fun _ hS => exec_loadq rfl rfl (load_u8q _ _ _ _ (hS.2.1))⟩) S0 ?_
          simp only [List.getElem_toArray, List.getElem_cons_succ, List.getElem_cons_zero, Act.put, List.setIfInBounds_toArray, List.set_cons_succ, List.set_cons_zero]
          refine wpAnyH_take (i := 7) (v := (.int .u16 (A1 : Int))) rfl (by kernel_rfl) (by kernel_rfl) (by kernel_rfl) (fun _ _ _ h => h) (.inl ⟨rfl, fun _ hS => exec_cv16 rfl rfl hA1 _⟩) S0 ?_
          simp only [List.getElem_toArray, List.getElem_cons_succ, List.getElem_cons_zero, Act.put, List.setIfInBounds_toArray, List.set_cons_succ, List.set_cons_zero]
          refine wpAnyH_take (i := 8) (v := (.int .u16 ((A1 * 256 : Nat) : Int))) rfl (by kernel_rfl) (by kernel_rfl) (by kernel_rfl) (fun _ _ _ h => h) (.inl ⟨rfl, fun _ hS => exec_shl16 rfl rfl rfl hA1 _⟩) S0 ?_
          simp only [List.getElem_toArray, List.getElem_cons_succ, List.getElem_cons_zero, Act.put, List.setIfInBounds_toArray, List.set_cons_succ, List.set_cons_zero]
          refine wpAnyH_take (i := 9) (v := (.int .u16 ((A0 + 256 * A1 : Nat) : Int))) rfl (by kernel_rfl) (by kernel_rfl) (by kernel_rfl) (fun _ _ _ h => h) (.inl ⟨rfl, fun _ hS => exec_or16 rfl rfl rfl hA0 hA1 _⟩) S0 ?_
          simp only [List.getElem_toArray, List.getElem_cons_succ, List.getElem_cons_zero, Act.put, List.setIfInBounds_toArray, List.set_cons_succ, List.set_cons_zero]
          refine wpAnyH_take (i := 10) (v := (.slice (some ⟨b, off, none⟩) l.length cap)) rfl (by kernel_rfl) (by kernel_rfl) (by kernel_rfl) (fun _ _ _ h => h) (.inl ⟨rfl, fun _ hS => rfl⟩) S0 ?_
          simp only [List.getElem_toArray, List.getElem_cons_succ, List.getElem_cons_zero, Act.put, List.setIfInBounds_toArray, List.set_cons_succ, List.set_cons_zero]
          refine wpAnyH_take (i := 11) (v := (.pointer (some ⟨b, off + 2, none⟩))) rfl (by kernel_rfl) (by kernel_rfl) (by kernel_rfl) (fun _ _ _ h => h) (.inl ⟨rfl, fun _ hS => exec_idxB (k := 2) rfl rfl rfl (by omega) _⟩) S0 ?_
          simp only [List.getElem_toArray, List.getElem_cons_succ, List.getElem_cons_zero, Act.put, List.setIfInBounds_toArray, List.set_cons_succ, List.set_cons_zero]
          refine wpAnyH_take (i := 12) (v := (.int .u8 (A2 : Int))) rfl (by kernel_rfl) (by kernel_rfl) (by kernel_rfl) (fun _ _ _ h => h) (.inl ⟨rfl, fun _ hS => exec_loadq rfl rfl (load_u8q _ _ _ _ (hS.2.2))⟩) S0 ?_
          simp only [List.getElem_toArray, List.getElem_cons_succ, List.getElem_cons_zero, Act.put, List.setIfInBounds_toArray, List.set_cons_succ, List.set_cons_zero]
          refine wpAnyH_take (i := 13) (v := (.slice ra (l.length - 7) rc)) rfl (by kernel_rfl) (by kernel_rfl) (by kernel_rfl) (fun _ _ _ h => h) (.inl ⟨rfl, fun _ hS => rfl⟩) S0 ?_
          simp only [List.getElem_toArray, List.getElem_cons_succ, List.getElem_cons_zero, Act.put, List.setIfInBounds_toArray, List.set_cons_succ, List.set_cons_zero]
          refine wpAnyH_take (i := 14) (v := (.int .u64 (N : Int))) rfl (by kernel_rfl) (by kernel_rfl) (by kernel_rfl) (fun _ _ _ h => h) (.inl ⟨rfl, fun _ hS => rfl⟩) S0 ?_
          simp only [List.getElem_toArray, List.getElem_cons_succ, List.getElem_cons_zero, Act.put, List.setIfInBounds_toArray, List.set_cons_succ, List.set_cons_zero]
          refine wpAnyH_take (i := 15) (v := (.slice ta N tc)) rfl (by kernel_rfl) (by kernel_rfl) (by kernel_rfl) (fun _ _ _ h => h) (.inl ⟨rfl, fun _ hS => exec_sliceB (v := .slice ra (l.length - 7) rc) (lo' := none) (hi' := some (.int .u64 N)) rfl rfl rfl rfl trun _⟩) S0 ?_
          simp only [List.getElem_toArray, List.getElem_cons_succ, List.getElem_cons_zero, Act.put, List.setIfInBounds_toArray, List.set_cons_succ, List.set_cons_zero]
          refine wpAnyH_take (i := 16) (v := (.agg S.arr)) rfl (by kernel_rfl) (by kernel_rfl) (by kernel_rfl) (fun _ _ _ h => h) (.inl ⟨rfl, fun _ hS => exec_bdS rfl S (by rw [hSx]; rfl) (by rw [hSb]; rfl) (by rw [hSa, hSc, hSN]; rfl) _⟩) S0 ?_
          simp only [List.getElem_toArray, List.getElem_cons_succ, List.getElem_cons_zero, Act.put, List.setIfInBounds_toArray, List.set_cons_succ, List.set_cons_zero]
          refine wpAnyH_all (rs := [17]) (by kernel_rfl) (by simp) ?_
          intro k hk
          simp only [List.mem_cons, List.mem_nil_iff, or_false] at hk
          subst hk
          refine wpOp_run rfl rfl (wp_store_row 91 _ _ rfl q S.arr rfl rfl 91 Sw.nul.arr gd (by show _ = some 3; exact infoS) rfl (all_oneCell_toArray (swC_one S)) ?_)
          have D1 := Sb.row gd S
          have S1 := HSC.out
          refine ⟨S1, ?_⟩
          simp only [List.getElem_toArray, List.getElem_cons_succ, List.getElem_cons_zero, Act.put, List.setIfInBounds_toArray, List.set_cons_succ, List.set_cons_zero]
          refine wpAnyH_take (i := 18) (v := (.bool true)) rfl (by kernel_rfl) (by kernel_rfl) (by kernel_rfl) (fun _ _ _ h => h) (.inl ⟨rfl, fun _ hS => by simp [execOp, go_sem, Act.eval]⟩) S1 ?_
          simp only [List.getElem_toArray, List.getElem_cons_succ, List.getElem_cons_zero, Act.put, List.setIfInBounds_toArray, List.set_cons_succ, List.set_cons_zero]
          refine wpAnyH_done (by kernel_rfl) ?_ _
          have HD1 := hidOf2 D1
          go_wp2
          exact bodyPost_ret (head_results D1 _ rfl rfl) rfl ⟨S, by rw [e1.out], by rw [← hq] at HbF ⊢; exact HbF.out, fun _ => ⟨HSe.out, HSB2.out⟩⟩
end Go.Proofs.Ytdcogpadioeclaa
namespace Go.Proofs.Ytdcogpadioeclaa
open Go.RowKit Go.Proofs.Ty
set_option linter.unusedVariables false
set_option maxRecDepth 1000000
set_option linter.unusedSimpArgs false
theorem Sv.pl_lt (s : Sv) : s.pl < 16777216 := by have := s.hix; have := s.hsb; unfold Sv.pl; omega
/-- What is cut so far. -/
structure Cst (w : World) (l : List UInt8) (vb : Value) (r : List UInt8) (vl : Value) (ws : List Sw) (ah : Int) (x : World) : Prop where
  bytes : Bytes w vb r
  cp : Cp vb
  row : x.ownsRow w.heap.size 91 3 vl ws.length (flatW DS ws)
  raws : ∀ s ∈ ws, Bytes w s.bv s.s.raw
  below : Below w.heap.size w x
  eq : cutL (-1) l = (cutL ah r).map (ws.map Sw.s ++ ·)
  cnt : (ws.length : Int) ≤ ah + 1 ∧ -1 ≤ ah ∧ ah < 16777216
  len : r.length ≤ l.length
section
variable {w : World} {l : List UInt8} {vb : Value} {r : List UInt8} {vl : Value} {ws : List Sw} {ah : Int} {x : World}
theorem Cst.start {v : Value} (hB : Bytes w v l) (hC : Cp v) : Cst w l v l (.slice none 0 0) [] (-1) w :=
  ⟨hB, hC, ⟨rfl, .inl ⟨rfl, rfl⟩⟩, fun s hs => by simp at hs, Below.refl _ _, by simp, by simp, Nat.le_refl _⟩
theorem Cst.next {y : World} (h : Cst w l vb r vl ws ah x) (hb : Below x.heap.size x y) : Cst w l vb r vl ws ah y :=
  ⟨h.bytes, h.cp, ⟨h.row.1, h.row.2.imp id (by
    rintro ⟨g, cap, cur, e1, e2, e3, e4⟩
    exact ⟨g, cap, cur, e1, e2, (hb.block g (Array.getElem?_eq_some_iff.1 e3).1).trans e3, e4⟩)⟩, h.raws, h.below.trans (hb.mono h.below.size), h.eq, h.cnt, h.len⟩
theorem Cst.bad (h : Cst w l vb r vl ws ah x) (h0 : r ≠ []) (hd : hdB r = false) : cutL (-1) l = none := by
  rw [h.eq]
  unfold hdB at hd
  by_cases h7 : r.length < 7
  · rw [cutL_short h0 h7]; rfl
  · rw [cutL_long (by omega) (by rw [decide_eq_true (by omega), Bool.true_and, decide_eq_false_iff_not] at hd; omega)]; rfl
theorem hdB_true (hd : hdB r = true) : 7 ≤ r.length ∧ hdN r ≤ r.length - 7 := by
  unfold hdB at hd
  simpa using hd
theorem Cst.low (h : Cst w l vb r vl ws ah x) (hd : hdB r = true) (hp : ((svOf r).pl : Int) ≤ ah) : cutL (-1) l = none := by
  rw [h.eq, cutL_low (hdB_true hd).1 hp]; rfl
theorem Cst.done (h : Cst w l vb [] vl ws ah x) : cutL (-1) l = some (ws.map Sw.s) := by
  rw [h.eq, cutL_nil]; simp
theorem raw_len (hd : hdB r = true) : (svOf r).raw.length = hdN r := by
  have := hdB_true hd
  show ((r.drop 7).take (hdN r)).length = hdN r
  rw [List.length_take, List.length_drop]; omega
theorem Cst.more (h : Cst w l vb r vl ws ah x) (hd : hdB r = true) (hp : ¬ ((svOf r).pl : Int) ≤ ah) {S : Sw} (hs : S.s = svOf r) (hr : ∀ y, Bytes y vb r → Bytes y S.bv S.s.raw) {y : World} {vl' : Value} (hrow : y.ownsRow w.heap.size 91 3 vl' (ws ++ [S]).length (flatW DS (ws ++ [S]))) (hb : Below w.heap.size w y) {vb' : Value} (hB' : ∀ x, Bytes x vb r → Bytes x vb' (r.drop (7 + S.s.raw.length))) (hC' : Cp vb') :
    Cst w l vb' (r.drop (7 + S.s.raw.length)) vl' (ws ++ [S]) (S.s.pl : Int) y := by
  have h7 := hdB_true hd
  have hl := raw_len hd
  have hpl := S.s.pl_lt
  have hc := h.cnt
  refine ⟨hB' w h.bytes, hC', hrow, ?_, hb, ?_, ?_, ?_⟩
  · intro s hm
    rcases List.mem_append.1 hm with h1 | h1
    · exact h.raws s h1
    · obtain rfl := List.mem_singleton.1 h1
      exact hr w h.bytes
  · rw [h.eq, cutL_go h7.1 (by omega) hp, hs, hl, Option.map_map]
    congr 1
    funext z
    simp [hs]
  · rw [← hs] at hp
    rw [List.length_append, List.length_singleton]
    omega
  · rw [List.length_drop]; have := h.len; omega
theorem Cst.shape (h : Cst w l vb r vl ws ah x) : (∃ ao cap, vb = .slice ao r.length cap) ∧ ∃ ao cap, vl = .slice ao ws.length cap := ⟨by obtain ⟨ao, cap, h, _⟩ := h.bytes; exact ⟨ao, cap, h⟩, own_shape5 h.row⟩
end
theorem Cst.blk {w : World} {l : List UInt8} {vb : Value} {r : List UInt8} {vl : Value} {ws : List Sw} {ah : Int} {x : World} (h : Cst w l vb r vl ws ah x) : ∀ g, vl.ownBlock = some g → g < x.heap.size := by
  intro g hg
  obtain ⟨_, cur, h1⟩ := own_of h.row hg
  exact (Array.getElem?_eq_some_iff.1 h1).1
theorem load_bytesq (x : World) (D k : Nat) (ao : Option Addr) (l c : Nat) (hc : x.cell? ⟨D, k, none⟩ = some (.slice ao l c)) : (loadVar 30 ⟨D, k, none⟩).run Try.prog x = .ok (.slice ao l c) x := by
  simp [go_sem, run_underlying Try.underlying30, hc]
theorem exec_add7 {a : Act} {o : Oper} {x y : Operand} {n : Nat} (ho : o.op = .binOp .add 3 x y 3) (hx : a.eval x = .int .i64 7) (hy : a.eval y = .int .i64 (n : Int)) (hn : n < 4611686018427387904) (w : World) : (execOp a.eval o).run Try.prog w = .ok (.value (.int .i64 ((7 + n : Nat) : Int))) w := by
  have : IntKind.i64.wrap (7 + (n : Int)) = ((7 + n : Nat) : Int) := by simp [IntKind.wrap, IntKind.bits, IntKind.signed]; omega
  unfold execOp
  simp only [ho, hx, hy]
  simp [go_sem, this]
def slen : Value → Nat
  | .slice _ n _ => n
  | _ => 0
set_option maxHeartbeats 4000000 in
theorem ocut_any (x0 : Value) (l : List UInt8) (w : World) (hB : Bytes w x0 l) (hC : Cp x0) (hl : l.length ≤ 140737488351232) :
    Calls Try.prog 43 #[x0] w fun e w' => Below w.heap.size w w' ∧ (cutL (-1) l = none → e = .returned (.tuple #[.slice none 0 0, .bool false])) ∧ ∀ ss, cutL (-1) l = some ss → ∃ v ws, e = .returned (.tuple #[v, .bool true]) ∧ ws.map Sw.s = ss ∧ Wide 3 swC w' v ws ∧ (∀ s ∈ ws, Bytes w' s.bv s.s.raw) ∧ ws.length ≤ 16777216 := by
  have HC0 := hidOf2 (Cst.start hB hC)
  have hP := placeOf_any
  clear hB hC
  go_enter Try.func43, Try.ntmps43
  go_wp2
  go_loopw [0, 4, 5] (fun s0 s4 s5 x => ∃ vb r vl ws ah, (s0 = vb ∧ s4 = vl ∧ s5 = .int .i64 ah) ∧ Hid (Cst w l vb r vl ws ah x)) (fun s0 _ _ _ => slen s0)
  case atStart => exact ⟨_, _, _, _, _, ⟨rfl, rfl, rfl⟩, HC0⟩
  case round =>
    clear HC0
    obtain ⟨vb, r, vl, ws, ah, ⟨rfl, rfl, rfl⟩, HC⟩ := hrel
    obtain ⟨⟨ao, cp, rfl⟩, al, cl, rfl⟩ := HC.out.shape
    have hrl := HC.out.len
    by_cases h0 : r = []
    · subst h0
      have E1 := hidOf2 HC.out.done
      have E2 := hidOf2 HC.out.below
      have E3 := hidOf2 (wide_of_own DS HC.out.row)
      have E4 := hidOf2 (fun s hs => (HC.out.raws s hs).below HC.out.below)
      have E5 := hidOf2 HC.out.cnt
      clear HC
      go_wp2
      go_ret2
      exact ⟨E2.out, (fun h => by rw [E1.out] at h; cases h), fun ss h => ⟨_, ws, rfl, by rw [E1.out] at h; injection h, E3.out, E4.out, by have := E5.out; omega⟩⟩
    · have hr0 : 0 < r.length := List.length_pos_iff.2 h0
      have d0 : decide ((0 : Int) < (r.length : Int)) = true := by simp; omega
      have hH := head_any (.slice ao r.length cp) r wr (HC.out.bytes.below HC.out.below) HC.out.cp (by omega)
      have HBD := hidOf2 (HC.out.bad h0)
      have HLW := hidOf2 HC.out.low
      obtain ⟨HD, hHD⟩ : ∃ b, hdB r = b := ⟨_, rfl⟩
      have HHD := hidOf2 hHD
      rw [hHD] at hH HBD HLW
      clear hHD
      go_wp2_with fail
      refine hH.mono ?_
      rintro e w1 ⟨S, rfl, b1, hS⟩
      have HS := hidOf2 hS
      have HC1 := hidOf2 (HC.out.next b1)
      obtain ⟨q, hq⟩ : ∃ q, w1.heap.size = q := ⟨_, rfl⟩
      have g0 : Sb q Sw.nul (w1.alloc (.cells #[.int .u16 0, .int .u8 0, .slice none 0 0] 91)) := hq ▸ Sb.new w1 Sw.nul
      have bA : Below w1.heap.size w1 (w1.alloc (.cells #[.int .u16 0, .int .u8 0, .slice none 0 0] 91)) := (Below.refl _ _).alloc (Nat.le_refl _) _
      have bN := below_row bA (by omega) bA.size (q := q) S.arr
      have g1 := g0.row S
      have HC2 := hidOf2 (HC1.out.next bN)
      have HNQ := hidOf2 (show (Value.slice al ws.length cl).ownBlock ≠ some q from fun e => by have := HC1.out.blk q e; omega)
      have hpS := hP S.s.ix S.s.sb S.s.hix S.s.hsb
      clear hH hS HC HC1 bA bN b1
      go_upto_region 5 with (first | (refine g0.sd S rfl _ _ rfl rfl rfl ?_))
      generalize ((w1.alloc (.cells #[.int .u16 0, .int .u8 0, .slice none 0 0] 91)).setRow q S.arr) = w2 at *
      try simp only [hq]
      obtain ⟨c0, c1, c2⟩ := g1.c
      clear g0
      go_wp2_with fail
      refine (hpS w2).mono ?_
      rintro e w3 ⟨rfl, rfl⟩
      clear hpS c0 c1
      have hPL := S.s.pl_lt
      have HP : Hid (S.s.pl = S.s.ix * 256 + S.s.sb) := rfl
      obtain ⟨P, hPe⟩ : ∃ P, S.s.ix * 256 + S.s.sb = P := ⟨_, rfl⟩
      rw [hPe] at HP ⊢
      rw [HP.out] at hPL
      clear hPe
      cases HD with
      | false =>
        have E1 := hidOf2 (HBD.out rfl)
        have E2 := hidOf2 HC2.out.below
        clear HBD HLW HC2 HS
        go_wp2
        go_ret2
        exact ⟨E2.out, fun _ => rfl, fun ss h => by rw [E1.out] at h; cases h⟩
      | true =>
        obtain ⟨hs1, hs2⟩ := HS.out rfl
        by_cases hp : (P : Int) ≤ ah
        · have d1 : decide ((P : Int) ≤ ah) = true := decide_eq_true hp
          have E1 := hidOf2 (HLW.out rfl (by rw [← hs1, HP.out]; exact hp))
          have E2 := hidOf2 HC2.out.below
          clear HBD HLW HC2 HS hs1 hs2
          go_wp2
          go_ret2
          exact ⟨E2.out, fun _ => rfl, fun ss h => by rw [E1.out] at h; cases h⟩
        · have d1 : decide ((P : Int) ≤ ah) = false := decide_eq_false hp
          have hraw : S.s.raw.length = hdN r := by rw [hs1]; exact raw_len HHD.out
          have h7 := hdB_true HHD.out
          have hcn := HC2.out.cnt
          obtain ⟨na, nc, nrun, nB, nC⟩ := bslice_l HC2.out.bytes HC2.out.cp (7 + S.s.raw.length) (by omega)
          have nlen : r.length - (7 + S.s.raw.length) = (r.drop (7 + S.s.raw.length)).length := by rw [List.length_drop]
          have HM := hidOf2 (fun (y : World) (vl' : Value) hrow hb => HC2.out.more HHD.out (by rw [← hs1, HP.out]; exact hp) hs1 hs2 (y := y) (vl' := vl') hrow hb (vb' := .slice na (r.length - (7 + S.s.raw.length)) nc) nB nC)
          have MEA := hidOf2 (show slen (.slice na (r.length - (7 + S.s.raw.length)) nc) < slen (.slice ao r.length cp) by show r.length - (7 + S.s.raw.length) < r.length; omega)
          have bO : Below w3.heap.size w3 (w3.alloc (.cells (DS.dec S).toArray 91)) := (Below.refl _ _).alloc (Nat.le_refl _) _
          have P7 := ownsRow_alloc HC2.out.row (.cells (DS.dec S).toArray 91)
          have hWv := wide_new DS w3 S 91
          have hbs : w.heap.size ≤ (w3.alloc (.cells (DS.dec S).toArray 91)).heap.size := Nat.le_trans HC2.out.below.size bO.size
          have BO := HC2.out.below.trans (bO.mono HC2.out.below.size)
          have gO := g1.below bO
          rw [HP.out] at HM
          have hrawle : S.s.raw.length ≤ 140737488351232 := by omega
          clear HBD HLW HS nB nC hs1 hs2 nlen hraw
          go_upto_region 9 with (first | (refine g1.ld rfl _ rfl rfl ?_) | (refine one_bs DS S 86 91 _ 32 rfl _ rfl rfl Try.underlying86 infoSz (by decide) ?_) | (refine BigFrame.wpList_want rfl fun _ hK => wp_append_wide DS _ _ 86 91 _ 32 Try.underlying86 infoSz rfl rfl w.heap.size _ ws rfl P7 _ [S] rfl hWv (by unfold maxLen; simp; omega) (by simp; omega) hbs ?_; intro v8 wZ P8 G8; refine hK _ _ ?_; have BZ := BO.grown G8 hbs (own_lt P7); have gZ : Sb q S wZ := (G8.block q gO.lt (fun e => HNQ.out e.symm)).trans gO; obtain ⟨a8, c8, rfl⟩ := own_shape5 P8; have CN := HM.out wZ _ P8 BZ; clear P8 G8 P7 hWv BO hbs HM bO))
          clear gO hK
          have S0 : wZ.drew.cell? ⟨q, 2, none⟩ = some (.slice S.ao S.s.raw.length S.cp) := gZ.c.2.2
          refine wp_region_held (S := fun x => x.cell? ⟨q, 2, none⟩ = some (.slice S.ao S.s.raw.length S.cp)) (by kernel_rfl) ?_
          change wpAnyH _ _ _ _ _ _ _ _ wZ.drew
          refine wpAnyH_take (i := 0) (v := (.int .i64 (P : Int))) rfl (by kernel_rfl) (by kernel_rfl) (by kernel_rfl) (fun _ _ _ h => h) (.inl ⟨rfl, fun _ hS => rfl⟩) S0 ?_
          simp only [List.getElem_toArray, List.getElem_cons_succ, List.getElem_cons_zero, Act.put, List.setIfInBounds_toArray, List.set_cons_succ, List.set_cons_zero]
          refine wpAnyH_take (i := 1) (v := (.slice ao r.length cp)) rfl (by kernel_rfl) (by kernel_rfl) (by kernel_rfl) (fun _ _ _ h => h) (.inl ⟨rfl, fun _ hS => rfl⟩) S0 ?_
          simp only [List.getElem_toArray, List.getElem_cons_succ, List.getElem_cons_zero, Act.put, List.setIfInBounds_toArray, List.set_cons_succ, List.set_cons_zero]
          refine wpAnyH_take (i := 2) (v := (.pointer (some ⟨q, 2, none⟩))) rfl (by kernel_rfl) (by kernel_rfl) (by kernel_rfl) (fun _ _ _ h => h) (.inl ⟨rfl, fun _ hS => by simp [execOp, go_sem, Act.eval]⟩) S0 ?_
          simp only [List.getElem_toArray, List.getElem_cons_succ, List.getElem_cons_zero, Act.put, List.setIfInBounds_toArray, List.set_cons_succ, List.set_cons_zero]
          refine wpAnyH_take (i := 3) (v := (.slice S.ao S.s.raw.length S.cp)) rfl (by kernel_rfl) (by kernel_rfl) (by kernel_rfl) (fun _ _ _ h => h) (.inl ⟨rfl, fun _ hS => exec_loadq rfl rfl (load_bytesq _ _ _ _ _ _ hS)⟩) S0 ?_
          simp only [List.getElem_toArray, List.getElem_cons_succ, List.getElem_cons_zero, Act.put, List.setIfInBounds_toArray, List.set_cons_succ, List.set_cons_zero]
          refine wpAnyH_take (i := 4) (v := (.int .i64 (S.s.raw.length : Int))) rfl (by kernel_rfl) (by kernel_rfl) (by kernel_rfl) (fun _ _ _ h => h) (.inl ⟨rfl, fun _ hS => by simp [execOp, go_sem, Act.eval, resolve, invoke]⟩) S0 ?_
          simp only [List.getElem_toArray, List.getElem_cons_succ, List.getElem_cons_zero, Act.put, List.setIfInBounds_toArray, List.set_cons_succ, List.set_cons_zero]
          refine wpAnyH_take (i := 5) (v := (.int .i64 ((7 + S.s.raw.length : Nat) : Int))) rfl (by kernel_rfl) (by kernel_rfl) (by kernel_rfl) (fun _ _ _ h => h) (.inl ⟨rfl, fun _ hS => exec_add7 rfl rfl rfl (by omega) _⟩) S0 ?_
          simp only [List.getElem_toArray, List.getElem_cons_succ, List.getElem_cons_zero, Act.put, List.setIfInBounds_toArray, List.set_cons_succ, List.set_cons_zero]
          refine wpAnyH_take (i := 6) (v := (.slice na (r.length - (7 + S.s.raw.length)) nc)) rfl (by kernel_rfl) (by kernel_rfl) (by kernel_rfl) (fun _ _ _ h => h) (.inl ⟨rfl, fun _ hS => exec_sliceB (v := .slice ao r.length cp) (lo' := some (.int .i64 ((7 + S.s.raw.length : Nat) : Int))) (hi' := none) rfl rfl rfl rfl nrun _⟩) S0 ?_
          simp only [List.getElem_toArray, List.getElem_cons_succ, List.getElem_cons_zero, Act.put, List.setIfInBounds_toArray, List.set_cons_succ, List.set_cons_zero]
          refine wpAnyH_take (i := 7) (v := (.int .i64 (P : Int))) rfl (by kernel_rfl) (by kernel_rfl) (by kernel_rfl) (fun _ _ _ h => h) (.inl ⟨rfl, fun _ hS => by simp [execOp, go_sem, Act.eval]⟩) S0 ?_
          simp only [List.getElem_toArray, List.getElem_cons_succ, List.getElem_cons_zero, Act.put, List.setIfInBounds_toArray, List.set_cons_succ, List.set_cons_zero]
          refine wpAnyH_take (i := 8) (v := (.slice na (r.length - (7 + S.s.raw.length)) nc)) rfl (by kernel_rfl) (by kernel_rfl) (by kernel_rfl) (fun _ _ _ h => h) (.inl ⟨rfl, fun _ hS => by simp [execOp, go_sem, Act.eval]⟩) S0 ?_
          simp only [List.getElem_toArray, List.getElem_cons_succ, List.getElem_cons_zero, Act.put, List.setIfInBounds_toArray, List.set_cons_succ, List.set_cons_zero]
          refine wpAnyH_done (by kernel_rfl) ?_ _
          have HCN := hidOf2 (show Cst w l _ _ _ _ _ wZ.drew from CN.next (bdr (Below.refl _ _) 1))
          clear CN
          generalize wZ.drew = wz at *
          go_wp2
          go_roundw
          case rel => exact ⟨_, _, .slice a8 (ws ++ [S]).length c8, ws ++ [S], (P : Int), ⟨rfl, by simp, rfl⟩, HCN⟩
          case measure => exact MEA.out
end Go.Proofs.Ytdcogpadioeclaa
namespace Go.Proofs.Ytdcogpadioeclaa
open Go.RowKit Go.Proofs.Ty Go.Sort Go.Lib
set_option linter.unusedVariables false
set_option maxRecDepth 1000000
set_option linter.unusedSimpArgs false
set_option maxHeartbeats 4000000 in
theorem May_any {D R : Nat} {its : List Im} {w : World} (h : Dct D R its w) (ix sb : Nat) (h1 : ix < 65536) (h2 : sb < 256) (vb : Value) (l : List UInt8) (hB : Bytes w vb l) :
    Calls Try.prog 26 #[.pointer (some ⟨D, 0, none⟩), .int .u16 ix, .int .u8 sb, vb] w fun e w' => e = .returned (.int .u32 (wc its ix sb l)) ∧ Below w.heap.size w w' := by
  have hG := weigh_any h ix sb h1 h2 vb l hB
  obtain ⟨ao, cap, rfl⟩ := bytes_shape hB
  clear h hB
  unfold Wg at hG
  generalize wc its ix sb l = C at *
  go_enter Try.func26, Try.ntmps26
  go_wp2_with fail
  refine hG.mono ?_
  rintro e w1 ⟨p, v, rfl, b1, hz⟩
  clear hz hG
  obtain ⟨q, hq⟩ : ∃ q, w1.heap.size = q := ⟨_, rfl⟩
  have g0 : Va q Vl.nul (w1.alloc (.cells #[.int .i64 0, .int .u64 0, .string ⟨#[]⟩] 33)) := hq ▸ Va.new w1 Vl.nul
  have BA := b1.alloc b1.size (.cells #[.int .i64 0, .int .u64 0, .string ⟨#[]⟩] 33)
  have B2 := below_row BA (by have := b1.size; omega) BA.size (q := q) v.arr
  clear BA b1
  go_wp2_with (first | (refine g0.sd v rfl _ _ rfl rfl rfl ?_))
  go_ret
  exact ⟨rfl, B2⟩
/-- What Entry tells of an entry that is there. -/
theorem ent_results {Q : Nat} {e : En} {c : Bool} {w : World} (h : Eb Q e w) (tmps : Array Value) (h6 : tmps[6]?.getD undef = .pointer (some ⟨Q, 0, none⟩)) (h7 : tmps[7]?.getD undef = .bool c) :
    (results Try.f35 tmps).run Try.prog w = .ok (.tuple #[.agg e.arr, .bool c]) w := by
  have l0 : (loadVar 47 ⟨Q, 0, none⟩).run Try.prog w = .ok (.agg e.arr) w := run_ldE h.r0
  simp [Go.results, Try.results35, h6, h7, asAddr, l0]
set_option maxHeartbeats 4000000 in
theorem Entry_some {D R : Nat} {its : List Im} {w : World} (h : Dct D R its w) (ix sb : Nat) (h1 : ix < 65536) (h2 : sb < 256) {i : Im} (hf : fnd its ix sb = some i) :
    Calls Try.prog 35 #[.pointer (some ⟨D, 0, none⟩), .int .u16 ix, .int .u8 sb] w fun e w' => e = .returned (.tuple #[.agg i.e.arr, .bool true]) ∧ Below w.heap.size w w' := by
  obtain ⟨q, hq⟩ : ∃ q, w.heap.size = q := ⟨_, rfl⟩
  have hh : (w.alloc (.cells #[.int .u16 0, .int .u8 0, .int .i64 0, .bool false, .bool false, .int .i64 0, .int .u64 0, .string ⟨#[]⟩, .int .i64 0, .int .u64 0, .string ⟨#[]⟩, .int .i64 0, .int .u64 0, .string ⟨#[]⟩] 47)).heap[q]? = some (.cells #[.int .u16 0, .int .u8 0, .int .i64 0, .bool false, .bool false, .int .i64 0, .int .u64 0, .string ⟨#[]⟩, .int .i64 0, .int .u64 0, .string ⟨#[]⟩, .int .i64 0, .int .u64 0, .string ⟨#[]⟩] 47 (0, 0)) := by rw [← hq]; exact heap_alloc_new _ _
  have bA : Below w.heap.size w (w.alloc (.cells #[.int .u16 0, .int .u8 0, .int .i64 0, .bool false, .bool false, .int .i64 0, .int .u64 0, .string ⟨#[]⟩, .int .i64 0, .int .u64 0, .string ⟨#[]⟩, .int .i64 0, .int .u64 0, .string ⟨#[]⟩] 47)) := (Below.refl _ _).alloc (Nat.le_refl _) _
  have h0 := h.below bA
  have hF := find_some h0 ix sb h1 h2 hf
  have hI := h0.items i (fnd_mem hf)
  have s0 := bA.size
  unfold ptrI at hF
  clear h h0 hf
  go_enter Try.func35, Try.ntmps35
  go_upto_region 1 with fail
  generalize (w.alloc (.cells #[.int .u16 0, .int .u8 0, .int .i64 0, .bool false, .bool false, .int .i64 0, .int .u64 0, .string ⟨#[]⟩, .int .i64 0, .int .u64 0, .string ⟨#[]⟩, .int .i64 0, .int .u64 0, .string ⟨#[]⟩] 47)) = W at *
  try simp only [hq]
  go_wp2_with fail
  refine hF.mono ?_
  rintro e w1 ⟨rfl, b1⟩
  have hh1 : w1.heap[q]? = some (.cells #[.int .u16 0, .int .u8 0, .int .i64 0, .bool false, .bool false, .int .i64 0, .int .u64 0, .string ⟨#[]⟩, .int .i64 0, .int .u64 0, .string ⟨#[]⟩, .int .i64 0, .int .u64 0, .string ⟨#[]⟩] 47 (0, 0)) := (b1.block q (Array.getElem?_eq_some_iff.1 hh).1).trans hh
  have r0 := (hI.below b1).r0
  have B1 := bA.trans (b1.mono s0)
  have hE := Eb.row hh1 i.e
  have B2 := below_row B1 (by omega) B1.size (q := q) i.e.arr
  clear hF bA b1 B1 hI hh
  go_wp2_with (first | (refine ldE r0 rfl _ rfl rfl ?_) | (refine sdE hh1 rfl i.e rfl _ _ rfl rfl rfl ?_))
  exact bodyPost_ret (ent_results hE _ rfl rfl) rfl ⟨rfl, by first | exact B2 | (rw [← hq] at B2 ⊢; exact B2)⟩
/-- The first k items with other values. -/
def layT (g : Im → Vl) (its : List Im) (k : Nat) : List Im := its.mapIdx (fun j x => if j < k then ⟨x.b, x.e, g x⟩ else x)
section
variable {g : Im → Vl} {its : List Im}
theorem layT_len (k : Nat) : (layT g its k).length = its.length := by simp [layT]
theorem layT_zero : layT g its 0 = its := by
  apply List.ext_getElem
  · simp [layT]
  · intro j h1 h2; simp [layT]
theorem layT_full : layT g its its.length = its.map (fun x => ⟨x.b, x.e, g x⟩) := by
  apply List.ext_getElem
  · simp [layT]
  · intro j h1 h2
    simp only [layT, List.getElem_mapIdx, List.getElem_map]
    rw [if_pos (by simpa [layT] using h1)]
theorem layT_b (k : Nat) : (layT g its k).map Im.b = its.map Im.b := by
  apply List.ext_getElem
  · simp [layT]
  · intro j h1 h2
    simp only [layT, List.getElem_mapIdx, List.getElem_map]
    split <;> rfl
theorem layT_get {k : Nat} (hk : k < its.length) (h : k < (layT g its k).length) : (layT g its k)[k] = its[k] := by
  simp [layT]
theorem layT_step (hd : (its.map Im.b).Nodup) {k : Nat} (hk : k < its.length) : setV (layT g its k) its[k].b (g its[k]) = layT g its (k + 1) := by
  apply List.ext_getElem
  · rw [setV_len, layT_len, layT_len]
  · intro j h1 h2
    have hj : j < its.length := by rw [layT_len] at h2; exact h2
    rw [setV_get _ _ _ j (by rw [layT_len]; exact hj)]
    simp only [layT, List.getElem_mapIdx]
    by_cases e : j = k
    · subst e
      rw [if_neg (Nat.lt_irrefl _), if_pos rfl, if_pos (Nat.lt_succ_self _)]
    · have hne : its[j].b ≠ its[k].b := fun h => by
        have h3 := List.pairwise_iff_getElem.1 hd
        rcases Nat.lt_or_gt_of_ne e with h4 | h4
        · exact h3 j k (by simpa using hj) (by simpa using hk) h4 (by simp only [List.getElem_map]; exact h)
        · exact h3 k j (by simpa using hk) (by simpa using hj) h4 (by simp only [List.getElem_map]; exact h.symm)
      by_cases h5 : j < k
      · rw [if_pos h5, if_pos (show j < k + 1 by omega), if_neg hne]
      · rw [if_neg h5, if_neg (show ¬ j < k + 1 by omega), if_neg hne]
theorem layT_same {k : Nat} (hk : k < its.length) (h : g its[k] = its[k].v) : layT g its (k + 1) = layT g its k := by
  apply List.ext_getElem
  · rw [layT_len, layT_len]
  · intro j h1 h2
    simp only [layT, List.getElem_mapIdx]
    by_cases e : j = k
    · subst e
      rw [if_neg (Nat.lt_irrefl _), if_pos (Nat.lt_succ_self _), h]
    · by_cases h5 : j < k
      · rw [if_pos h5, if_pos (show j < k + 1 by omega)]
      · rw [if_neg h5, if_neg (show ¬ j < k + 1 by omega)]
end
set_option maxHeartbeats 4000000 in
theorem Reset_any {D R : Nat} {its : List Im} {w : World} (h : Dct D R its w) :
    Calls Try.prog 31 #[.pointer (some ⟨D, 0, none⟩)] w fun e w' => e = .returned (.tuple #[]) ∧ Dct D R (resetI its) w' ∧ Kp (its.map Im.b) w w' := by
  have hl := h.len
  have c0 := h.cell
  have HD0 := hidOf2 (show Dct D R (layT (fun x => x.e.df) its 0) w by rw [layT_zero]; exact h)
  have AP := hidOf2 h.apart
  clear h
  go_enter Try.func31, Try.ntmps31
  go_wp2
  go_loopw [9] (fun i x => ∃ k : Nat, k ≤ its.length ∧ i = .int .i64 k ∧ Hid (Dct D R (layT (fun x => x.e.df) its k) x) ∧ Hid (Kp (its.map Im.b) w x)) (fun i _ => its.length - (intOf i).toNat)
  case atStart => exact ⟨0, Nat.zero_le _, rfl, HD0, Kp.refl _ _⟩
  case round =>
    clear HD0
    obtain ⟨k, hk, rfl, HD, HK⟩ := hrel
    by_cases hkl : k < its.length
    · have hkk : k < (layT (fun x => x.e.df) its k).length := by rw [layT_len]; exact hkl
      have ca := HD.out.at k hkk
      have hm := List.getElem_mem hkk
      rw [layT_get hkl] at ca hm
      have hI := HD.out.items _ hm
      have ht := hI.there
      have r11 := hI.r11
      have HS0 := HD.out.set hm its[k].e.df
      rw [layT_step (g := fun x => x.e.df) AP.out hkl] at HS0
      have HS := hidOf2 HS0
      have HK2 := hidOf2 (HK.out.trans (Kp.set (List.mem_map.2 ⟨its[k], List.getElem_mem hkl, rfl⟩) 14 (vlC its[k].e.df)))
      unfold ptrI at ca
      clear HD HK hm hI HS0 hkk
      generalize its[k] = i at *
      go_upto_region 4 with (first | (refine ldV r11 rfl _ rfl rfl ?_) | (refine sdV ht i.e.df rfl _ _ rfl rfl rfl ?_; clear ht r11 ca; generalize wr.setCells i.b 14 (vlC i.e.df) = w2 at *))
      go_wp2
      go_roundw
      case rel => exact ⟨k + 1, by omega, by go_num, HS, HK2⟩
      case measure => simp [intOf]; omega
    · have e1 : k = its.length := by omega
      subst e1
      rw [layT_full] at HD
      have HD2 := hidOf2 HD.out
      clear HD
      go_wp2
      go_end0
      exact ⟨rfl, HD2.out, HK.out⟩
end Go.Proofs.Ytdcogpadioeclaa
namespace Go.Proofs.Ytdcogpadioeclaa
open Go.RowKit Go.Proofs.Ty Go.Sort Go.Lib Go.Maps Go.WideMaps
set_option linter.unusedVariables false
set_option maxRecDepth 1000000
set_option linter.unusedSimpArgs false
/-- How a value reads. -/
def vlL (l : List Value) : Option (DataW Unit × List MemPlace) :=
  match l with
  | [.int .i64 t, .int .u64 n, .string s] => some (.agg [.lit (.int .i64 t), .lit (.int .u64 n), .lit (.string s.data.toList)], [])
  | _ => none
def vlR (v : Value) : Option (DataW Unit × List MemPlace) :=
  match v with
  | .agg A => vlL A.toList
  | _ => none
def vlD (u : Vl) : DataW Unit := .agg [.lit (.int .i64 u.t), .lit (.int .u64 u.n), .lit (.string u.s.data.toList)]
theorem vlR_mk (u : Vl) : vlR (.agg u.arr) = some (vlD u, []) := rfl
theorem vlR_inv {v : Value} {u : Vl} {ps : List MemPlace} (h : vlR v = some (vlD u, ps)) : v = .agg u.arr := by
  unfold vlR at h
  split at h
  · rename_i A
    unfold vlL at h
    split at h
    · rename_i t n s hA
      simp [vlD] at h
      obtain ⟨⟨h1, h2, h3⟩, _⟩ := h
      have hs : s = u.s := by
        cases s with
        | mk d =>
          cases hu : u.s with
          | mk e =>
            rw [hu] at h3
            simp only at h3
            congr 1
      subst h1 h2 hs
      have : A = u.arr := Array.toList_inj.1 hA
      rw [this]
    · cases h
  · cases h
theorem zeroV (w : World) : (zeroValue 33).run Try.prog w = .ok (.agg Vl.nul.arr) w := by rfl
/-- Block b is a map that has just these values. -/
def Pv (w : World) (b n : Nat) (m : Nat → Option Vl) : Prop := ∃ D : DataW Unit, w.ownsMap Try.prog 93 vlR b n D ∧ ∀ k : Nat, k < 16777216 → has D (.int .u32 k) = (m k).isSome ∧ ∀ z, D.atKey (.int .u32 k) z = ((m k).map vlD).getD z
section
variable {w : World} {b n : Nat} {m : Nat → Option Vl}
theorem Pv.lt (h : Pv w b n m) : b < w.heap.size := h.choose_spec.1.lt
theorem Pv.look (h : Pv w b n m) (k : Nat) (hk : k < 16777216) : (Instr.lookup 89 (.map (some b)) (.int .u32 k) true).run Try.prog w = .ok (.tuple #[.agg ((m k).getD Vl.nul).arr, .bool (m k).isSome]) w := by
  obtain ⟨D, h1, h2⟩ := h
  obtain ⟨v, ps, h3, h4⟩ := h1.look_ok lawP Try.underlying89 (zeroV w) (vlR_mk Vl.nul) (key_pl k hk)
  obtain ⟨g1, g2⟩ := h2 k hk
  rw [h3, g1]
  rw [g2] at h4
  have : v = .agg ((m k).getD Vl.nul).arr := by
    cases hm : m k with
    | none => rw [hm] at h4; exact vlR_inv h4
    | some u => rw [hm] at h4; exact vlR_inv h4
  rw [this]
theorem Pv.put (h : Pv w b n m) (p : Nat) (hp : p < 16777216) (u : Vl) (hn : n < 33554432) : ∃ w', (Instr.mapUpdate 89 (.map (some b)) (.int .u32 p) (.agg u.arr)).run Try.prog w = .ok () w' ∧ Pv w' b (n + 1) (fun j => if j = p then some u else m j) ∧ w.mapTurned w' b := by
  obtain ⟨D, h1, h2⟩ := h
  obtain ⟨w', h3, h4, h5⟩ := World.ownsMap.store h1 lawP Try.underlying89 (by unfold maxLen; omega) (key_pl p hp) (vlR_mk u)
  refine ⟨w', h3, ⟨_, h4, fun j hj => ?_⟩, h5⟩
  by_cases hjk : j = p
  · subst hjk
    show _ = (if j = j then some u else m j).isSome ∧ ∀ z, _ = ((if j = j then some u else m j).map vlD).getD z
    rw [if_pos rfl]
    exact ⟨has_put_same h1.isMap (by simp [WideAt.IsKeyLit]) _, fun z => atKey_put_same h1.isMap (by simp [WideAt.IsKeyLit]) _ _⟩
  · show _ = (if j = p then some u else m j).isSome ∧ ∀ z, _ = ((if j = p then some u else m j).map vlD).getD z
    rw [if_neg hjk]
    exact ⟨(has_put_other (by simp; omega) _).trans (h2 j hj).1, fun z => (atKey_put_other (by simp; omega) _ _).trans ((h2 j hj).2 z)⟩
theorem Pv.new (w : World) : Pv (w.alloc (.map #[] 0)) w.heap.size 0 (fun _ => none) := ⟨_, World.ownsMap_made w _ _ _, fun k _ => ⟨rfl, fun z => rfl⟩⟩
theorem Pv.same {w' : World} (h : Pv w b n m) (hb : w'.heap[b]? = w.heap[b]?) : Pv w' b n m := by
  obtain ⟨D, ⟨es, clock, h1, h2⟩, h3⟩ := h
  exact ⟨D, ⟨es, clock, hb.trans h1, h2⟩, h3⟩
theorem Pv.kp {D R : Nat} {its : List Im} {x : World} (h : Pv w b n m) (hd : Dct D R its w) (hK : Kp (its.map Im.b) w x) : Pv x b n m := by
  refine h.same (hK.block b h.lt (fun hm => ?_))
  obtain ⟨i, hi, e⟩ := List.mem_map.1 hm
  have h1 := hd.items i hi
  obtain ⟨D, ⟨es, clock, h2, _⟩, _⟩ := h
  have h3 : w.heap[i.b]? = some (.cells (imC i.e i.v).toArray 79 (0, 0)) := h1
  rw [show i.b = b from e, h2] at h3
  cases h3
end
theorem run_makeMapV (w : World) : (Instr.makeMap 89 none).run Try.prog w = .ok (.map (some w.heap.size)) (w.alloc (.map #[] 0)) := by
  simp [Instr.makeMap, run_underlying Try.underlying89, Result.andThen]
/-- What an item has, with a map laid over it. -/
def gM (m : Nat → Option Vl) (x : Im) : Vl := (m x.e.pl).getD x.v
def layM (m : Nat → Option Vl) (its : List Im) : List Im := its.map (fun x => ⟨x.b, x.e, gM m x⟩)
set_option maxHeartbeats 4000000 in
theorem lay_any {D R : Nat} {its : List Im} {w : World} (h : Dct D R its w) {b n : Nat} {m : Nat → Option Vl} (hm : Pv w b n m) :
    Calls Try.prog 46 #[.pointer (some ⟨D, 0, none⟩), .map (some b)] w fun e w' => e = .returned (.tuple #[]) ∧ Dct D R (layM m its) w' ∧ Kp (its.map Im.b) w w' := by
  have hl := h.len
  have c0 := h.cell
  have HD0 := hidOf2 (show Dct D R (layT (gM m) its 0) w by rw [layT_zero]; exact h)
  have AP := hidOf2 h.apart
  have HP := hidOf2 (fun x (hK : Kp (its.map Im.b) w x) => hm.kp h hK)
  clear h hm
  go_enter Try.func46, Try.ntmps46
  go_wp2
  go_loopw [13] (fun i x => ∃ k : Nat, k ≤ its.length ∧ i = .int .i64 k ∧ Hid (Dct D R (layT (gM m) its k) x) ∧ Hid (Kp (its.map Im.b) w x)) (fun i _ => its.length - (intOf i).toNat)
  case atStart => exact ⟨0, Nat.zero_le _, rfl, HD0, Kp.refl _ _⟩
  case round =>
    clear HD0
    obtain ⟨k, hk, rfl, HD, HK⟩ := hrel
    by_cases hkl : k < its.length
    · have hkk : k < (layT (gM m) its k).length := by rw [layT_len]; exact hkl
      have ca := HD.out.at k hkk
      have hmm := List.getElem_mem hkk
      rw [layT_get hkl] at ca hmm
      have hI := HD.out.items _ hmm
      have hpl := iplace_any hI
      have HST := hidOf2 (fun (x : World) (hx : Dct D R (layT (gM m) its k) x) => by
        have := hx.set hmm (gM m its[k])
        rw [layT_step (g := gM m) AP.out hkl] at this
        exact this)
      have HSM := hidOf2 (fun e => layT_same (g := gM m) hkl e)
      have hmb := List.mem_map.2 ⟨its[k], List.getElem_mem hkl, (rfl : Im.b _ = _)⟩
      unfold ptrI at ca hpl
      have HG : Hid (gM m its[k] = (m its[k].e.pl).getD its[k].v) := rfl
      clear hkk
      generalize its[k] = i at *
      go_wp2_with fail
      refine hpl.mono ?_
      rintro e w1 ⟨rfl, nd, rfl⟩
      have K1 := HK.out.trans (Kp.of_below (bs := its.map Im.b) (bdr (Below.refl _ wr) nd))
      have D1 := HD.out.below (bdr (Below.refl _ wr) nd)
      have hI1 := D1.items _ hmm
      have hlk := (HP.out _ K1).look i.e.pl i.e.pl_lt
      clear hpl HD HK hI ca
      generalize wr.drewN nd = w2 at *
      clear nd
      obtain ⟨q, hq⟩ : ∃ q, w2.heap.size = q := ⟨_, rfl⟩
      have g0 : Va q Vl.nul (w2.alloc (.cells #[.int .i64 0, .int .u64 0, .string ⟨#[]⟩] 33)) := hq ▸ Va.new w2 Vl.nul
      cases hmi : m i.e.pl with
      | none =>
        rw [hmi] at hlk HG
        have b3 : Below w2.heap.size w2 ((w2.alloc (.cells #[.int .i64 0, .int .u64 0, .string ⟨#[]⟩] 33)).setRow q Vl.nul.arr) := below_row ((Below.refl _ _).alloc (Nat.le_refl _) _) (by omega) (by rw [size_alloc]; omega) _
        have HS3 := hidOf2 (show Dct D R (layT (gM m) its (k + 1)) _ by rw [HSM.out HG.out]; exact D1.below b3)
        have HK3 := hidOf2 (K1.trans (Kp.of_below (bs := its.map Im.b) b3))
        simp only [Option.getD_none, Option.isSome_none] at hlk
        clear D1 K1 b3 HST HSM hI1
        go_upto_region 4 with (first | (refine g0.sd Vl.nul rfl _ _ rfl rfl rfl ?_))
        generalize ((w2.alloc (.cells #[.int .i64 0, .int .u64 0, .string ⟨#[]⟩] 33)).setRow q Vl.nul.arr) = w3 at *
        clear hlk g0
        go_wp2
        go_roundw
        case rel => exact ⟨k + 1, by omega, by go_num, HS3, HK3⟩
        case measure => simp [intOf]; omega
      | some u =>
        rw [hmi] at hlk HG
        have b3 : Below w2.heap.size w2 ((w2.alloc (.cells #[.int .i64 0, .int .u64 0, .string ⟨#[]⟩] 33)).setRow q u.arr) := below_row ((Below.refl _ _).alloc (Nat.le_refl _) _) (by omega) (by rw [size_alloc]; omega) _
        have g1 := g0.row u
        have D3 := D1.below b3
        have ht := (D3.items _ hmm).there
        have HS3 := hidOf2 (HST.out _ D3)
        have HGu : gM m i = u := HG.out
        rw [HGu] at HS3
        have HK3 := hidOf2 ((K1.trans (Kp.of_below (bs := its.map Im.b) b3)).trans (Kp.set hmb 14 (vlC u)))
        simp only [Option.getD_some, Option.isSome_some] at hlk
        clear D1 K1 b3 HST HSM hI1 D3 HG HGu
        go_upto_region 4 with (first | (refine g0.sd u rfl _ _ rfl rfl rfl ?_))
        try simp only [hq]
        generalize ((w2.alloc (.cells #[.int .i64 0, .int .u64 0, .string ⟨#[]⟩] 33)).setRow q u.arr) = w3 at *
        clear hlk g0
        go_upto_region 6 with (first | (refine g1.ld rfl _ rfl rfl ?_) | (refine sdV ht u rfl _ _ rfl rfl rfl ?_; clear ht g1; generalize w3.setCells i.b 14 (vlC u) = w4 at *))
        go_wp2
        go_roundw
        case rel => exact ⟨k + 1, by omega, by go_num, HS3, HK3⟩
        case measure => simp [intOf]; omega
    · have e1 : k = its.length := by omega
      subst e1
      rw [layT_full] at HD
      have HD2 := hidOf2 HD.out
      clear HD
      go_wp2
      go_end0
      exact ⟨rfl, HD2.out, HK.out⟩
end Go.Proofs.Ytdcogpadioeclaa
namespace Go.Proofs.Ytdcogpadioeclaa
open Go.RowKit Go.Proofs.Ty Go.Sort Go.Lib
set_option linter.unusedVariables false
set_option maxRecDepth 1000000
set_option linter.unusedSimpArgs false
theorem layM_none (its : List Im) : layM (fun _ => none) its = its := by
  unfold layM gM
  simp
theorem fnd_layM (m : Nat → Option Vl) (its : List Im) (ix sb : Nat) : fnd (layM m its) ix sb = (fnd its ix sb).map (fun x => ⟨x.b, x.e, gM m x⟩) := by
  unfold fnd layM
  rw [List.find?_map]
  rfl
/-- One saved value more, in the map and among the items. -/
theorem layM_put {its : List Im} (hd : (its.map Im.b).Nodup) (hs : its.Pairwise (fun a b => a.e.pl < b.e.pl)) (m : Nat → Option Vl) (s : Sv) {i : Im} (hf : fnd its s.ix s.sb = some i) : layM (fun j => if j = i.e.pl then some (decW i.e.df.t s.raw) else m j) its = putS (layM m its) s := by
  have e1 : putS (layM m its) s = setV (layM m its) i.b (decW i.e.df.t s.raw) := by
    unfold putS
    rw [fnd_layM, hf]
    rfl
  rw [e1]
  unfold layM setV
  rw [List.map_map]
  apply List.map_congr_left
  intro x hx
  have hi := fnd_mem hf
  simp only [Function.comp]
  by_cases e : x.b = i.b
  · have := mem_b hd hx hi e
    subst this
    rw [if_pos rfl]
    show (⟨x.b, x.e, gM _ x⟩ : Im) = _
    unfold gM
    simp
  · have hne : ¬ x.e.pl = i.e.pl := fun h => e (by
      obtain ⟨a, ha, rfl⟩ := List.getElem_of_mem hx
      obtain ⟨c, hc, rfl⟩ := List.getElem_of_mem hi
      have h1 := List.pairwise_iff_getElem.1 hs
      have : a = c := by
        rcases Nat.lt_trichotomy a c with h2 | h2 | h2
        · have := h1 a c ha hc h2; omega
        · exact h2
        · have := h1 c a hc ha h2; omega
      subst this; rfl)
    rw [if_neg e]
    show (⟨x.b, x.e, gM _ x⟩ : Im) = ⟨x.b, x.e, gM m x⟩
    unfold gM
    simp [hne]
theorem ldC_step {its : List Im} {ss : List Sv} {k : Nat} (hk : k < ss.length) : ldC its (ss.drop k) = match fnd its ss[k].ix ss[k].sb with
    | none => 4
    | some i => if i.e.ac ≠ 2 then 4 else if decE i.e.df.t ss[k].raw ≠ 0 then 8 else ldC its (ss.drop (k + 1)) := by
  rw [List.drop_eq_getElem_cons hk, ldC]
  try (cases fnd its ss[k].ix ss[k].sb <;> rfl)
theorem layV_step {its : List Im} {ss : List Sv} {k : Nat} (hk : k < ss.length) : layV its (ss.take (k + 1)) = putS (layV its (ss.take k)) ss[k] := by
  unfold layV
  rw [List.take_succ_eq_append_getElem hk, List.foldl_append]
  rfl
theorem enterDc : ∀ args x, (callFunc 44 args).run Try.prog x = .ok (.enter 44 args) x := fun _ _ => by rfl
theorem enterIp : ∀ args x, (callFunc 45 args).run Try.prog x = .ok (.enter 45 args) x := fun _ _ => by rfl
theorem ldS {w : World} {ops : Array Oper} {rest : List Oper} {p : Oper} {a : Act} {Q : Exit → Act → World → Prop} {b o : Nat} {s : Sw} (h : w.rangeAt b o (swC s)) (hgd : Region.wanted p (yielded ops a.tmps) = true) (x : Operand) (ho : p.op = .load 91 x) (hx : a.eval x = .pointer (some ⟨b, o, none⟩))
    (hh : wpList Try.prog ops Q rest (a.put p.dst (.agg s.arr)) w) : wpList Try.prog ops Q (p :: rest) a w :=
  BigFrame.wpList_want hgd fun _ hK => wp_load_mid 91 x ho b o hx (swC s) _ h Try.underlying91 rfl (by rw [infoS]; rfl) (hK _ _ hh)
/-- While a list is read: the dictionary, the list in memory, the values that were read, in a map. -/
structure Lst (w w1 : World) (D R : Nat) (its : List Im) (v : Value) (ws : List Sw) (mb n : Nat) (m : Nat → Option Vl) (x : World) : Prop where
  dct : Dct D R its x
  wide : Wide 3 swC x v ws
  raws : ∀ s ∈ ws, Bytes x s.bv s.s.raw
  map : Pv x mb n m
  below : Below w1.heap.size w1 x
  old : Below w.heap.size w w1
  fresh : w1.heap.size ≤ mb
section
variable {w w1 : World} {D R : Nat} {its : List Im} {v : Value} {ws : List Sw} {mb n : Nat} {m : Nat → Option Vl} {x y : World}
theorem Lst.next (h : Lst w w1 D R its v ws mb n m x) (hb : Below x.heap.size x y) : Lst w w1 D R its v ws mb n m y :=
  ⟨h.dct.below hb, h.wide.same hb.size (fun b _ hl => hb.block b hl), fun s hs => (h.raws s hs).below hb, h.map.same (hb.block mb h.map.lt), h.below.trans (hb.mono h.below.size), h.old, h.fresh⟩
theorem Lst.start (h0 : Dct D R its w) (hb : Below w.heap.size w w1) (hw : Wide 3 swC w1 v ws) (hr : ∀ s ∈ ws, Bytes w1 s.bv s.s.raw) : Lst w w1 D R its v ws w1.heap.size 0 (fun _ => none) (w1.alloc (.map #[] 0)) :=
  have bA : Below w1.heap.size w1 (w1.alloc (.map #[] 0)) := (Below.refl _ _).alloc (Nat.le_refl _) _
  ⟨(h0.below hb).below bA, hw.same bA.size (fun b _ hl => bA.block b hl), fun s hs => (hr s hs).below bA, Pv.new w1, bA, hb, Nat.le_refl _⟩
theorem Lst.put (h : Lst w w1 D R its v ws mb n m x) (h1 : Dct D R its w1) (hw : Wide 3 swC w1 v ws) (hr : ∀ s ∈ ws, Bytes w1 s.bv s.s.raw) {m' : Nat → Option Vl} {n' : Nat} (hp : Pv y mb n' m') (ht : x.mapTurned y mb) : Lst w w1 D R its v ws mb n' m' y := by
  have G := ht.grown
  have bY : Below w1.heap.size w1 y := h.below.grown G h.below.size (fun j hj => by injection hj with hj; have := h.fresh; omega)
  exact ⟨h1.below bY, hw.same bY.size (fun b _ hl => bY.block b hl), fun s hs => (hr s hs).below bY, hp, bY, h.old, h.fresh⟩
end
end Go.Proofs.Ytdcogpadioeclaa
namespace Go.Proofs.Ytdcogpadioeclaa
open Go.RowKit Go.Proofs.Ty Go.Sort Go.Lib
set_option linter.unusedVariables false
set_option maxRecDepth 1000000
set_option linter.unusedSimpArgs false
theorem load_int8 (x : World) (D k : Nat) (z : Int) (hc : x.cell? ⟨D, k, none⟩ = some (.int .i64 z)) : (loadVar 3 ⟨D, k, none⟩).run Try.prog x = .ok (.int .i64 z) x := by
  simp [go_sem, run_underlying Try.underlying3, hc]
theorem wp_mapUpd {o : Oper} {a : Act} {w w' : World} {K : Act → World → Prop} {Q : Exit → Act → World → Prop} (x y z : Operand) (ho : o.op = .mapUpdate 89 x y z) (u v t : Value) (hx : a.eval x = u) (hy : a.eval y = v) (hz : a.eval z = t)
    (hr : (Instr.mapUpdate 89 u v t).run Try.prog w = .ok () w') (h : K (a.put o.dst undef) w') : o.wp Try.prog a w K Q := by
  unfold Oper.wp execOp
  simp only [ho, hx, hy, hz, Sem.run_bind, Sem.run_pure, Result.andThen_ok, hr]
  exact h
theorem Lst.all {w w1 : World} {D R : Nat} {its : List Im} {v : Value} {ws : List Sw} {mb n : Nat} {m : Nat → Option Vl} {x : World} (h : Lst w w1 D R its v ws mb n m x) : Below w.heap.size w x := h.old.trans (h.below.mono h.old.size)
set_option maxHeartbeats 8000000 in
theorem Load_any {D R : Nat} {its : List Im} {w : World} (h : Dct D R its w) (vb : Value) (l : List UInt8) (hB : Bytes w vb l) (hC : Cp vb) (hl : l.length ≤ 140737488351232) :
    Calls Try.prog 18 #[.pointer (some ⟨D, 0, none⟩), vb] w fun e w' => e = .returned (.int .i64 (loadC its l)) ∧ Dct D R (loadI its l) w' ∧ Kp (its.map Im.b) w w' := by
  have hcut := ocut_any vb l w hB hC hl
  obtain ⟨ao0, cp0, rfl⟩ := bytes_shape hB
  have HC : Hid (loadC its l = match cutL (-1) l with
    | none => 8
    | some ss => ldC its ss) := rfl
  have HI : Hid (loadI its l = match cutL (-1) l with
    | none => its
    | some ss => if ldC its ss = 0 then layV its ss else its) := rfl
  generalize loadC its l = LC at *
  generalize loadI its l = LI at *
  have HD := hidOf2 h
  clear hB hC h
  go_enter Try.func18, Try.ntmps18
  go_wp2_with fail
  refine hcut.mono ?_
  rintro e w1 ⟨b1, hbad, hgood⟩
  have HBA := hidOf2 hbad
  have HGO := hidOf2 hgood
  clear hcut hbad hgood
  cases hc : cutL (-1) l with
  | none =>
    obtain rfl := HBA.out hc
    rw [hc] at HC HI
    have HD1 := hidOf2 (HD.out.below b1)
    clear HBA HGO
    go_wp2
    go_ret
    exact ⟨ret_int (by rw [HC.out]; rfl), by rw [HI.out]; exact HD1.out, Kp.of_below b1⟩
  | some ss =>
    obtain ⟨v, ws, rfl, hws, hW, hR, hlen⟩ := HGO.out ss hc
    subst hws
    rw [hc] at HC HI
    obtain ⟨ao, cp, rfl⟩ := hW.shape
    have HL0 := hidOf2 (Lst.start HD.out b1 hW hR)
    have HD1 := hidOf2 (HD.out.below b1)
    have HW1 := hidOf2 hW
    have HR1 := hidOf2 hR
    have HC2 := hidOf2 (show LC = ldC its (ws.map Sw.s) from HC.out)
    have HI2 := hidOf2 (show LI = if ldC its (ws.map Sw.s) = 0 then layV its (ws.map Sw.s) else its from HI.out)
    have hmk := run_makeMapV
    have HAP := hidOf2 (And.intro HD.out.apart HD.out.sorted)
    clear HBA HGO HC HI hW hR hc b1 HD
    go_upto_region 5 with fail
    obtain ⟨mb, hmb⟩ : ∃ mb, w1.heap.size = mb := ⟨_, rfl⟩
    rw [hmb] at HL0
    try simp only [hmb]
    generalize w1.alloc (.map #[] 0) = w2 at *
    clear hmk
    go_wp2
    go_loopw [24] (fun s24 x => ∃ (k : Nat) (m : Nat → Option Vl), k ≤ ws.length ∧ s24 = .int .i64 k ∧ Hid (Lst w w1 D R its (.slice ao ws.length cp) ws mb k m x) ∧ Hid (ldC its (ws.map Sw.s) = ldC its ((ws.map Sw.s).drop k)) ∧ Hid (layM m its = layV its ((ws.map Sw.s).take k))) (fun s24 _ => ws.length - (intOf s24).toNat)
    case atStart => exact ⟨0, _, Nat.zero_le _, rfl, HL0, rfl, by rw [layM_none]; rfl⟩
    case round =>
      clear HL0
      obtain ⟨k, m, hk, rfl, HL, HA, HM⟩ := hrel
      by_cases hkl : k < ws.length
      · obtain ⟨sb, so, cp', hv, hsb, hRg⟩ := HL.out.wide.at0 k hkl
        injection hv with hv1 _ hv3
        subst hv1
        subst hv3
        have HA2 := hidOf2 (HA.out.trans (ldC_step (its := its) (ss := ws.map Sw.s) (k := k) (by simpa using hkl)))
        have HLY := hidOf2 (layV_step (its := its) (ss := ws.map Sw.s) (k := k) (by simpa using hkl))
        have HRW := hidOf2 (HR1.out ws[k] (List.getElem_mem hkl))
        have HBW := hidOf2 (HL.out.raws ws[k] (List.getElem_mem hkl))
        rw [List.getElem_map] at HA2 HLY
        generalize ws[k] = S at *
        obtain ⟨q, hq⟩ : ∃ q, wr.heap.size = q := ⟨_, rfl⟩
        have g0 : Sb q Sw.nul (wr.alloc (.cells #[.int .u16 0, .int .u8 0, .slice none 0 0] 91)) := hq ▸ Sb.new wr Sw.nul
        have b3 : Below wr.heap.size wr ((wr.alloc (.cells #[.int .u16 0, .int .u8 0, .slice none 0 0] 91)).setRow q S.arr) := below_row ((Below.refl _ _).alloc (Nat.le_refl _) _) (by omega) (by rw [size_alloc]; omega) _
        have g1 := g0.row S
        have HL3 := hidOf2 (HL.out.next b3)
        have HB3 := hidOf2 (HBW.out.below b3)
        clear HL HBW b3 hsb
        go_upto_region 8 with (first | (refine ldS hRg rfl _ rfl rfl ?_) | (refine g0.sd S rfl _ _ rfl rfl rfl ?_))
        try simp only [hq]
        generalize ((wr.alloc (.cells #[.int .u16 0, .int .u8 0, .slice none 0 0] 91)).setRow q S.arr) = w3 at *
        clear g0 hRg
        obtain ⟨c0, c1, c2⟩ := g1.c
        cases hf : fnd its S.s.ix S.s.sb with
        | none =>
          rw [hf] at HA2
          have hF := find_none HL3.out.dct S.s.ix S.s.sb S.s.hix S.s.hsb hf
          have d1 : ((noc its S.s.ix : Int) != 0) = true := by have := noc_ne its S.s.ix; simp; omega
          have E1 := hidOf2 (show LC = 4 by rw [HC2.out, HA2.out])
          have E2 := hidOf2 (show LI = its by rw [HI2.out, if_neg (by rw [HA2.out]; simp)])
          generalize noc its S.s.ix = N at *
          clear hf HA HM HA2 HLY HB3
          go_wp2_with fail
          refine hF.mono ?_
          rintro e w4 ⟨rfl, b4⟩
          have HL4 := hidOf2 (HL3.out.next b4)
          clear hF HL3
          go_wp2
          go_ret
          exact ⟨ret_int (by rw [E1.out]; rfl), by rw [E2.out]; exact HL4.out.dct, Kp.of_below HL4.out.all⟩
        | some i =>
          rw [hf] at HA2
          have hF := find_some HL3.out.dct S.s.ix S.s.sb S.s.hix S.s.hsb hf
          have hi := fnd_mem hf
          have HM3 := hidOf2 (layM_put HAP.out.1 HAP.out.2 m S.s hf)
          unfold ptrI at hF
          clear hf
          go_wp2_with fail
          refine hF.mono ?_
          rintro e w5 ⟨rfl, b5⟩
          have HL5 := hidOf2 (HL3.out.next b5)
          have HB5 := hidOf2 (HB3.out.below b5)
          have g5 := g1.below b5
          obtain ⟨_, _, k2, _, _, _⟩ := (HL5.out.dct.items i hi).c
          clear hF HL3 HB3 g1 c0 c1 c2 b5
          by_cases ha : i.e.ac = 2
          · rw [ha] at k2
            have HA3 := hidOf2 (HA2.out.trans (if_neg (by simpa using ha)))
            clear HA2
            have HSS : Hid (∀ x, Below w5.heap.size w5 x → x.cell? ⟨i.b, 11, none⟩ = some (.int .i64 i.e.df.t) ∧ x.cell? ⟨q, 2, none⟩ = some (.slice S.ao S.s.raw.length S.cp)) := fun x hb => ⟨((HL5.out.next hb).dct.items i hi).c.2.2.2.2.2, (g5.below hb).c.2.2⟩
            have hDec : Hid (∀ x, Below w5.heap.size w5 x → Calls Try.prog 44 #[.int .i64 i.e.df.t, .slice S.ao S.s.raw.length S.cp] x fun e w' => e = .returned (.tuple #[.agg (decW i.e.df.t S.s.raw).arr, .int .i64 (decE i.e.df.t S.s.raw)]) ∧ Below x.heap.size x w') := fun x hb => Decode_v i.e.df.t i.e.df.ht (.slice S.ao S.s.raw.length S.cp) S.s.raw x (HB5.out.below hb)
            obtain ⟨dE, hdE⟩ : ∃ d, decE i.e.df.t S.s.raw = d := ⟨_, rfl⟩
            obtain ⟨dV, hdV⟩ : ∃ d, decW i.e.df.t S.s.raw = d := ⟨_, rfl⟩
            rw [hdE] at HA3 hDec
            rw [hdV] at hDec HM3
            clear hdE hdV HB5
            have c0 : Below w5.heap.size w5 w5.drew := bdr (Below.refl _ _) 1
            have S0 := HSS.out _ c0
            go_upto_region 11 with fail
            refine wp_region_held (S := fun x => x.cell? ⟨i.b, 11, none⟩ = some (.int .i64 i.e.df.t) ∧ x.cell? ⟨q, 2, none⟩ = some (.slice S.ao S.s.raw.length S.cp)) (by kernel_rfl) ?_
            change wpAnyH _ _ _ _ _ _ _ _ w5.drew
            refine wpAnyH_take (i := 0) (v := (.pointer (some ⟨i.b, 0, none⟩))) rfl (by kernel_rfl) (by kernel_rfl) (by kernel_rfl) (fun _ _ _ h => h) (.inl ⟨rfl, fun _ hS => rfl⟩) S0 ?_
            simp only [List.getElem_toArray, List.getElem_cons_succ, List.getElem_cons_zero, Act.put, List.setIfInBounds_toArray, List.set_cons_succ, List.set_cons_zero]
            refine wpAnyH_take (i := 1) (v := (.pointer (some ⟨i.b, 0, none⟩))) rfl (by kernel_rfl) (by kernel_rfl) (by kernel_rfl) (fun _ _ _ h => h) (.inl ⟨rfl, fun _ hS => by simp [execOp, go_sem, Act.eval]⟩) S0 ?_
            simp only [List.getElem_toArray, List.getElem_cons_succ, List.getElem_cons_zero, Act.put, List.setIfInBounds_toArray, List.set_cons_succ, List.set_cons_zero]
            refine wpAnyH_take (i := 2) (v := (.pointer (some ⟨i.b, 0, none⟩))) rfl (by kernel_rfl) (by kernel_rfl) (by kernel_rfl) (fun _ _ _ h => h) (.inl ⟨rfl, fun _ hS => by simp [execOp, go_sem, Act.eval]⟩) S0 ?_
            simp only [List.getElem_toArray, List.getElem_cons_succ, List.getElem_cons_zero, Act.put, List.setIfInBounds_toArray, List.set_cons_succ, List.set_cons_zero]
            refine wpAnyH_take (i := 3) (v := (.pointer (some ⟨i.b, 11, none⟩))) rfl (by kernel_rfl) (by kernel_rfl) (by kernel_rfl) (fun _ _ _ h => h) (.inl ⟨rfl, fun _ hS => by simp [execOp, go_sem, Act.eval]⟩) S0 ?_
            simp only [List.getElem_toArray, List.getElem_cons_succ, List.getElem_cons_zero, Act.put, List.setIfInBounds_toArray, List.set_cons_succ, List.set_cons_zero]
            refine wpAnyH_take (i := 4) (v := (.pointer (some ⟨i.b, 11, none⟩))) rfl (by kernel_rfl) (by kernel_rfl) (by kernel_rfl) (fun _ _ _ h => h) (.inl ⟨rfl, fun _ hS => by simp [execOp, go_sem, Act.eval]⟩) S0 ?_
            simp only [List.getElem_toArray, List.getElem_cons_succ, List.getElem_cons_zero, Act.put, List.setIfInBounds_toArray, List.set_cons_succ, List.set_cons_zero]
            refine wpAnyH_take (i := 5) (v := (.int .i64 i.e.df.t)) rfl (by kernel_rfl) (by kernel_rfl) (by kernel_rfl) (fun _ _ _ h => h) (.inl ⟨rfl, fun _ hS => exec_load rfl rfl (load_int8 _ _ _ _ hS.1)⟩) S0 ?_
            simp only [List.getElem_toArray, List.getElem_cons_succ, List.getElem_cons_zero, Act.put, List.setIfInBounds_toArray, List.set_cons_succ, List.set_cons_zero]
            refine wpAnyH_take (i := 6) (v := (.pointer (some ⟨q, 2, none⟩))) rfl (by kernel_rfl) (by kernel_rfl) (by kernel_rfl) (fun _ _ _ h => h) (.inl ⟨rfl, fun _ hS => by simp [execOp, go_sem, Act.eval]⟩) S0 ?_
            simp only [List.getElem_toArray, List.getElem_cons_succ, List.getElem_cons_zero, Act.put, List.setIfInBounds_toArray, List.set_cons_succ, List.set_cons_zero]
            refine wpAnyH_take (i := 7) (v := (.slice S.ao S.s.raw.length S.cp)) rfl (by kernel_rfl) (by kernel_rfl) (by kernel_rfl) (fun _ _ _ h => h) (.inl ⟨rfl, fun _ hS => exec_load rfl rfl (load_bytes _ _ _ _ _ _ hS.2)⟩) S0 ?_
            simp only [List.getElem_toArray, List.getElem_cons_succ, List.getElem_cons_zero, Act.put, List.setIfInBounds_toArray, List.set_cons_succ, List.set_cons_zero]
            refine wpAnyH_all (rs := [8, 12]) (by kernel_rfl) (by simp) ?_
            intro k hk
            simp only [List.mem_cons, List.mem_nil_iff, or_false] at hk
            rcases hk with rfl | rfl
            · refine wpOp_run rfl rfl (wp_call_fn 44 #[.int .i64 i.e.df.t, .slice S.ao S.s.raw.length S.cp] (by simp [execOp, go_sem, Act.eval, resolve, invoke, enterDc]) ?_)
              refine (hDec.out w5.drew c0).mono ?_
              rintro e u1 ⟨rfl, b1⟩
              have c1 := c0.trans (b1.mono c0.size)
              have s1 := HSS.out _ c1
              refine ⟨s1, ?_⟩
              simp only [List.getElem_toArray, List.getElem_cons_succ, List.getElem_cons_zero, Act.put, List.setIfInBounds_toArray, List.set_cons_succ, List.set_cons_zero]
              refine wpAnyH_take (i := 9) (v := (.tuple #[.agg dV.arr, .int .i64 (dE : Int)])) rfl (by kernel_rfl) (by kernel_rfl) (by kernel_rfl) (fun _ _ _ h => h) (.inl ⟨rfl, fun _ hS => rfl⟩) s1 ?_
              simp only [List.getElem_toArray, List.getElem_cons_succ, List.getElem_cons_zero, Act.put, List.setIfInBounds_toArray, List.set_cons_succ, List.set_cons_zero]
              refine wpAnyH_take (i := 10) (v := (.agg dV.arr)) rfl (by kernel_rfl) (by kernel_rfl) (by kernel_rfl) (fun _ _ _ h => h) (.inl ⟨rfl, fun _ hS => by simp [execOp, go_sem, Act.eval]⟩) s1 ?_
              simp only [List.getElem_toArray, List.getElem_cons_succ, List.getElem_cons_zero, Act.put, List.setIfInBounds_toArray, List.set_cons_succ, List.set_cons_zero]
              refine wpAnyH_take (i := 11) (v := (.int .i64 (dE : Int))) rfl (by kernel_rfl) (by kernel_rfl) (by kernel_rfl) (fun _ _ _ h => h) (.inl ⟨rfl, fun _ hS => by simp [execOp, go_sem, Act.eval]⟩) s1 ?_
              simp only [List.getElem_toArray, List.getElem_cons_succ, List.getElem_cons_zero, Act.put, List.setIfInBounds_toArray, List.set_cons_succ, List.set_cons_zero]
              refine wpAnyH_all (rs := [12]) (by kernel_rfl) (by simp) ?_
              intro k hk
              simp only [List.mem_cons, List.mem_nil_iff, or_false] at hk
              subst hk
              refine wpOp_run rfl rfl (wp_allocV rfl ?_)
              obtain ⟨q2, hqv⟩ : ∃ q, u1.heap.size = q := ⟨_, rfl⟩
              have g2 := Va.new u1 Vl.nul
              have c2 := c1.alloc c1.size (.cells Vl.nul.arr 33)
              have s2 := HSS.out _ c2
              have hqr : w5.heap.size ≤ q2 := by rw [← hqv]; exact c1.size
              rw [hqv] at g2 ⊢
              generalize u1.alloc (.cells Vl.nul.arr 33) = u2 at *
              refine ⟨s2, ?_⟩
              simp only [List.getElem_toArray, List.getElem_cons_succ, List.getElem_cons_zero, Act.put, List.setIfInBounds_toArray, List.set_cons_succ, List.set_cons_zero]
              refine wpAnyH_all (rs := [13]) (by kernel_rfl) (by simp) ?_
              intro k hk
              simp only [List.mem_cons, List.mem_nil_iff, or_false] at hk
              subst hk
              refine wpOp_run rfl rfl (wp_store_row 33 _ _ rfl q2 (dV).arr rfl rfl 33 Vl.nul.arr g2 (by rw [Vl.arr_size]; exact infoV) (by rw [Vl.arr_size, Vl.arr_size]) (dV).one ?_)
              have gZ := g2.row (dV)
              have cZ := below_row c2 hqr c2.size (q := q2) (dV).arr
              have sZ := HSS.out _ cZ
              refine ⟨sZ, ?_⟩
              simp only [List.getElem_toArray, List.getElem_cons_succ, List.getElem_cons_zero, Act.put, List.setIfInBounds_toArray, List.set_cons_succ, List.set_cons_zero]
              refine wpAnyH_take (i := 14) (v := (.int .i64 (dE : Int))) rfl (by kernel_rfl) (by kernel_rfl) (by kernel_rfl) (fun _ _ _ h => h) (.inl ⟨rfl, fun _ hS => rfl⟩) sZ ?_
              simp only [List.getElem_toArray, List.getElem_cons_succ, List.getElem_cons_zero, Act.put, List.setIfInBounds_toArray, List.set_cons_succ, List.set_cons_zero]
              refine wpAnyH_done (by kernel_rfl) ?_ _
              have GZ := hidOf2 gZ
              have CZ := hidOf2 cZ
              clear s1 s2 sZ gZ cZ S0 HSS hDec c0
              generalize u2.setRow q2 dV.arr = w6 at *
              have HL6 := hidOf2 (HL5.out.next CZ.out)
              have HI6 := hidOf2 (HL6.out.dct.items i hi)
              have HQM := hidOf2 (show q2 ≠ mb from fun e => by have := hqr; have := HL5.out.map.lt; omega)
              clear CZ HL5
              by_cases hd : dE = 0
              · subst hd
                have E1 := hidOf2 (show ldC its (ws.map Sw.s) = ldC its ((ws.map Sw.s).drop (k + 1)) from HA3.out.trans (if_neg (by simp)))
                have E2 := hidOf2 (show layM (fun j => if j = i.e.pl then some dV else m j) its = layV its ((ws.map Sw.s).take (k + 1)) by rw [HM3.out, HLY.out, HM.out])
                go_upto_region 14 with fail
                have S14 : Va q2 dV w6.drew := GZ.out
                refine wp_region_held (S := fun x => Va q2 dV x) (by kernel_rfl) ?_
                change wpAnyH _ _ _ _ _ _ _ _ w6.drew
                refine wpAnyH_take (i := 0) (v := (.map (some mb))) rfl (by kernel_rfl) (by kernel_rfl) (by kernel_rfl) (fun _ _ _ h => h) (.inl ⟨rfl, fun _ hS => rfl⟩) S14 ?_
                simp only [List.getElem_toArray, List.getElem_cons_succ, List.getElem_cons_zero, Act.put, List.setIfInBounds_toArray, List.set_cons_succ, List.set_cons_zero]
                refine wpAnyH_take (i := 1) (v := (.pointer (some ⟨i.b, 0, none⟩))) rfl (by kernel_rfl) (by kernel_rfl) (by kernel_rfl) (fun _ _ _ h => h) (.inl ⟨rfl, fun _ hS => rfl⟩) S14 ?_
                simp only [List.getElem_toArray, List.getElem_cons_succ, List.getElem_cons_zero, Act.put, List.setIfInBounds_toArray, List.set_cons_succ, List.set_cons_zero]
                refine wpAnyH_take (i := 3) (v := (.agg dV.arr)) rfl (by kernel_rfl) (by kernel_rfl) (by kernel_rfl) (fun _ _ _ h => h) (.inl ⟨rfl, fun _ hS => exec_load rfl rfl hS.load⟩) S14 ?_
                simp only [List.getElem_toArray, List.getElem_cons_succ, List.getElem_cons_zero, Act.put, List.setIfInBounds_toArray, List.set_cons_succ, List.set_cons_zero]
                refine wpAnyH_all (rs := [2]) (by kernel_rfl) (by simp) ?_
                intro k hk
                simp only [List.mem_cons, List.mem_nil_iff, or_false] at hk
                subst hk
                refine wpOp_run rfl rfl (wp_call_fn 45 #[.pointer (some ⟨i.b, 0, none⟩)] (by simp [execOp, go_sem, Act.eval, resolve, invoke, enterIp]) ?_)
                refine (iplace_any (show Ib i.b i.e i.v w6.drew from HI6.out)).mono ?_
                rintro e u1 ⟨rfl, nd, rfl⟩
                have L7 : Lst w w1 D R its _ ws mb k m (w6.drew.drewN nd) := HL6.out.next (bdr (bdr (Below.refl _ w6) 1) nd)
                have g7 : Va q2 dV (w6.drew.drewN nd) := GZ.out
                generalize w6.drew.drewN nd = w7 at *
                refine ⟨g7, ?_⟩
                simp only [List.getElem_toArray, List.getElem_cons_succ, List.getElem_cons_zero, Act.put, List.setIfInBounds_toArray, List.set_cons_succ, List.set_cons_zero]
                refine wpAnyH_all (rs := [4]) (by kernel_rfl) (by simp) ?_
                intro k hk
                simp only [List.mem_cons, List.mem_nil_iff, or_false] at hk
                subst hk
                obtain ⟨w8, hr8, hp8, ht8⟩ := L7.map.put i.e.pl i.e.pl_lt dV (by omega)
                refine wpOp_run rfl rfl (wp_mapUpd _ _ _ rfl _ _ _ rfl rfl rfl hr8 ?_)
                have L8 := L7.put HD1.out HW1.out HR1.out hp8 ht8
                have g8 : Va q2 dV w8 := (ht8.grown.block q2 g7.lt (fun e => HQM.out (by injection e))).trans g7
                refine ⟨g8, ?_⟩
                simp only [List.getElem_toArray, List.getElem_cons_succ, List.getElem_cons_zero, Act.put, List.setIfInBounds_toArray, List.set_cons_succ, List.set_cons_zero]
                refine wpAnyH_done (by kernel_rfl) ?_ _
                have HL8 := hidOf2 L8
                clear L7 L8 g7 g8 hr8 hp8 ht8 HL6 HI6 GZ
                go_wp2
                go_roundw
                case rel => exact ⟨k + 1, _, by omega, by go_num, HL8, E1, E2⟩
                case measure => simp [intOf]; omega
              · have E1 := hidOf2 (show LC = 8 by rw [HC2.out, HA3.out, if_pos hd])
                have E2 := hidOf2 (show LI = its by rw [HI2.out, if_neg (by rw [HA3.out, if_pos hd]; decide)])
                have de : ((dE : Int) != 0) = true := by simpa using hd
                go_wp2
                go_ret
                exact ⟨ret_int (by rw [E1.out]; rfl), by rw [E2.out]; exact HL6.out.dct, Kp.of_below (HL6.out.all)⟩
            · refine wpOp_run rfl rfl (wp_allocV rfl ?_)
              obtain ⟨q2, hqv⟩ : ∃ q, w5.drew.heap.size = q := ⟨_, rfl⟩
              have g1 := Va.new w5.drew Vl.nul
              have c1 := c0.alloc c0.size (.cells Vl.nul.arr 33)
              have s1 := HSS.out _ c1
              have hqr : w5.heap.size ≤ q2 := by rw [← hqv]; exact c0.size
              rw [hqv] at g1 ⊢
              generalize w5.drew.alloc (.cells Vl.nul.arr 33) = u1 at *
              refine ⟨s1, ?_⟩
              simp only [List.getElem_toArray, List.getElem_cons_succ, List.getElem_cons_zero, Act.put, List.setIfInBounds_toArray, List.set_cons_succ, List.set_cons_zero]
              refine wpAnyH_all (rs := [8]) (by kernel_rfl) (by simp) ?_
              intro k hk
              simp only [List.mem_cons, List.mem_nil_iff, or_false] at hk
              subst hk
              refine wpOp_run rfl rfl (wp_call_fn 44 #[.int .i64 i.e.df.t, .slice S.ao S.s.raw.length S.cp] (by simp [execOp, go_sem, Act.eval, resolve, invoke, enterDc]) ?_)
              refine (hDec.out u1 c1).mono ?_
              rintro e u2 ⟨rfl, b2⟩
              have c2 := c1.trans (b2.mono c1.size)
              have s2 := HSS.out _ c2
              have g2 := g1.below b2
              refine ⟨s2, ?_⟩
              simp only [List.getElem_toArray, List.getElem_cons_succ, List.getElem_cons_zero, Act.put, List.setIfInBounds_toArray, List.set_cons_succ, List.set_cons_zero]
              refine wpAnyH_take (i := 9) (v := (.tuple #[.agg dV.arr, .int .i64 (dE : Int)])) rfl (by kernel_rfl) (by kernel_rfl) (by kernel_rfl) (fun _ _ _ h => h) (.inl ⟨rfl, fun _ hS => rfl⟩) s2 ?_
              simp only [List.getElem_toArray, List.getElem_cons_succ, List.getElem_cons_zero, Act.put, List.setIfInBounds_toArray, List.set_cons_succ, List.set_cons_zero]
              refine wpAnyH_take (i := 10) (v := (.agg dV.arr)) rfl (by kernel_rfl) (by kernel_rfl) (by kernel_rfl) (fun _ _ _ h => h) (.inl ⟨rfl, fun _ hS => by simp [execOp, go_sem, Act.eval]⟩) s2 ?_
              simp only [List.getElem_toArray, List.getElem_cons_succ, List.getElem_cons_zero, Act.put, List.setIfInBounds_toArray, List.set_cons_succ, List.set_cons_zero]
              refine wpAnyH_take (i := 11) (v := (.int .i64 (dE : Int))) rfl (by kernel_rfl) (by kernel_rfl) (by kernel_rfl) (fun _ _ _ h => h) (.inl ⟨rfl, fun _ hS => by simp [execOp, go_sem, Act.eval]⟩) s2 ?_
              simp only [List.getElem_toArray, List.getElem_cons_succ, List.getElem_cons_zero, Act.put, List.setIfInBounds_toArray, List.set_cons_succ, List.set_cons_zero]
              refine wpAnyH_all (rs := [13]) (by kernel_rfl) (by simp) ?_
              intro k hk
              simp only [List.mem_cons, List.mem_nil_iff, or_false] at hk
              subst hk
              refine wpOp_run rfl rfl (wp_store_row 33 _ _ rfl q2 (dV).arr rfl rfl 33 Vl.nul.arr g2 (by rw [Vl.arr_size]; exact infoV) (by rw [Vl.arr_size, Vl.arr_size]) (dV).one ?_)
              have gZ := g2.row (dV)
              have cZ := below_row c2 hqr c2.size (q := q2) (dV).arr
              have sZ := HSS.out _ cZ
              refine ⟨sZ, ?_⟩
              simp only [List.getElem_toArray, List.getElem_cons_succ, List.getElem_cons_zero, Act.put, List.setIfInBounds_toArray, List.set_cons_succ, List.set_cons_zero]
              refine wpAnyH_take (i := 14) (v := (.int .i64 (dE : Int))) rfl (by kernel_rfl) (by kernel_rfl) (by kernel_rfl) (fun _ _ _ h => h) (.inl ⟨rfl, fun _ hS => rfl⟩) sZ ?_
              simp only [List.getElem_toArray, List.getElem_cons_succ, List.getElem_cons_zero, Act.put, List.setIfInBounds_toArray, List.set_cons_succ, List.set_cons_zero]
              refine wpAnyH_done (by kernel_rfl) ?_ _
              have GZ := hidOf2 gZ
              have CZ := hidOf2 cZ
              clear s1 s2 sZ gZ cZ S0 HSS hDec c0
              generalize u2.setRow q2 dV.arr = w6 at *
              have HL6 := hidOf2 (HL5.out.next CZ.out)
              have HI6 := hidOf2 (HL6.out.dct.items i hi)
              have HQM := hidOf2 (show q2 ≠ mb from fun e => by have := hqr; have := HL5.out.map.lt; omega)
              clear CZ HL5
              by_cases hd : dE = 0
              · subst hd
                have E1 := hidOf2 (show ldC its (ws.map Sw.s) = ldC its ((ws.map Sw.s).drop (k + 1)) from HA3.out.trans (if_neg (by simp)))
                have E2 := hidOf2 (show layM (fun j => if j = i.e.pl then some dV else m j) its = layV its ((ws.map Sw.s).take (k + 1)) by rw [HM3.out, HLY.out, HM.out])
                go_upto_region 14 with fail
                have S14 : Va q2 dV w6.drew := GZ.out
                refine wp_region_held (S := fun x => Va q2 dV x) (by kernel_rfl) ?_
                change wpAnyH _ _ _ _ _ _ _ _ w6.drew
                refine wpAnyH_take (i := 0) (v := (.map (some mb))) rfl (by kernel_rfl) (by kernel_rfl) (by kernel_rfl) (fun _ _ _ h => h) (.inl ⟨rfl, fun _ hS => rfl⟩) S14 ?_
                simp only [List.getElem_toArray, List.getElem_cons_succ, List.getElem_cons_zero, Act.put, List.setIfInBounds_toArray, List.set_cons_succ, List.set_cons_zero]
                refine wpAnyH_take (i := 1) (v := (.pointer (some ⟨i.b, 0, none⟩))) rfl (by kernel_rfl) (by kernel_rfl) (by kernel_rfl) (fun _ _ _ h => h) (.inl ⟨rfl, fun _ hS => rfl⟩) S14 ?_
                simp only [List.getElem_toArray, List.getElem_cons_succ, List.getElem_cons_zero, Act.put, List.setIfInBounds_toArray, List.set_cons_succ, List.set_cons_zero]
                refine wpAnyH_take (i := 3) (v := (.agg dV.arr)) rfl (by kernel_rfl) (by kernel_rfl) (by kernel_rfl) (fun _ _ _ h => h) (.inl ⟨rfl, fun _ hS => exec_load rfl rfl hS.load⟩) S14 ?_
                simp only [List.getElem_toArray, List.getElem_cons_succ, List.getElem_cons_zero, Act.put, List.setIfInBounds_toArray, List.set_cons_succ, List.set_cons_zero]
                refine wpAnyH_all (rs := [2]) (by kernel_rfl) (by simp) ?_
                intro k hk
                simp only [List.mem_cons, List.mem_nil_iff, or_false] at hk
                subst hk
                refine wpOp_run rfl rfl (wp_call_fn 45 #[.pointer (some ⟨i.b, 0, none⟩)] (by simp [execOp, go_sem, Act.eval, resolve, invoke, enterIp]) ?_)
                refine (iplace_any (show Ib i.b i.e i.v w6.drew from HI6.out)).mono ?_
                rintro e u1 ⟨rfl, nd, rfl⟩
                have L7 : Lst w w1 D R its _ ws mb k m (w6.drew.drewN nd) := HL6.out.next (bdr (bdr (Below.refl _ w6) 1) nd)
                have g7 : Va q2 dV (w6.drew.drewN nd) := GZ.out
                generalize w6.drew.drewN nd = w7 at *
                refine ⟨g7, ?_⟩
                simp only [List.getElem_toArray, List.getElem_cons_succ, List.getElem_cons_zero, Act.put, List.setIfInBounds_toArray, List.set_cons_succ, List.set_cons_zero]
                refine wpAnyH_all (rs := [4]) (by kernel_rfl) (by simp) ?_
                intro k hk
                simp only [List.mem_cons, List.mem_nil_iff, or_false] at hk
                subst hk
                obtain ⟨w8, hr8, hp8, ht8⟩ := L7.map.put i.e.pl i.e.pl_lt dV (by omega)
                refine wpOp_run rfl rfl (wp_mapUpd _ _ _ rfl _ _ _ rfl rfl rfl hr8 ?_)
                have L8 := L7.put HD1.out HW1.out HR1.out hp8 ht8
                have g8 : Va q2 dV w8 := (ht8.grown.block q2 g7.lt (fun e => HQM.out (by injection e))).trans g7
                refine ⟨g8, ?_⟩
                simp only [List.getElem_toArray, List.getElem_cons_succ, List.getElem_cons_zero, Act.put, List.setIfInBounds_toArray, List.set_cons_succ, List.set_cons_zero]
                refine wpAnyH_done (by kernel_rfl) ?_ _
                have HL8 := hidOf2 L8
                clear L7 L8 g7 g8 hr8 hp8 ht8 HL6 HI6 GZ
                go_wp2
                go_roundw
                case rel => exact ⟨k + 1, _, by omega, by go_num, HL8, E1, E2⟩
                case measure => simp [intOf]; omega
              · have E1 := hidOf2 (show LC = 8 by rw [HC2.out, HA3.out, if_pos hd])
                have E2 := hidOf2 (show LI = its by rw [HI2.out, if_neg (by rw [HA3.out, if_pos hd]; decide)])
                have de : ((dE : Int) != 0) = true := by simpa using hd
                go_wp2
                go_ret
                exact ⟨ret_int (by rw [E1.out]; rfl), by rw [E2.out]; exact HL6.out.dct, Kp.of_below (HL6.out.all)⟩
          · have da : (i.e.ac != 2) = true := by simpa using ha
            have E1 := hidOf2 (show LC = 4 by rw [HC2.out, HA2.out]; exact if_pos (by simpa using ha))
            have E2 := hidOf2 (show LI = its by rw [HI2.out, if_neg (by rw [HA2.out, if_pos (by simpa using ha)]; decide)])
            clear HA HM HA2 HLY HM3
            generalize i.e.ac = A at *
            go_wp2
            go_ret
            exact ⟨ret_int (by rw [E1.out]; rfl), by rw [E2.out]; exact HL5.out.dct, Kp.of_below HL5.out.all⟩
      · have e1 : k = ws.length := by omega
        subst e1
        have E1 := hidOf2 (show LC = 0 by rw [HC2.out, HA.out, List.drop_of_length_le (by simp)]; rfl)
        have E2 := hidOf2 (show LI = layM m its by rw [HI2.out, if_pos (by rw [HA.out, List.drop_of_length_le (by simp)]; rfl), HM.out, List.take_of_length_le (by simp)])
        have hLy := lay_any HL.out.dct HL.out.map
        have HK0 := hidOf2 (Kp.of_below (bs := its.map Im.b) HL.out.all)
        clear HL HA HM HC2 HI2
        go_wp2_with fail
        refine hLy.mono ?_
        rintro e w4 ⟨rfl, D4, K4⟩
        have HD4 := hidOf2 D4
        have HK4 := hidOf2 (HK0.out.trans K4)
        clear hLy D4 K4
        go_wp2
        go_ret
        exact ⟨ret_int (by rw [E1.out]; rfl), by rw [E2.out]; exact HD4.out, HK4.out⟩
end Go.Proofs.Ytdcogpadioeclaa
namespace Go.Proofs.Ytdcogpadioeclaa
open Go.RowKit Go.Proofs.Ty Go.Sort Go.Lib
set_option linter.unusedVariables false
set_option maxRecDepth 1000000
set_option linter.unusedSimpArgs false
/-- The program's dictionary has ia, the document's ib. -/
structure Sm (w : World) (X D R E : Nat) (ia ib : List Im) (x : World) : Prop where
  dct : Dct D R ia x
  rd : ∃ vL vV, Rd E (ib.map Im.e) vL (ib.map Im.v) vV x
  pair : x.heap[X]? = some (.cells #[.pointer (some ⟨D, 0, none⟩), .pointer (some ⟨E, 0, none⟩)] 54 (0, 0))
  below : Below w.heap.size w x
  base : ∀ b ∈ ia.map Im.b, w.heap.size ≤ b
  bE : w.heap.size ≤ E
  len : ib.length ≤ 1024
section
variable {w : World} {X D R E : Nat} {ia ib : List Im} {x y : World}
theorem Sm.next (h : Sm w X D R E ia ib x) (hb : Below x.heap.size x y) : Sm w X D R E ia ib y :=
  ⟨h.dct.below hb, by obtain ⟨vL, vV, hr⟩ := h.rd; exact ⟨vL, vV, hr.below hb⟩, (hb.block X (Array.getElem?_eq_some_iff.1 h.pair).1).trans h.pair, h.below.trans (hb.mono h.below.size), h.base, h.bE, h.len⟩
theorem Sm.cX (h : Sm w X D R E ia ib x) : x.cell? ⟨X, 0, none⟩ = some (.pointer (some ⟨D, 0, none⟩)) ∧ x.cell? ⟨X, 1, none⟩ = some (.pointer (some ⟨E, 0, none⟩)) := ⟨Lib.cell_of_heap h.pair 0, Lib.cell_of_heap h.pair 1⟩
theorem Rd.kp {L : List En} {vL : Value} {V : List Vl} {vV : Value} {its : List Im} (h : Rd E L vL V vV x) (hd : Dct D R its x) (hK : Kp (its.map Im.b) x y) : Rd E L vL V vV y :=
  ⟨kp_other hd hK h.head (by decide), h.rowL.same hK.size (fun b A fr _ h1 => (kp_other hd hK h1 (by decide)).trans h1.symm), h.rowV.same hK.size (fun b A fr _ h1 => (kp_other hd hK h1 (by decide)).trans h1.symm)⟩
theorem Sm.prog {ia' : List Im} (h : Sm w X D R E ia ib x) (hd : Dct D R ia' y) (hK : Kp (ia.map Im.b) x y) (hb : ia'.map Im.b = ia.map Im.b) : Sm w X D R E ia' ib y :=
  ⟨hd, by obtain ⟨vL, vV, hr⟩ := h.rd; exact ⟨vL, vV, hr.kp h.dct hK⟩, kp_other h.dct hK h.pair (by decide), hK.below h.below h.below.size h.base, by rw [hb]; exact h.base, h.bE, h.len⟩
theorem Sm.hr (h : Sm w X D R E ia ib x) : ∀ b, some E = some b → ∃ cur, x.heap[b]? = some (.cells cur 67 (0, 0)) := by
  obtain ⟨vL, vV, hr⟩ := h.rd
  intro b hb
  injection hb with hb
  subst hb
  exact ⟨_, hr.head⟩
theorem Sm.doc {ib' : List Im} (h : Sm w X D R E ia ib x) (hr : ∃ vL vV, Rd E (ib'.map Im.e) vL (ib'.map Im.v) vV y) (G : x.grownBy y (some E)) (hl : ib'.map Im.b = ib.map Im.b) : Sm w X D R E ia ib' y :=
  ⟨row_dct G h.hr (by decide) (by decide) (by decide) h.dct, hr, row_other G h.hr h.pair (by decide), h.below.grown G h.below.size (fun j hj => by injection hj with hj; subst hj; exact h.bE), h.base, h.bE, by have := congrArg List.length hl; simp at this; rw [this]; exact h.len⟩
theorem Aq.next {q : Nat} {A : A8} (h : Aq q A x) (hb : Below x.heap.size x y) : Aq q A y := (hb.block q (Array.getElem?_eq_some_iff.1 h).1).trans h
end
/-- What an act leaves. -/
def DoesPost (w : World) (X D R E : Nat) (its : List Im) (e : Ending) (x : World) : Prop :=
  e = .returned (.bool true) ∧ ∃ its', Sm w X D R E its' its' x ∧ (∀ i ∈ its', Ok i) ∧ its'.map Im.e = its.map Im.e ∧ its'.map Im.b = its.map Im.b
theorem doesPost {w : World} {X D R E : Nat} {its its' : List Im} {x : World} (h : Sm w X D R E its' its' x) (hok : ∀ i ∈ its', Ok i) (al : Al (its.map Im.e) (its.map Im.b) its') : DoesPost w X D R E its (.returned (.bool true)) x := ⟨rfl, its', h, hok, al.e, al.b⟩
theorem load_rd (x : World) (X k : Nat) (p : Option Addr) (hc : x.cell? ⟨X, k, none⟩ = some (.pointer p)) : (loadVar 52 ⟨X, k, none⟩).run Try.prog x = .ok (.pointer p) x := by
  simp [go_sem, run_underlying Try.underlying52, hc]
theorem exec_eqV {a : Act} {o : Oper} {x y : Operand} (v : Vl) (ho : o.op = .binOp .eql 33 x y 33) (hx : a.eval x = .agg v.arr) (hy : a.eval y = .agg v.arr) (w : World) : (execOp a.eval o).run Try.prog w = .ok (.value (.bool true)) w := by
  have hl := vlEq v v w
  rw [vlB_same] at hl
  have hg : (eqGuard .eql 33 x y (.agg v.arr) (.agg v.arr)).run Try.prog w = .ok () w := run_eqGuard_agg w .eql 33 x y v.arr v.arr guardV
  unfold execOp
  simp only [ho, hx, hy, Sem.run_bind, Sem.run_pure, hg, Result.andThen_ok, hl]
theorem exec_neqV {a : Act} {o : Oper} {x y : Operand} (v : Vl) (ho : o.op = .binOp .neq 33 x y 33) (hx : a.eval x = .agg v.arr) (hy : a.eval y = .agg v.arr) (w : World) : (execOp a.eval o).run Try.prog w = .ok (.value (.bool false)) w := by
  have hl := vlNeq v v w
  rw [vlB_same] at hl
  have hg : (eqGuard .neq 33 x y (.agg v.arr) (.agg v.arr)).run Try.prog w = .ok () w := run_eqGuard_agg w .neq 33 x y v.arr v.arr guardV
  unfold execOp
  simp only [ho, hx, hy, Sem.run_bind, Sem.run_pure, hg, Result.andThen_ok, hl]
  rfl
theorem exec_neqE {a : Act} {o : Oper} {x y : Operand} (e : En) (ho : o.op = .binOp .neq 47 x y 47) (hx : a.eval x = .agg e.arr) (hy : a.eval y = .agg e.arr) (w : World) : (execOp a.eval o).run Try.prog w = .ok (.value (.bool false)) w := by
  have hl := enSame e w
  have hg : (eqGuard .neq 47 x y (.agg e.arr) (.agg e.arr)).run Try.prog w = .ok () w := run_eqGuard_agg w .neq 47 x y e.arr e.arr guardE
  unfold execOp
  simp only [ho, hx, hy, Sem.run_bind, Sem.run_pure, hg, Result.andThen_ok, hl]
theorem convL {w : World} {ops : Array Oper} {rest : List Oper} {Q : Exit → Act → World → Prop} {a : Act} {o : Oper} (x : Operand) (v u : Value) (hgd : Region.wanted o (yielded ops a.tmps) = true) (ho : o.op = .convert 30 9 x) (hx : a.eval x = v) (hr : (convert 30 9 v).run Try.prog w = .ok u w)
    (hh : wpList Try.prog ops Q rest (a.put o.dst u) w) : wpList Try.prog ops Q (o :: rest) a w :=
  BigFrame.wpList_want hgd fun _ hK => wp_conv x ho v u hx hr (hK _ _ hh)
theorem enterPR : ∀ args x, (callFunc 24 args).run Try.prog x = .ok (.enter 24 args) x := fun _ _ => by rfl
theorem enterPM : ∀ args x, (callFunc 26 args).run Try.prog x = .ok (.enter 26 args) x := fun _ _ => by rfl
theorem enterPW : ∀ args x, (callFunc 14 args).run Try.prog x = .ok (.enter 14 args) x := fun _ _ => by rfl
theorem enterPG : ∀ args x, (callFunc 15 args).run Try.prog x = .ok (.enter 15 args) x := fun _ _ => by rfl
theorem enterPS : ∀ args x, (callFunc 20 args).run Try.prog x = .ok (.enter 20 args) x := fun _ _ => by rfl
theorem enterPL : ∀ args x, (callFunc 18 args).run Try.prog x = .ok (.enter 18 args) x := fun _ _ => by rfl
theorem enterPV : ∀ args x, (callFunc 19 args).run Try.prog x = .ok (.enter 19 args) x := fun _ _ => by rfl
theorem enterPE : ∀ args x, (callFunc 35 args).run Try.prog x = .ok (.enter 35 args) x := fun _ _ => by rfl
theorem enterQR : ∀ args x, (callFunc 25 args).run Try.prog x = .ok (.enter 25 args) x := fun _ _ => by rfl
theorem enterQM : ∀ args x, (callFunc 27 args).run Try.prog x = .ok (.enter 27 args) x := fun _ _ => by rfl
theorem enterQW : ∀ args x, (callFunc 28 args).run Try.prog x = .ok (.enter 28 args) x := fun _ _ => by rfl
theorem enterQF : ∀ args x, (callFunc 29 args).run Try.prog x = .ok (.enter 29 args) x := fun _ _ => by rfl
theorem enterQS : ∀ args x, (callFunc 30 args).run Try.prog x = .ok (.enter 30 args) x := fun _ _ => by rfl
theorem enterQL : ∀ args x, (callFunc 33 args).run Try.prog x = .ok (.enter 33 args) x := fun _ _ => by rfl
theorem enterQV : ∀ args x, (callFunc 34 args).run Try.prog x = .ok (.enter 34 args) x := fun _ _ => by rfl
end Go.Proofs.Ytdcogpadioeclaa
namespace Go.Proofs.Ytdcogpadioeclaa
open Go.RowKit Go.Proofs.Ty Go.Sort Go.Lib
set_option linter.unusedVariables false
set_option maxRecDepth 1000000
set_option linter.unusedSimpArgs false
set_option maxHeartbeats 8000000 in
theorem does_0 {w : World} {X D R E : Nat} {its : List Im} {x : World} (h : Sm w X D R E its its x) (hok : ∀ i ∈ its, Ok i) (A : A8) (hk : A.kind = 0) (hBy : Bytes w A.bv A.bl) (hCp : Cp A.bv) (hbl : A.bl.length ≤ 140737488351232) :
    Calls Try.prog 10 #[.pointer (some ⟨X, 0, none⟩), .agg A.arr] x (DoesPost w X D R E its) := by
  obtain ⟨aob, cpb, hbv⟩ := bytes_shape hBy
  obtain ⟨q, hq⟩ : ∃ q, x.heap.size = q := ⟨_, rfl⟩
  have a0 : Aq q A (x.alloc (.cells A.arr 35)) := hq ▸ heap_alloc_new x _
  have b0 : Below x.heap.size x (x.alloc (.cells A.arr 35)) := (Below.refl _ _).alloc (Nat.le_refl _) _
  have HM0 := hidOf2 (h.next b0)
  have HBY := hidOf2 hBy
  have HCP := hidOf2 hCp
  have HAP := hidOf2 h.dct.apart
  have HLN := hidOf2 h.len
  have HOK := hidOf2 hok
  have HAc : Hid (∀ y, Aq q A y → y.cell? ⟨q, 1, none⟩ = some (.int .u16 A.ix) ∧ y.cell? ⟨q, 2, none⟩ = some (.int .u8 A.sb) ∧ y.cell? ⟨q, 3, none⟩ = some (.slice aob A.bl.length cpb)) := fun y h => by
    have h2 := Aq.c h
    rw [hbv] at h2
    exact h2
  have HK0 : Hid (∀ y, Aq q A y → y.cell? ⟨q, 0, none⟩ = some (.int .i64 A.kind)) := fun y h => Lib.cell_of_heap h 0
  clear h hok b0 hCp
  go_enter Try.func10, Try.ntmps10
  go_upto_region 1 with fail
  generalize x.alloc (.cells A.arr 35) = w0 at *
  try simp only [hq]
  have bB : Below w0.heap.size w0 (w0.alloc (.cells #[] 5)) := (Below.refl _ _).alloc (Nat.le_refl _) _
  have c3 := (HAc.out _ (a0.next bB)).2.2
  have hown := own_empty w0
  have hBx := hBy.below ((HM0.out.next bB).below)
  rw [hbv] at hBx
  have hl0 : ([] : List UInt8).length + A.bl.length ≤ 140737488355328 := by simp; omega
  go_upto_region 2 with (first | (refine append_bytes2 rfl _ _ rfl w0.heap.size _ [] rfl hown _ A.bl rfl hBx hl0 bB.size ?_; intro v5 w1 P5 G5 _; rw [List.nil_append] at P5; have B1 : Below w0.heap.size w0 w1 := bB.grown G5 bB.size (own_lt hown); have HT5 := hidOf2 (bytes_of_own P5); have HC5 := hidOf2 (own_cp P5); obtain ⟨a5, c5, hv5⟩ := own_shape5 P5; subst hv5; have HM1 := hidOf2 (HM0.out.next B1); have HA1 := hidOf2 (a0.next B1); clear P5 G5 B1 hown hBx c3 bB a0 HM0 hl0))
  clear hBy
  rw [hbv] at HBY HCP
  have k0 := HK0.out _ HA1.out
  rw [hk] at k0
  have M4d := HM1.out.next (bdr (Below.refl _ w1) 1)
  have A4d : Aq q A w1.drew := HA1.out.next (bdr (Below.refl _ w1) 1)
  have M4e : Sm w X D R E its its w1.drew := M4d
  have S4 := (show (fun y => y.cell? ⟨X, 0, none⟩ = some (.pointer (some ⟨D, 0, none⟩)) ∧ y.cell? ⟨X, 1, none⟩ = some (.pointer (some ⟨E, 0, none⟩)) ∧ y.cell? ⟨q, 1, none⟩ = some (.int .u16 A.ix) ∧ y.cell? ⟨q, 2, none⟩ = some (.int .u8 A.sb) ∧ y.cell? ⟨q, 3, none⟩ = some (.slice aob A.bl.length cpb)) w1.drew from ⟨M4d.cX.1, M4d.cX.2, (HAc.out _ A4d).1, (HAc.out _ A4d).2.1, (HAc.out _ A4d).2.2⟩)
  go_upto_region 4 with fail
  refine wp_region_held (S := fun y => y.cell? ⟨X, 0, none⟩ = some (.pointer (some ⟨D, 0, none⟩)) ∧ y.cell? ⟨X, 1, none⟩ = some (.pointer (some ⟨E, 0, none⟩)) ∧ y.cell? ⟨q, 1, none⟩ = some (.int .u16 A.ix) ∧ y.cell? ⟨q, 2, none⟩ = some (.int .u8 A.sb) ∧ y.cell? ⟨q, 3, none⟩ = some (.slice aob A.bl.length cpb)) (by kernel_rfl) ?_
  change wpAnyH _ _ _ _ _ _ _ _ w1.drew
  refine wpAnyH_take (i := 0) (v := (.pointer (some ⟨X, 0, none⟩))) rfl (by kernel_rfl) (by kernel_rfl) (by kernel_rfl) (fun _ _ _ h => h) (.inl ⟨rfl, fun _ hS => rfl⟩) S4 ?_
  simp only [List.getElem_toArray, List.getElem_cons_succ, List.getElem_cons_zero, Act.put, List.setIfInBounds_toArray, List.set_cons_succ, List.set_cons_zero]
  refine wpAnyH_take (i := 1) (v := (.pointer (some ⟨X, 0, none⟩))) rfl (by kernel_rfl) (by kernel_rfl) (by kernel_rfl) (fun _ _ _ h => h) (.inl ⟨rfl, fun _ hS => by simp [execOp, go_sem, Act.eval]⟩) S4 ?_
  simp only [List.getElem_toArray, List.getElem_cons_succ, List.getElem_cons_zero, Act.put, List.setIfInBounds_toArray, List.set_cons_succ, List.set_cons_zero]
  refine wpAnyH_take (i := 2) (v := (.pointer (some ⟨X, 0, none⟩))) rfl (by kernel_rfl) (by kernel_rfl) (by kernel_rfl) (fun _ _ _ h => h) (.inl ⟨rfl, fun _ hS => by simp [execOp, go_sem, Act.eval]⟩) S4 ?_
  simp only [List.getElem_toArray, List.getElem_cons_succ, List.getElem_cons_zero, Act.put, List.setIfInBounds_toArray, List.set_cons_succ, List.set_cons_zero]
  refine wpAnyH_take (i := 3) (v := (.pointer (some ⟨D, 0, none⟩))) rfl (by kernel_rfl) (by kernel_rfl) (by kernel_rfl) (fun _ _ _ h => h) (.inl ⟨rfl, fun _ hS => exec_load rfl rfl (load_pd _ _ _ _ hS.1)⟩) S4 ?_
  simp only [List.getElem_toArray, List.getElem_cons_succ, List.getElem_cons_zero, Act.put, List.setIfInBounds_toArray, List.set_cons_succ, List.set_cons_zero]
  refine wpAnyH_take (i := 4) (v := (.pointer (some ⟨q, 1, none⟩))) rfl (by kernel_rfl) (by kernel_rfl) (by kernel_rfl) (fun _ _ _ h => h) (.inl ⟨rfl, fun _ hS => by simp [execOp, go_sem, Act.eval]⟩) S4 ?_
  simp only [List.getElem_toArray, List.getElem_cons_succ, List.getElem_cons_zero, Act.put, List.setIfInBounds_toArray, List.set_cons_succ, List.set_cons_zero]
  refine wpAnyH_take (i := 5) (v := (.int .u16 A.ix)) rfl (by kernel_rfl) (by kernel_rfl) (by kernel_rfl) (fun _ _ _ h => h) (.inl ⟨rfl, fun _ hS => exec_load rfl rfl (load_u16 _ _ _ _ hS.2.2.1)⟩) S4 ?_
  simp only [List.getElem_toArray, List.getElem_cons_succ, List.getElem_cons_zero, Act.put, List.setIfInBounds_toArray, List.set_cons_succ, List.set_cons_zero]
  refine wpAnyH_take (i := 6) (v := (.pointer (some ⟨q, 2, none⟩))) rfl (by kernel_rfl) (by kernel_rfl) (by kernel_rfl) (fun _ _ _ h => h) (.inl ⟨rfl, fun _ hS => by simp [execOp, go_sem, Act.eval]⟩) S4 ?_
  simp only [List.getElem_toArray, List.getElem_cons_succ, List.getElem_cons_zero, Act.put, List.setIfInBounds_toArray, List.set_cons_succ, List.set_cons_zero]
  refine wpAnyH_take (i := 7) (v := (.int .u8 A.sb)) rfl (by kernel_rfl) (by kernel_rfl) (by kernel_rfl) (fun _ _ _ h => h) (.inl ⟨rfl, fun _ hS => exec_load rfl rfl (load_u8 _ _ _ _ hS.2.2.2.1)⟩) S4 ?_
  simp only [List.getElem_toArray, List.getElem_cons_succ, List.getElem_cons_zero, Act.put, List.setIfInBounds_toArray, List.set_cons_succ, List.set_cons_zero]
  refine wpAnyH_all (rs := [8]) (by kernel_rfl) (by simp) ?_
  intro k hk
  simp only [List.mem_cons, List.mem_nil_iff, or_false] at hk
  subst hk
  refine wpOp_run rfl rfl (wp_call_fn 24 #[.pointer (some ⟨D, 0, none⟩), .int .u16 A.ix, .int .u8 A.sb] (by simp [execOp, go_sem, Act.eval, resolve, invoke, enterPR]) ?_)
  refine (Read_any M4e.dct A.ix A.sb A.hix A.hsb).mono ?_
  rintro e u1 ⟨x1, rfl, hR1, b1⟩
  obtain ⟨a6, c6, hx1⟩ := bytes_shape hR1
  subst hx1
  have M4f := M4e.next b1
  have A4f := A4d.next b1
  refine ⟨⟨M4f.cX.1, M4f.cX.2, (HAc.out _ A4f).1, (HAc.out _ A4f).2.1, (HAc.out _ A4f).2.2⟩, ?_⟩
  simp only [List.getElem_toArray, List.getElem_cons_succ, List.getElem_cons_zero, Act.put, List.setIfInBounds_toArray, List.set_cons_succ, List.set_cons_zero]
  refine wpAnyH_take (i := 9) (v := (.tuple #[.slice a6 (rdL its A.ix A.sb).length c6, .int .u32 (rdC its A.ix A.sb)])) rfl (by kernel_rfl) (by kernel_rfl) (by kernel_rfl) (fun _ _ _ h => h) (.inl ⟨rfl, fun _ hS => rfl⟩) ⟨M4f.cX.1, M4f.cX.2, (HAc.out _ A4f).1, (HAc.out _ A4f).2.1, (HAc.out _ A4f).2.2⟩ ?_
  simp only [List.getElem_toArray, List.getElem_cons_succ, List.getElem_cons_zero, Act.put, List.setIfInBounds_toArray, List.set_cons_succ, List.set_cons_zero]
  refine wpAnyH_take (i := 10) (v := (.slice a6 (rdL its A.ix A.sb).length c6)) rfl (by kernel_rfl) (by kernel_rfl) (by kernel_rfl) (fun _ _ _ h => h) (.inl ⟨rfl, fun _ hS => by simp [execOp, go_sem, Act.eval]⟩) ⟨M4f.cX.1, M4f.cX.2, (HAc.out _ A4f).1, (HAc.out _ A4f).2.1, (HAc.out _ A4f).2.2⟩ ?_
  simp only [List.getElem_toArray, List.getElem_cons_succ, List.getElem_cons_zero, Act.put, List.setIfInBounds_toArray, List.set_cons_succ, List.set_cons_zero]
  refine wpAnyH_take (i := 11) (v := (.int .u32 (rdC its A.ix A.sb))) rfl (by kernel_rfl) (by kernel_rfl) (by kernel_rfl) (fun _ _ _ h => h) (.inl ⟨rfl, fun _ hS => by simp [execOp, go_sem, Act.eval]⟩) ⟨M4f.cX.1, M4f.cX.2, (HAc.out _ A4f).1, (HAc.out _ A4f).2.1, (HAc.out _ A4f).2.2⟩ ?_
  simp only [List.getElem_toArray, List.getElem_cons_succ, List.getElem_cons_zero, Act.put, List.setIfInBounds_toArray, List.set_cons_succ, List.set_cons_zero]
  refine wpAnyH_take (i := 12) (v := (.slice a6 (rdL its A.ix A.sb).length c6)) rfl (by kernel_rfl) (by kernel_rfl) (by kernel_rfl) (fun _ _ _ h => h) (.inl ⟨rfl, fun _ hS => rfl⟩) ⟨M4f.cX.1, M4f.cX.2, (HAc.out _ A4f).1, (HAc.out _ A4f).2.1, (HAc.out _ A4f).2.2⟩ ?_
  simp only [List.getElem_toArray, List.getElem_cons_succ, List.getElem_cons_zero, Act.put, List.setIfInBounds_toArray, List.set_cons_succ, List.set_cons_zero]
  refine wpAnyH_take (i := 13) (v := (.int .u32 (rdC its A.ix A.sb))) rfl (by kernel_rfl) (by kernel_rfl) (by kernel_rfl) (fun _ _ _ h => h) (.inl ⟨rfl, fun _ hS => rfl⟩) ⟨M4f.cX.1, M4f.cX.2, (HAc.out _ A4f).1, (HAc.out _ A4f).2.1, (HAc.out _ A4f).2.2⟩ ?_
  simp only [List.getElem_toArray, List.getElem_cons_succ, List.getElem_cons_zero, Act.put, List.setIfInBounds_toArray, List.set_cons_succ, List.set_cons_zero]
  refine wpAnyH_done (by kernel_rfl) ?_ _
  have HR1 := hidOf2 hR1
  have M2 := M4f
  have A2 := A4f
  clear M4d M4e M4f A4d A4f hR1 S4 b1
  generalize u1 = w2 at *
  have M5d := M2.next (bdr (Below.refl _ w2) 1)
  have A5d : Aq q A w2.drew := A2.next (bdr (Below.refl _ w2) 1)
  have M5e : Sm w X D R E its its w2.drew := M5d
  have S5 := (show (fun y => y.cell? ⟨X, 0, none⟩ = some (.pointer (some ⟨D, 0, none⟩)) ∧ y.cell? ⟨X, 1, none⟩ = some (.pointer (some ⟨E, 0, none⟩)) ∧ y.cell? ⟨q, 1, none⟩ = some (.int .u16 A.ix) ∧ y.cell? ⟨q, 2, none⟩ = some (.int .u8 A.sb) ∧ y.cell? ⟨q, 3, none⟩ = some (.slice aob A.bl.length cpb)) w2.drew from ⟨M5d.cX.1, M5d.cX.2, (HAc.out _ A5d).1, (HAc.out _ A5d).2.1, (HAc.out _ A5d).2.2⟩)
  go_upto_region 5 with fail
  refine wp_region_held (S := fun y => y.cell? ⟨X, 0, none⟩ = some (.pointer (some ⟨D, 0, none⟩)) ∧ y.cell? ⟨X, 1, none⟩ = some (.pointer (some ⟨E, 0, none⟩)) ∧ y.cell? ⟨q, 1, none⟩ = some (.int .u16 A.ix) ∧ y.cell? ⟨q, 2, none⟩ = some (.int .u8 A.sb) ∧ y.cell? ⟨q, 3, none⟩ = some (.slice aob A.bl.length cpb)) (by kernel_rfl) ?_
  change wpAnyH _ _ _ _ _ _ _ _ w2.drew
  refine wpAnyH_take (i := 0) (v := (.pointer (some ⟨X, 0, none⟩))) rfl (by kernel_rfl) (by kernel_rfl) (by kernel_rfl) (fun _ _ _ h => h) (.inl ⟨rfl, fun _ hS => rfl⟩) S5 ?_
  simp only [List.getElem_toArray, List.getElem_cons_succ, List.getElem_cons_zero, Act.put, List.setIfInBounds_toArray, List.set_cons_succ, List.set_cons_zero]
  refine wpAnyH_take (i := 1) (v := (.pointer (some ⟨X, 0, none⟩))) rfl (by kernel_rfl) (by kernel_rfl) (by kernel_rfl) (fun _ _ _ h => h) (.inl ⟨rfl, fun _ hS => by simp [execOp, go_sem, Act.eval]⟩) S5 ?_
  simp only [List.getElem_toArray, List.getElem_cons_succ, List.getElem_cons_zero, Act.put, List.setIfInBounds_toArray, List.set_cons_succ, List.set_cons_zero]
  refine wpAnyH_take (i := 2) (v := (.pointer (some ⟨X, 1, none⟩))) rfl (by kernel_rfl) (by kernel_rfl) (by kernel_rfl) (fun _ _ _ h => h) (.inl ⟨rfl, fun _ hS => by simp [execOp, go_sem, Act.eval]⟩) S5 ?_
  simp only [List.getElem_toArray, List.getElem_cons_succ, List.getElem_cons_zero, Act.put, List.setIfInBounds_toArray, List.set_cons_succ, List.set_cons_zero]
  refine wpAnyH_take (i := 3) (v := (.pointer (some ⟨E, 0, none⟩))) rfl (by kernel_rfl) (by kernel_rfl) (by kernel_rfl) (fun _ _ _ h => h) (.inl ⟨rfl, fun _ hS => exec_load rfl rfl (load_rd _ _ _ _ hS.2.1)⟩) S5 ?_
  simp only [List.getElem_toArray, List.getElem_cons_succ, List.getElem_cons_zero, Act.put, List.setIfInBounds_toArray, List.set_cons_succ, List.set_cons_zero]
  refine wpAnyH_take (i := 4) (v := (.pointer (some ⟨q, 1, none⟩))) rfl (by kernel_rfl) (by kernel_rfl) (by kernel_rfl) (fun _ _ _ h => h) (.inl ⟨rfl, fun _ hS => by simp [execOp, go_sem, Act.eval]⟩) S5 ?_
  simp only [List.getElem_toArray, List.getElem_cons_succ, List.getElem_cons_zero, Act.put, List.setIfInBounds_toArray, List.set_cons_succ, List.set_cons_zero]
  refine wpAnyH_take (i := 5) (v := (.int .u16 A.ix)) rfl (by kernel_rfl) (by kernel_rfl) (by kernel_rfl) (fun _ _ _ h => h) (.inl ⟨rfl, fun _ hS => exec_load rfl rfl (load_u16 _ _ _ _ hS.2.2.1)⟩) S5 ?_
  simp only [List.getElem_toArray, List.getElem_cons_succ, List.getElem_cons_zero, Act.put, List.setIfInBounds_toArray, List.set_cons_succ, List.set_cons_zero]
  refine wpAnyH_take (i := 6) (v := (.pointer (some ⟨q, 2, none⟩))) rfl (by kernel_rfl) (by kernel_rfl) (by kernel_rfl) (fun _ _ _ h => h) (.inl ⟨rfl, fun _ hS => by simp [execOp, go_sem, Act.eval]⟩) S5 ?_
  simp only [List.getElem_toArray, List.getElem_cons_succ, List.getElem_cons_zero, Act.put, List.setIfInBounds_toArray, List.set_cons_succ, List.set_cons_zero]
  refine wpAnyH_take (i := 7) (v := (.int .u8 A.sb)) rfl (by kernel_rfl) (by kernel_rfl) (by kernel_rfl) (fun _ _ _ h => h) (.inl ⟨rfl, fun _ hS => exec_load rfl rfl (load_u8 _ _ _ _ hS.2.2.2.1)⟩) S5 ?_
  simp only [List.getElem_toArray, List.getElem_cons_succ, List.getElem_cons_zero, Act.put, List.setIfInBounds_toArray, List.set_cons_succ, List.set_cons_zero]
  refine wpAnyH_all (rs := [8]) (by kernel_rfl) (by simp) ?_
  intro k hk
  simp only [List.mem_cons, List.mem_nil_iff, or_false] at hk
  subst hk
  refine wpOp_run rfl rfl (wp_call_fn 25 #[.pointer (some ⟨E, 0, none⟩), .int .u16 A.ix, .int .u8 A.sb] (by simp [execOp, go_sem, Act.eval, resolve, invoke, enterQR]) ?_)
  obtain ⟨vL, vV, hrd⟩ := M5e.rd
  refine (QRead_any hrd HLN.out A.ix A.sb).mono ?_
  rintro e u2 ⟨x2, rfl, hR2, b2⟩
  obtain ⟨a7, c7, hx2⟩ := bytes_shape hR2
  subst hx2
  have M5f := M5e.next b2
  have A5f := A5d.next b2
  have hR1b := (HR1.out.below (bdr (Below.refl _ w2) 1)).below b2
  refine ⟨⟨M5f.cX.1, M5f.cX.2, (HAc.out _ A5f).1, (HAc.out _ A5f).2.1, (HAc.out _ A5f).2.2⟩, ?_⟩
  simp only [List.getElem_toArray, List.getElem_cons_succ, List.getElem_cons_zero, Act.put, List.setIfInBounds_toArray, List.set_cons_succ, List.set_cons_zero]
  refine wpAnyH_take (i := 9) (v := (.tuple #[.slice a7 (rdL its A.ix A.sb).length c7, .int .u32 (rdC its A.ix A.sb)])) rfl (by kernel_rfl) (by kernel_rfl) (by kernel_rfl) (fun _ _ _ h => h) (.inl ⟨rfl, fun _ hS => rfl⟩) ⟨M5f.cX.1, M5f.cX.2, (HAc.out _ A5f).1, (HAc.out _ A5f).2.1, (HAc.out _ A5f).2.2⟩ ?_
  simp only [List.getElem_toArray, List.getElem_cons_succ, List.getElem_cons_zero, Act.put, List.setIfInBounds_toArray, List.set_cons_succ, List.set_cons_zero]
  refine wpAnyH_take (i := 10) (v := (.slice a7 (rdL its A.ix A.sb).length c7)) rfl (by kernel_rfl) (by kernel_rfl) (by kernel_rfl) (fun _ _ _ h => h) (.inl ⟨rfl, fun _ hS => by simp [execOp, go_sem, Act.eval]⟩) ⟨M5f.cX.1, M5f.cX.2, (HAc.out _ A5f).1, (HAc.out _ A5f).2.1, (HAc.out _ A5f).2.2⟩ ?_
  simp only [List.getElem_toArray, List.getElem_cons_succ, List.getElem_cons_zero, Act.put, List.setIfInBounds_toArray, List.set_cons_succ, List.set_cons_zero]
  refine wpAnyH_take (i := 11) (v := (.int .u32 (rdC its A.ix A.sb))) rfl (by kernel_rfl) (by kernel_rfl) (by kernel_rfl) (fun _ _ _ h => h) (.inl ⟨rfl, fun _ hS => by simp [execOp, go_sem, Act.eval]⟩) ⟨M5f.cX.1, M5f.cX.2, (HAc.out _ A5f).1, (HAc.out _ A5f).2.1, (HAc.out _ A5f).2.2⟩ ?_
  simp only [List.getElem_toArray, List.getElem_cons_succ, List.getElem_cons_zero, Act.put, List.setIfInBounds_toArray, List.set_cons_succ, List.set_cons_zero]
  refine wpAnyH_take (i := 12) (v := (.slice a7 (rdL its A.ix A.sb).length c7)) rfl (by kernel_rfl) (by kernel_rfl) (by kernel_rfl) (fun _ _ _ h => h) (.inl ⟨rfl, fun _ hS => rfl⟩) ⟨M5f.cX.1, M5f.cX.2, (HAc.out _ A5f).1, (HAc.out _ A5f).2.1, (HAc.out _ A5f).2.2⟩ ?_
  simp only [List.getElem_toArray, List.getElem_cons_succ, List.getElem_cons_zero, Act.put, List.setIfInBounds_toArray, List.set_cons_succ, List.set_cons_zero]
  refine wpAnyH_take (i := 13) (v := (.int .u32 (rdC its A.ix A.sb))) rfl (by kernel_rfl) (by kernel_rfl) (by kernel_rfl) (fun _ _ _ h => h) (.inl ⟨rfl, fun _ hS => rfl⟩) ⟨M5f.cX.1, M5f.cX.2, (HAc.out _ A5f).1, (HAc.out _ A5f).2.1, (HAc.out _ A5f).2.2⟩ ?_
  simp only [List.getElem_toArray, List.getElem_cons_succ, List.getElem_cons_zero, Act.put, List.setIfInBounds_toArray, List.set_cons_succ, List.set_cons_zero]
  refine wpAnyH_done (by kernel_rfl) ?_ _
  have HF := hidOf2 (doesPost M5f HOK.out ⟨rfl, rfl⟩)
  have hT1 := hR1b.text
  have hT2 := hR2.text
  clear M5d M5e M5f A5d A5f S5 hR1b hR2 HR1
  generalize rdC its A.ix A.sb = RC at *
  generalize rdL its A.ix A.sb = RL at *
  go_wp2_with (first | (refine convL _ _ _ rfl rfl rfl hT1 ?_) | (refine convL _ _ _ rfl rfl rfl hT2 ?_))
  go_ret
  exact HF.out
end Go.Proofs.Ytdcogpadioeclaa
namespace Go.Proofs.Ytdcogpadioeclaa
open Go.RowKit Go.Proofs.Ty Go.Sort Go.Lib
set_option linter.unusedVariables false
set_option maxRecDepth 1000000
set_option linter.unusedSimpArgs false
set_option maxHeartbeats 8000000 in
theorem does_1 {w : World} {X D R E : Nat} {its : List Im} {x : World} (h : Sm w X D R E its its x) (hok : ∀ i ∈ its, Ok i) (A : A8) (hk : A.kind = 1) (hBy : Bytes w A.bv A.bl) (hCp : Cp A.bv) (hbl : A.bl.length ≤ 140737488351232) :
    Calls Try.prog 10 #[.pointer (some ⟨X, 0, none⟩), .agg A.arr] x (DoesPost w X D R E its) := by
  obtain ⟨aob, cpb, hbv⟩ := bytes_shape hBy
  obtain ⟨q, hq⟩ : ∃ q, x.heap.size = q := ⟨_, rfl⟩
  have a0 : Aq q A (x.alloc (.cells A.arr 35)) := hq ▸ heap_alloc_new x _
  have b0 : Below x.heap.size x (x.alloc (.cells A.arr 35)) := (Below.refl _ _).alloc (Nat.le_refl _) _
  have HM0 := hidOf2 (h.next b0)
  have HBY := hidOf2 hBy
  have HCP := hidOf2 hCp
  have HAP := hidOf2 h.dct.apart
  have HLN := hidOf2 h.len
  have HOK := hidOf2 hok
  have HAc : Hid (∀ y, Aq q A y → y.cell? ⟨q, 1, none⟩ = some (.int .u16 A.ix) ∧ y.cell? ⟨q, 2, none⟩ = some (.int .u8 A.sb) ∧ y.cell? ⟨q, 3, none⟩ = some (.slice aob A.bl.length cpb)) := fun y h => by
    have h2 := Aq.c h
    rw [hbv] at h2
    exact h2
  have HK0 : Hid (∀ y, Aq q A y → y.cell? ⟨q, 0, none⟩ = some (.int .i64 A.kind)) := fun y h => Lib.cell_of_heap h 0
  clear h hok b0 hCp
  go_enter Try.func10, Try.ntmps10
  go_upto_region 1 with fail
  generalize x.alloc (.cells A.arr 35) = w0 at *
  try simp only [hq]
  have bB : Below w0.heap.size w0 (w0.alloc (.cells #[] 5)) := (Below.refl _ _).alloc (Nat.le_refl _) _
  have c3 := (HAc.out _ (a0.next bB)).2.2
  have hown := own_empty w0
  have hBx := hBy.below ((HM0.out.next bB).below)
  rw [hbv] at hBx
  have hl0 : ([] : List UInt8).length + A.bl.length ≤ 140737488355328 := by simp; omega
  go_upto_region 2 with (first | (refine append_bytes2 rfl _ _ rfl w0.heap.size _ [] rfl hown _ A.bl rfl hBx hl0 bB.size ?_; intro v5 w1 P5 G5 _; rw [List.nil_append] at P5; have B1 : Below w0.heap.size w0 w1 := bB.grown G5 bB.size (own_lt hown); have HT5 := hidOf2 (bytes_of_own P5); have HC5 := hidOf2 (own_cp P5); obtain ⟨a5, c5, hv5⟩ := own_shape5 P5; subst hv5; have HM1 := hidOf2 (HM0.out.next B1); have HA1 := hidOf2 (a0.next B1); clear P5 G5 B1 hown hBx c3 bB a0 HM0 hl0))
  clear hBy
  rw [hbv] at HBY HCP
  have k0 := HK0.out _ HA1.out
  rw [hk] at k0
  have T8 := HT5.out.below (bdr (Below.refl _ w1) 1)
  have AL := hidOf2 (Al.wrt (⟨rfl, rfl⟩ : Al (its.map Im.e) (its.map Im.b) its) A.ix A.sb A.bl)
  have M8d := HM1.out.next (bdr (Below.refl _ w1) 1)
  have A8d : Aq q A w1.drew := HA1.out.next (bdr (Below.refl _ w1) 1)
  have M8e : Sm w X D R E its its w1.drew := M8d
  have S8 := (show (fun y => y.cell? ⟨X, 0, none⟩ = some (.pointer (some ⟨D, 0, none⟩)) ∧ y.cell? ⟨X, 1, none⟩ = some (.pointer (some ⟨E, 0, none⟩)) ∧ y.cell? ⟨q, 1, none⟩ = some (.int .u16 A.ix) ∧ y.cell? ⟨q, 2, none⟩ = some (.int .u8 A.sb) ∧ y.cell? ⟨q, 3, none⟩ = some (.slice aob A.bl.length cpb)) w1.drew from ⟨M8d.cX.1, M8d.cX.2, (HAc.out _ A8d).1, (HAc.out _ A8d).2.1, (HAc.out _ A8d).2.2⟩)
  go_upto_region 8 with fail
  refine wp_region_held (S := fun y => y.cell? ⟨X, 0, none⟩ = some (.pointer (some ⟨D, 0, none⟩)) ∧ y.cell? ⟨X, 1, none⟩ = some (.pointer (some ⟨E, 0, none⟩)) ∧ y.cell? ⟨q, 1, none⟩ = some (.int .u16 A.ix) ∧ y.cell? ⟨q, 2, none⟩ = some (.int .u8 A.sb) ∧ y.cell? ⟨q, 3, none⟩ = some (.slice aob A.bl.length cpb)) (by kernel_rfl) ?_
  change wpAnyH _ _ _ _ _ _ _ _ w1.drew
  refine wpAnyH_take (i := 0) (v := (.pointer (some ⟨X, 0, none⟩))) rfl (by kernel_rfl) (by kernel_rfl) (by kernel_rfl) (fun _ _ _ h => h) (.inl ⟨rfl, fun _ hS => rfl⟩) S8 ?_
  simp only [List.getElem_toArray, List.getElem_cons_succ, List.getElem_cons_zero, Act.put, List.setIfInBounds_toArray, List.set_cons_succ, List.set_cons_zero]
  refine wpAnyH_take (i := 1) (v := (.pointer (some ⟨X, 0, none⟩))) rfl (by kernel_rfl) (by kernel_rfl) (by kernel_rfl) (fun _ _ _ h => h) (.inl ⟨rfl, fun _ hS => by simp [execOp, go_sem, Act.eval]⟩) S8 ?_
  simp only [List.getElem_toArray, List.getElem_cons_succ, List.getElem_cons_zero, Act.put, List.setIfInBounds_toArray, List.set_cons_succ, List.set_cons_zero]
  refine wpAnyH_take (i := 2) (v := (.pointer (some ⟨X, 0, none⟩))) rfl (by kernel_rfl) (by kernel_rfl) (by kernel_rfl) (fun _ _ _ h => h) (.inl ⟨rfl, fun _ hS => by simp [execOp, go_sem, Act.eval]⟩) S8 ?_
  simp only [List.getElem_toArray, List.getElem_cons_succ, List.getElem_cons_zero, Act.put, List.setIfInBounds_toArray, List.set_cons_succ, List.set_cons_zero]
  refine wpAnyH_take (i := 3) (v := (.pointer (some ⟨D, 0, none⟩))) rfl (by kernel_rfl) (by kernel_rfl) (by kernel_rfl) (fun _ _ _ h => h) (.inl ⟨rfl, fun _ hS => exec_load rfl rfl (load_pd _ _ _ _ hS.1)⟩) S8 ?_
  simp only [List.getElem_toArray, List.getElem_cons_succ, List.getElem_cons_zero, Act.put, List.setIfInBounds_toArray, List.set_cons_succ, List.set_cons_zero]
  refine wpAnyH_take (i := 4) (v := (.pointer (some ⟨q, 1, none⟩))) rfl (by kernel_rfl) (by kernel_rfl) (by kernel_rfl) (fun _ _ _ h => h) (.inl ⟨rfl, fun _ hS => by simp [execOp, go_sem, Act.eval]⟩) S8 ?_
  simp only [List.getElem_toArray, List.getElem_cons_succ, List.getElem_cons_zero, Act.put, List.setIfInBounds_toArray, List.set_cons_succ, List.set_cons_zero]
  refine wpAnyH_take (i := 5) (v := (.int .u16 A.ix)) rfl (by kernel_rfl) (by kernel_rfl) (by kernel_rfl) (fun _ _ _ h => h) (.inl ⟨rfl, fun _ hS => exec_load rfl rfl (load_u16 _ _ _ _ hS.2.2.1)⟩) S8 ?_
  simp only [List.getElem_toArray, List.getElem_cons_succ, List.getElem_cons_zero, Act.put, List.setIfInBounds_toArray, List.set_cons_succ, List.set_cons_zero]
  refine wpAnyH_take (i := 6) (v := (.pointer (some ⟨q, 2, none⟩))) rfl (by kernel_rfl) (by kernel_rfl) (by kernel_rfl) (fun _ _ _ h => h) (.inl ⟨rfl, fun _ hS => by simp [execOp, go_sem, Act.eval]⟩) S8 ?_
  simp only [List.getElem_toArray, List.getElem_cons_succ, List.getElem_cons_zero, Act.put, List.setIfInBounds_toArray, List.set_cons_succ, List.set_cons_zero]
  refine wpAnyH_take (i := 7) (v := (.int .u8 A.sb)) rfl (by kernel_rfl) (by kernel_rfl) (by kernel_rfl) (fun _ _ _ h => h) (.inl ⟨rfl, fun _ hS => exec_load rfl rfl (load_u8 _ _ _ _ hS.2.2.2.1)⟩) S8 ?_
  simp only [List.getElem_toArray, List.getElem_cons_succ, List.getElem_cons_zero, Act.put, List.setIfInBounds_toArray, List.set_cons_succ, List.set_cons_zero]
  refine wpAnyH_take (i := 8) (v := (.slice a5 A.bl.length c5)) rfl (by kernel_rfl) (by kernel_rfl) (by kernel_rfl) (fun _ _ _ h => h) (.inl ⟨rfl, fun _ hS => rfl⟩) S8 ?_
  simp only [List.getElem_toArray, List.getElem_cons_succ, List.getElem_cons_zero, Act.put, List.setIfInBounds_toArray, List.set_cons_succ, List.set_cons_zero]
  refine wpAnyH_take (i := 10) (v := (.pointer (some ⟨X, 0, none⟩))) rfl (by kernel_rfl) (by kernel_rfl) (by kernel_rfl) (fun _ _ _ h => h) (.inl ⟨rfl, fun _ hS => rfl⟩) S8 ?_
  simp only [List.getElem_toArray, List.getElem_cons_succ, List.getElem_cons_zero, Act.put, List.setIfInBounds_toArray, List.set_cons_succ, List.set_cons_zero]
  refine wpAnyH_take (i := 11) (v := (.pointer (some ⟨X, 0, none⟩))) rfl (by kernel_rfl) (by kernel_rfl) (by kernel_rfl) (fun _ _ _ h => h) (.inl ⟨rfl, fun _ hS => by simp [execOp, go_sem, Act.eval]⟩) S8 ?_
  simp only [List.getElem_toArray, List.getElem_cons_succ, List.getElem_cons_zero, Act.put, List.setIfInBounds_toArray, List.set_cons_succ, List.set_cons_zero]
  refine wpAnyH_take (i := 12) (v := (.pointer (some ⟨X, 1, none⟩))) rfl (by kernel_rfl) (by kernel_rfl) (by kernel_rfl) (fun _ _ _ h => h) (.inl ⟨rfl, fun _ hS => by simp [execOp, go_sem, Act.eval]⟩) S8 ?_
  simp only [List.getElem_toArray, List.getElem_cons_succ, List.getElem_cons_zero, Act.put, List.setIfInBounds_toArray, List.set_cons_succ, List.set_cons_zero]
  refine wpAnyH_take (i := 13) (v := (.pointer (some ⟨E, 0, none⟩))) rfl (by kernel_rfl) (by kernel_rfl) (by kernel_rfl) (fun _ _ _ h => h) (.inl ⟨rfl, fun _ hS => exec_load rfl rfl (load_rd _ _ _ _ hS.2.1)⟩) S8 ?_
  simp only [List.getElem_toArray, List.getElem_cons_succ, List.getElem_cons_zero, Act.put, List.setIfInBounds_toArray, List.set_cons_succ, List.set_cons_zero]
  refine wpAnyH_take (i := 14) (v := (.pointer (some ⟨q, 1, none⟩))) rfl (by kernel_rfl) (by kernel_rfl) (by kernel_rfl) (fun _ _ _ h => h) (.inl ⟨rfl, fun _ hS => by simp [execOp, go_sem, Act.eval]⟩) S8 ?_
  simp only [List.getElem_toArray, List.getElem_cons_succ, List.getElem_cons_zero, Act.put, List.setIfInBounds_toArray, List.set_cons_succ, List.set_cons_zero]
  refine wpAnyH_take (i := 15) (v := (.int .u16 A.ix)) rfl (by kernel_rfl) (by kernel_rfl) (by kernel_rfl) (fun _ _ _ h => h) (.inl ⟨rfl, fun _ hS => exec_load rfl rfl (load_u16 _ _ _ _ hS.2.2.1)⟩) S8 ?_
  simp only [List.getElem_toArray, List.getElem_cons_succ, List.getElem_cons_zero, Act.put, List.setIfInBounds_toArray, List.set_cons_succ, List.set_cons_zero]
  refine wpAnyH_take (i := 16) (v := (.pointer (some ⟨q, 2, none⟩))) rfl (by kernel_rfl) (by kernel_rfl) (by kernel_rfl) (fun _ _ _ h => h) (.inl ⟨rfl, fun _ hS => by simp [execOp, go_sem, Act.eval]⟩) S8 ?_
  simp only [List.getElem_toArray, List.getElem_cons_succ, List.getElem_cons_zero, Act.put, List.setIfInBounds_toArray, List.set_cons_succ, List.set_cons_zero]
  refine wpAnyH_take (i := 17) (v := (.int .u8 A.sb)) rfl (by kernel_rfl) (by kernel_rfl) (by kernel_rfl) (fun _ _ _ h => h) (.inl ⟨rfl, fun _ hS => exec_load rfl rfl (load_u8 _ _ _ _ hS.2.2.2.1)⟩) S8 ?_
  simp only [List.getElem_toArray, List.getElem_cons_succ, List.getElem_cons_zero, Act.put, List.setIfInBounds_toArray, List.set_cons_succ, List.set_cons_zero]
  refine wpAnyH_take (i := 18) (v := (.pointer (some ⟨q, 3, none⟩))) rfl (by kernel_rfl) (by kernel_rfl) (by kernel_rfl) (fun _ _ _ h => h) (.inl ⟨rfl, fun _ hS => by simp [execOp, go_sem, Act.eval]⟩) S8 ?_
  simp only [List.getElem_toArray, List.getElem_cons_succ, List.getElem_cons_zero, Act.put, List.setIfInBounds_toArray, List.set_cons_succ, List.set_cons_zero]
  refine wpAnyH_take (i := 19) (v := (.slice aob A.bl.length cpb)) rfl (by kernel_rfl) (by kernel_rfl) (by kernel_rfl) (fun _ _ _ h => h) (.inl ⟨rfl, fun _ hS => exec_load rfl rfl (load_bytes _ _ _ _ _ _ hS.2.2.2.2)⟩) S8 ?_
  simp only [List.getElem_toArray, List.getElem_cons_succ, List.getElem_cons_zero, Act.put, List.setIfInBounds_toArray, List.set_cons_succ, List.set_cons_zero]
  refine wpAnyH_all (rs := [9]) (by kernel_rfl) (by simp) ?_
  intro k hk
  simp only [List.mem_cons, List.mem_nil_iff, or_false] at hk
  subst hk
  refine wpOp_run rfl rfl (wp_call_fn 26 #[.pointer (some ⟨D, 0, none⟩), .int .u16 A.ix, .int .u8 A.sb, .slice a5 A.bl.length c5] (by simp [execOp, go_sem, Act.eval, resolve, invoke, enterPM]) ?_)
  refine (May_any M8e.dct A.ix A.sb A.hix A.hsb _ A.bl T8).mono ?_
  rintro e u1 ⟨rfl, b1⟩
  have M8f := M8e.next b1
  have A8f := A8d.next b1
  have T8f := T8.below b1
  refine ⟨⟨M8f.cX.1, M8f.cX.2, (HAc.out _ A8f).1, (HAc.out _ A8f).2.1, (HAc.out _ A8f).2.2⟩, ?_⟩
  simp only [List.getElem_toArray, List.getElem_cons_succ, List.getElem_cons_zero, Act.put, List.setIfInBounds_toArray, List.set_cons_succ, List.set_cons_zero]
  refine wpAnyH_all (rs := [20]) (by kernel_rfl) (by simp) ?_
  intro k hk
  simp only [List.mem_cons, List.mem_nil_iff, or_false] at hk
  subst hk
  refine wpOp_run rfl rfl (wp_call_fn 27 #[.pointer (some ⟨E, 0, none⟩), .int .u16 A.ix, .int .u8 A.sb, .slice aob A.bl.length cpb] (by simp [execOp, go_sem, Act.eval, resolve, invoke, enterQM]) ?_)
  obtain ⟨vL, vV, hrd⟩ := M8f.rd
  refine (QMay_any hrd HLN.out HOK.out A.ix A.sb _ A.bl (HBY.out.below M8f.below)).mono ?_
  rintro e u2 ⟨rfl, b2⟩
  have M8g := M8f.next b2
  have A8g := A8f.next b2
  have T8g := T8f.below b2
  refine ⟨⟨M8g.cX.1, M8g.cX.2, (HAc.out _ A8g).1, (HAc.out _ A8g).2.1, (HAc.out _ A8g).2.2⟩, ?_⟩
  simp only [List.getElem_toArray, List.getElem_cons_succ, List.getElem_cons_zero, Act.put, List.setIfInBounds_toArray, List.set_cons_succ, List.set_cons_zero]
  refine wpAnyH_take (i := 21) (v := (.bool true)) rfl (by kernel_rfl) (by kernel_rfl) (by kernel_rfl) (fun _ _ _ h => h) (.inl ⟨rfl, fun _ hS => by simp [execOp, go_sem, Act.eval]⟩) ⟨M8g.cX.1, M8g.cX.2, (HAc.out _ A8g).1, (HAc.out _ A8g).2.1, (HAc.out _ A8g).2.2⟩ ?_
  simp only [List.getElem_toArray, List.getElem_cons_succ, List.getElem_cons_zero, Act.put, List.setIfInBounds_toArray, List.set_cons_succ, List.set_cons_zero]
  refine wpAnyH_take (i := 22) (v := (.bool true)) rfl (by kernel_rfl) (by kernel_rfl) (by kernel_rfl) (fun _ _ _ h => h) (.inl ⟨rfl, fun _ hS => rfl⟩) ⟨M8g.cX.1, M8g.cX.2, (HAc.out _ A8g).1, (HAc.out _ A8g).2.1, (HAc.out _ A8g).2.2⟩ ?_
  simp only [List.getElem_toArray, List.getElem_cons_succ, List.getElem_cons_zero, Act.put, List.setIfInBounds_toArray, List.set_cons_succ, List.set_cons_zero]
  refine wpAnyH_take (i := 23) (v := (.pointer (some ⟨X, 0, none⟩))) rfl (by kernel_rfl) (by kernel_rfl) (by kernel_rfl) (fun _ _ _ h => h) (.inl ⟨rfl, fun _ hS => rfl⟩) ⟨M8g.cX.1, M8g.cX.2, (HAc.out _ A8g).1, (HAc.out _ A8g).2.1, (HAc.out _ A8g).2.2⟩ ?_
  simp only [List.getElem_toArray, List.getElem_cons_succ, List.getElem_cons_zero, Act.put, List.setIfInBounds_toArray, List.set_cons_succ, List.set_cons_zero]
  refine wpAnyH_take (i := 24) (v := (.pointer (some ⟨X, 0, none⟩))) rfl (by kernel_rfl) (by kernel_rfl) (by kernel_rfl) (fun _ _ _ h => h) (.inl ⟨rfl, fun _ hS => by simp [execOp, go_sem, Act.eval]⟩) ⟨M8g.cX.1, M8g.cX.2, (HAc.out _ A8g).1, (HAc.out _ A8g).2.1, (HAc.out _ A8g).2.2⟩ ?_
  simp only [List.getElem_toArray, List.getElem_cons_succ, List.getElem_cons_zero, Act.put, List.setIfInBounds_toArray, List.set_cons_succ, List.set_cons_zero]
  refine wpAnyH_take (i := 25) (v := (.pointer (some ⟨X, 0, none⟩))) rfl (by kernel_rfl) (by kernel_rfl) (by kernel_rfl) (fun _ _ _ h => h) (.inl ⟨rfl, fun _ hS => by simp [execOp, go_sem, Act.eval]⟩) ⟨M8g.cX.1, M8g.cX.2, (HAc.out _ A8g).1, (HAc.out _ A8g).2.1, (HAc.out _ A8g).2.2⟩ ?_
  simp only [List.getElem_toArray, List.getElem_cons_succ, List.getElem_cons_zero, Act.put, List.setIfInBounds_toArray, List.set_cons_succ, List.set_cons_zero]
  refine wpAnyH_take (i := 26) (v := (.pointer (some ⟨D, 0, none⟩))) rfl (by kernel_rfl) (by kernel_rfl) (by kernel_rfl) (fun _ _ _ h => h) (.inl ⟨rfl, fun _ hS => exec_load rfl rfl (load_pd _ _ _ _ hS.1)⟩) ⟨M8g.cX.1, M8g.cX.2, (HAc.out _ A8g).1, (HAc.out _ A8g).2.1, (HAc.out _ A8g).2.2⟩ ?_
  simp only [List.getElem_toArray, List.getElem_cons_succ, List.getElem_cons_zero, Act.put, List.setIfInBounds_toArray, List.set_cons_succ, List.set_cons_zero]
  refine wpAnyH_take (i := 27) (v := (.pointer (some ⟨q, 1, none⟩))) rfl (by kernel_rfl) (by kernel_rfl) (by kernel_rfl) (fun _ _ _ h => h) (.inl ⟨rfl, fun _ hS => by simp [execOp, go_sem, Act.eval]⟩) ⟨M8g.cX.1, M8g.cX.2, (HAc.out _ A8g).1, (HAc.out _ A8g).2.1, (HAc.out _ A8g).2.2⟩ ?_
  simp only [List.getElem_toArray, List.getElem_cons_succ, List.getElem_cons_zero, Act.put, List.setIfInBounds_toArray, List.set_cons_succ, List.set_cons_zero]
  refine wpAnyH_take (i := 28) (v := (.int .u16 A.ix)) rfl (by kernel_rfl) (by kernel_rfl) (by kernel_rfl) (fun _ _ _ h => h) (.inl ⟨rfl, fun _ hS => exec_load rfl rfl (load_u16 _ _ _ _ hS.2.2.1)⟩) ⟨M8g.cX.1, M8g.cX.2, (HAc.out _ A8g).1, (HAc.out _ A8g).2.1, (HAc.out _ A8g).2.2⟩ ?_
  simp only [List.getElem_toArray, List.getElem_cons_succ, List.getElem_cons_zero, Act.put, List.setIfInBounds_toArray, List.set_cons_succ, List.set_cons_zero]
  refine wpAnyH_take (i := 29) (v := (.pointer (some ⟨q, 2, none⟩))) rfl (by kernel_rfl) (by kernel_rfl) (by kernel_rfl) (fun _ _ _ h => h) (.inl ⟨rfl, fun _ hS => by simp [execOp, go_sem, Act.eval]⟩) ⟨M8g.cX.1, M8g.cX.2, (HAc.out _ A8g).1, (HAc.out _ A8g).2.1, (HAc.out _ A8g).2.2⟩ ?_
  simp only [List.getElem_toArray, List.getElem_cons_succ, List.getElem_cons_zero, Act.put, List.setIfInBounds_toArray, List.set_cons_succ, List.set_cons_zero]
  refine wpAnyH_take (i := 30) (v := (.int .u8 A.sb)) rfl (by kernel_rfl) (by kernel_rfl) (by kernel_rfl) (fun _ _ _ h => h) (.inl ⟨rfl, fun _ hS => exec_load rfl rfl (load_u8 _ _ _ _ hS.2.2.2.1)⟩) ⟨M8g.cX.1, M8g.cX.2, (HAc.out _ A8g).1, (HAc.out _ A8g).2.1, (HAc.out _ A8g).2.2⟩ ?_
  simp only [List.getElem_toArray, List.getElem_cons_succ, List.getElem_cons_zero, Act.put, List.setIfInBounds_toArray, List.set_cons_succ, List.set_cons_zero]
  refine wpAnyH_take (i := 31) (v := (.slice a5 A.bl.length c5)) rfl (by kernel_rfl) (by kernel_rfl) (by kernel_rfl) (fun _ _ _ h => h) (.inl ⟨rfl, fun _ hS => rfl⟩) ⟨M8g.cX.1, M8g.cX.2, (HAc.out _ A8g).1, (HAc.out _ A8g).2.1, (HAc.out _ A8g).2.2⟩ ?_
  simp only [List.getElem_toArray, List.getElem_cons_succ, List.getElem_cons_zero, Act.put, List.setIfInBounds_toArray, List.set_cons_succ, List.set_cons_zero]
  refine wpAnyH_take (i := 33) (v := (.pointer (some ⟨X, 0, none⟩))) rfl (by kernel_rfl) (by kernel_rfl) (by kernel_rfl) (fun _ _ _ h => h) (.inl ⟨rfl, fun _ hS => rfl⟩) ⟨M8g.cX.1, M8g.cX.2, (HAc.out _ A8g).1, (HAc.out _ A8g).2.1, (HAc.out _ A8g).2.2⟩ ?_
  simp only [List.getElem_toArray, List.getElem_cons_succ, List.getElem_cons_zero, Act.put, List.setIfInBounds_toArray, List.set_cons_succ, List.set_cons_zero]
  refine wpAnyH_take (i := 34) (v := (.pointer (some ⟨X, 0, none⟩))) rfl (by kernel_rfl) (by kernel_rfl) (by kernel_rfl) (fun _ _ _ h => h) (.inl ⟨rfl, fun _ hS => by simp [execOp, go_sem, Act.eval]⟩) ⟨M8g.cX.1, M8g.cX.2, (HAc.out _ A8g).1, (HAc.out _ A8g).2.1, (HAc.out _ A8g).2.2⟩ ?_
  simp only [List.getElem_toArray, List.getElem_cons_succ, List.getElem_cons_zero, Act.put, List.setIfInBounds_toArray, List.set_cons_succ, List.set_cons_zero]
  refine wpAnyH_take (i := 35) (v := (.pointer (some ⟨X, 1, none⟩))) rfl (by kernel_rfl) (by kernel_rfl) (by kernel_rfl) (fun _ _ _ h => h) (.inl ⟨rfl, fun _ hS => by simp [execOp, go_sem, Act.eval]⟩) ⟨M8g.cX.1, M8g.cX.2, (HAc.out _ A8g).1, (HAc.out _ A8g).2.1, (HAc.out _ A8g).2.2⟩ ?_
  simp only [List.getElem_toArray, List.getElem_cons_succ, List.getElem_cons_zero, Act.put, List.setIfInBounds_toArray, List.set_cons_succ, List.set_cons_zero]
  refine wpAnyH_take (i := 36) (v := (.pointer (some ⟨E, 0, none⟩))) rfl (by kernel_rfl) (by kernel_rfl) (by kernel_rfl) (fun _ _ _ h => h) (.inl ⟨rfl, fun _ hS => exec_load rfl rfl (load_rd _ _ _ _ hS.2.1)⟩) ⟨M8g.cX.1, M8g.cX.2, (HAc.out _ A8g).1, (HAc.out _ A8g).2.1, (HAc.out _ A8g).2.2⟩ ?_
  simp only [List.getElem_toArray, List.getElem_cons_succ, List.getElem_cons_zero, Act.put, List.setIfInBounds_toArray, List.set_cons_succ, List.set_cons_zero]
  refine wpAnyH_take (i := 37) (v := (.pointer (some ⟨q, 1, none⟩))) rfl (by kernel_rfl) (by kernel_rfl) (by kernel_rfl) (fun _ _ _ h => h) (.inl ⟨rfl, fun _ hS => by simp [execOp, go_sem, Act.eval]⟩) ⟨M8g.cX.1, M8g.cX.2, (HAc.out _ A8g).1, (HAc.out _ A8g).2.1, (HAc.out _ A8g).2.2⟩ ?_
  simp only [List.getElem_toArray, List.getElem_cons_succ, List.getElem_cons_zero, Act.put, List.setIfInBounds_toArray, List.set_cons_succ, List.set_cons_zero]
  refine wpAnyH_take (i := 38) (v := (.int .u16 A.ix)) rfl (by kernel_rfl) (by kernel_rfl) (by kernel_rfl) (fun _ _ _ h => h) (.inl ⟨rfl, fun _ hS => exec_load rfl rfl (load_u16 _ _ _ _ hS.2.2.1)⟩) ⟨M8g.cX.1, M8g.cX.2, (HAc.out _ A8g).1, (HAc.out _ A8g).2.1, (HAc.out _ A8g).2.2⟩ ?_
  simp only [List.getElem_toArray, List.getElem_cons_succ, List.getElem_cons_zero, Act.put, List.setIfInBounds_toArray, List.set_cons_succ, List.set_cons_zero]
  refine wpAnyH_take (i := 39) (v := (.pointer (some ⟨q, 2, none⟩))) rfl (by kernel_rfl) (by kernel_rfl) (by kernel_rfl) (fun _ _ _ h => h) (.inl ⟨rfl, fun _ hS => by simp [execOp, go_sem, Act.eval]⟩) ⟨M8g.cX.1, M8g.cX.2, (HAc.out _ A8g).1, (HAc.out _ A8g).2.1, (HAc.out _ A8g).2.2⟩ ?_
  simp only [List.getElem_toArray, List.getElem_cons_succ, List.getElem_cons_zero, Act.put, List.setIfInBounds_toArray, List.set_cons_succ, List.set_cons_zero]
  refine wpAnyH_take (i := 40) (v := (.int .u8 A.sb)) rfl (by kernel_rfl) (by kernel_rfl) (by kernel_rfl) (fun _ _ _ h => h) (.inl ⟨rfl, fun _ hS => exec_load rfl rfl (load_u8 _ _ _ _ hS.2.2.2.1)⟩) ⟨M8g.cX.1, M8g.cX.2, (HAc.out _ A8g).1, (HAc.out _ A8g).2.1, (HAc.out _ A8g).2.2⟩ ?_
  simp only [List.getElem_toArray, List.getElem_cons_succ, List.getElem_cons_zero, Act.put, List.setIfInBounds_toArray, List.set_cons_succ, List.set_cons_zero]
  refine wpAnyH_take (i := 41) (v := (.pointer (some ⟨q, 3, none⟩))) rfl (by kernel_rfl) (by kernel_rfl) (by kernel_rfl) (fun _ _ _ h => h) (.inl ⟨rfl, fun _ hS => by simp [execOp, go_sem, Act.eval]⟩) ⟨M8g.cX.1, M8g.cX.2, (HAc.out _ A8g).1, (HAc.out _ A8g).2.1, (HAc.out _ A8g).2.2⟩ ?_
  simp only [List.getElem_toArray, List.getElem_cons_succ, List.getElem_cons_zero, Act.put, List.setIfInBounds_toArray, List.set_cons_succ, List.set_cons_zero]
  refine wpAnyH_take (i := 42) (v := (.slice aob A.bl.length cpb)) rfl (by kernel_rfl) (by kernel_rfl) (by kernel_rfl) (fun _ _ _ h => h) (.inl ⟨rfl, fun _ hS => exec_load rfl rfl (load_bytes _ _ _ _ _ _ hS.2.2.2.2)⟩) ⟨M8g.cX.1, M8g.cX.2, (HAc.out _ A8g).1, (HAc.out _ A8g).2.1, (HAc.out _ A8g).2.2⟩ ?_
  simp only [List.getElem_toArray, List.getElem_cons_succ, List.getElem_cons_zero, Act.put, List.setIfInBounds_toArray, List.set_cons_succ, List.set_cons_zero]
  refine wpAnyH_all (rs := [32]) (by kernel_rfl) (by simp) ?_
  intro k hk
  simp only [List.mem_cons, List.mem_nil_iff, or_false] at hk
  subst hk
  refine wpOp_runw rfl rfl (wp_call_fn 14 #[.pointer (some ⟨D, 0, none⟩), .int .u16 A.ix, .int .u8 A.sb, .slice a5 A.bl.length c5] (by simp [execOp, go_sem, Act.eval, resolve, invoke, enterPW]) ?_)
  refine (Write_any M8g.dct A.ix A.sb A.hix A.hsb _ A.bl T8g).mono ?_
  rintro e u3 ⟨rfl, D3, K3⟩
  have M8h := M8g.prog D3 K3 AL.out.b
  have A8h : Aq q A u3 := kp_other M8g.dct K3 A8g (by decide)
  refine ⟨⟨M8h.cX.1, M8h.cX.2, (HAc.out _ A8h).1, (HAc.out _ A8h).2.1, (HAc.out _ A8h).2.2⟩, ?_⟩
  simp only [List.getElem_toArray, List.getElem_cons_succ, List.getElem_cons_zero, Act.put, List.setIfInBounds_toArray, List.set_cons_succ, List.set_cons_zero]
  refine wpAnyH_all (rs := [43]) (by kernel_rfl) (by simp) ?_
  intro k hk
  simp only [List.mem_cons, List.mem_nil_iff, or_false] at hk
  subst hk
  refine wpOp_runw rfl rfl (wp_call_fn 28 #[.pointer (some ⟨E, 0, none⟩), .int .u16 A.ix, .int .u8 A.sb, .slice aob A.bl.length cpb] (by simp [execOp, go_sem, Act.eval, resolve, invoke, enterQW]) ?_)
  obtain ⟨vL, vV, hrd⟩ := M8h.rd
  refine (QWrite_any hrd HLN.out HOK.out HAP.out A.ix A.sb _ A.bl (HBY.out.below M8h.below)).mono ?_
  rintro e u4 ⟨rfl, ⟨vV2, hrd2⟩, G4⟩
  have M8i := M8h.doc ⟨vL, vV2, hrd2⟩ G4 AL.out.b
  have A8i : Aq q A u4 := row_other G4 M8h.hr A8h (by decide)
  refine ⟨⟨M8i.cX.1, M8i.cX.2, (HAc.out _ A8i).1, (HAc.out _ A8i).2.1, (HAc.out _ A8i).2.2⟩, ?_⟩
  simp only [List.getElem_toArray, List.getElem_cons_succ, List.getElem_cons_zero, Act.put, List.setIfInBounds_toArray, List.set_cons_succ, List.set_cons_zero]
  refine wpAnyH_take (i := 44) (v := (.bool true)) rfl (by kernel_rfl) (by kernel_rfl) (by kernel_rfl) (fun _ _ _ h => h) (.inl ⟨rfl, fun _ hS => by simp [execOp, go_sem, Act.eval]⟩) ⟨M8i.cX.1, M8i.cX.2, (HAc.out _ A8i).1, (HAc.out _ A8i).2.1, (HAc.out _ A8i).2.2⟩ ?_
  simp only [List.getElem_toArray, List.getElem_cons_succ, List.getElem_cons_zero, Act.put, List.setIfInBounds_toArray, List.set_cons_succ, List.set_cons_zero]
  refine wpAnyH_take (i := 45) (v := (.bool true)) rfl (by kernel_rfl) (by kernel_rfl) (by kernel_rfl) (fun _ _ _ h => h) (.inl ⟨rfl, fun _ hS => by simp [execOp, go_sem, Act.eval]⟩) ⟨M8i.cX.1, M8i.cX.2, (HAc.out _ A8i).1, (HAc.out _ A8i).2.1, (HAc.out _ A8i).2.2⟩ ?_
  simp only [List.getElem_toArray, List.getElem_cons_succ, List.getElem_cons_zero, Act.put, List.setIfInBounds_toArray, List.set_cons_succ, List.set_cons_zero]
  refine wpAnyH_take (i := 46) (v := (.bool true)) rfl (by kernel_rfl) (by kernel_rfl) (by kernel_rfl) (fun _ _ _ h => h) (.inl ⟨rfl, fun _ hS => rfl⟩) ⟨M8i.cX.1, M8i.cX.2, (HAc.out _ A8i).1, (HAc.out _ A8i).2.1, (HAc.out _ A8i).2.2⟩ ?_
  simp only [List.getElem_toArray, List.getElem_cons_succ, List.getElem_cons_zero, Act.put, List.setIfInBounds_toArray, List.set_cons_succ, List.set_cons_zero]
  refine wpAnyH_done (by kernel_rfl) ?_ _
  have HF := hidOf2 (doesPost M8i (ok_wrt HAP.out HOK.out A.ix A.sb A.bl) AL.out)
  clear M8d M8e M8f M8g M8h M8i A8d A8f A8g A8h A8i T8 T8f T8g D3 K3 G4 S8 hrd2 hrd
  go_wp2
  go_ret
  exact HF.out
end Go.Proofs.Ytdcogpadioeclaa
