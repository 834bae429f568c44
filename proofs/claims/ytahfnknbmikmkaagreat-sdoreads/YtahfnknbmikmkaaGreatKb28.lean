/- Contracts: tell. Contracts: Handle: what is given up with ends here. The document's server in memory; Rests, ends. -/
import Derived.Test.YtahfnknbmikmkaaGreatKb25
import Derived.Test.YtahfnknbmikmkaaGreatKb26
import Derived.Test.YtahfnknbmikmkaaGreatKb27
import Derived.Test.YtahfnknbmikmkaaGreatKb24
import Derived.Test.YtahfnknbmikmkaaGreatZs
import Derived.Defers
import Derived.Recover
import Derived.Deep.RegionLaw
namespace Go.Proofs.YtahfnknbmikmkaaGreat
open Go.RowKit Go.Proofs.Ty
set_option linter.unusedVariables false
set_option maxRecDepth 1000000
set_option linter.unusedSimpArgs false
section
variable {S D R : Nat} {s : Ss} {ao : Option Addr} {cp : Nat} {its : List Im} {w : World}
set_option maxHeartbeats 8000000 in
theorem tell_rest (h : Pv S D R its s ao cp w) (q : F8) (hx : s.dn ≠ 2 ∨ q.b0.toNat / 16 % 2 ≠ s.tn) : Calls Tryz.prog 66 #[.pointer (some ⟨S, 0, none⟩), .agg q.arr] w (HPost S D R its (wl s ao) ao (telO its s q) w) := by
  obtain ⟨W, hW⟩ : ∃ W, w.alloc (.cells q.arr 32) = W := ⟨_, rfl⟩
  obtain ⟨k, hk⟩ : ∃ k, w.heap.size = k := ⟨_, rfl⟩
  have hWs : W.heap.size = k + 1 := by rw [← hW, size_alloc, hk]
  have b0 : Below w.heap.size w (W.alloc (.cells zA8 32)) := (hW ▸ (Below.refl _ _).alloc (Nat.le_refl _) _).alloc (by rw [hWs, hk]; omega) _
  have q0 : Qb k q (W.alloc (.cells zA8 32)) := (Lib.alloc_old W _ k (by omega)).trans (by rw [← hk, ← hW]; exact Qb.new w q)
  have r0 : Qb (k + 1) F8.nul (W.alloc (.cells zA8 32)) := by rw [← hWs]; exact heap_alloc_new W _
  have hSk : S < k := by rw [← hk]; exact h.head.lt
  have h0 := h.below b0
  have hb0 := q.b0.toNat_lt
  have hok := h.ok
  have hnear := hidOf2 h.near
  have hfar := hidOf2 h.far
  have hcap := hidOf2 h.cap
  have HB0 := hidOf2 b0
  have HBV0 := hidOf2 h.by_
  have HLT := hidOf2 h.lt
  obtain ⟨EE, hEE⟩ : ∃ e, HPost S D R its (wl s ao) ao (telO its s q) w = e := ⟨_, rfl⟩
  have HRP : Hid (∀ O, telO its s q = O → ∀ e w', HPost S D R its (wl s ao) ao O w e w' → EE e w') := fun O hO e w' hh => by rw [← hEE, hO]; exact hh
  rw [hEE]
  clear h hEE b0
  go_enter Tryz.func66, Tryz.ntmps66
  go_upto_region 1 with fail
  change Code.wp Tryz.prog _ _ _ (W.alloc (.cells zA8 32))
  obtain ⟨V, hV⟩ : ∃ V, W.alloc (.cells zA8 32) = V := ⟨_, rfl⟩
  have hVs : V.heap.size = k + 2 := by rw [← hV, size_alloc, hWs]
  rw [hV] at q0 r0 HB0 h0 ⊢
  have l0 := q0.load
  by_cases hdn : s.dn = 2
  · have hdu := due_yes h0.head q (q.b0.toNat / 16 % 2) (by omega) rfl
    rw [hdn] at hdu
    have H0 := hidOf2 h0
    have hTu : ∀ V, Calls Tryz.prog 108 #[.agg q.arr] V fun e w' => e = .returned (.int .u8 ((16 * (q.b0.toNat / 16 % 2) : Nat) : Int)) ∧ Below V.heap.size V w' := turn_any q
    by_cases ht : q.b0.toNat / 16 % 2 ≠ s.tn
    · rw [if_pos ht] at hdu
      have hto : telO its s q = (.bad s.ix s.sb 84082688, its, Ss.nul) := by unfold telO; rw [if_neg (by simp [hdn]), if_pos ht]
      clear q0 r0 h0 hTu
      go_wp2_with (first | (refine ldG l0 rfl _ rfl rfl ?_))
      refine hdu.mono ?_
      rintro e w1 ⟨rfl, p1, K1⟩
      exact ⟨rfl, HRP.out _ hto _ _ ⟨rfl, none, 0, Pv.nul (H0.out.dct.kpS H0.out.head K1) p1 hnear.out, ((Kp.of_below HB0.out).trans K1).mono (fun b hb => by simp at hb; simp [hb]), fun b hb => by simp [blk] at hb⟩⟩
    · exact absurd (hx.resolve_left (by simp [hdn])) ht
  · have hdu := due_no h0.head 2 q hdn
    have hto : telO its s q = (.bad 0 0 84148225, its, s) := by unfold telO; rw [if_pos hdn]
    have H0 := hidOf2 h0
    clear q0 r0 h0
    go_wp2_with (first | (refine ldG l0 rfl _ rfl rfl ?_))
    refine hdu.mono ?_
    rintro e w1 ⟨rfl, b1⟩
    exact ⟨rfl, HRP.out _ hto _ _ ⟨rfl, ao, cp, H0.out.below b1, Kp.of_below (HB0.out.trans (b1.mono HB0.out.size)), fun b hb => .inl hb⟩⟩
theorem tell_any (h : Pv S D R its s ao cp w) (q : F8) : Calls Tryz.prog 66 #[.pointer (some ⟨S, 0, none⟩), .agg q.arr] w (HPost S D R its (wl s ao) ao (telO its s q) w) := by
  by_cases hx : s.dn ≠ 2 ∨ q.b0.toNat / 16 % 2 ≠ s.tn
  · exact tell_rest h q hx
  · have hdn : s.dn = 2 := by
      by_cases g : s.dn = 2
      · exact g
      · exact absurd (.inl g) hx
    have ht : ¬ q.b0.toNat / 16 % 2 ≠ s.tn := fun g => hx (.inr g)
    by_cases h7 : s.bs.length ≤ 7
    · obtain h9 | h9 | h9 | h9 | h9 | h9 | h9 | h9 : s.bs.length = 0 ∨ s.bs.length = 1 ∨ s.bs.length = 2 ∨ s.bs.length = 3 ∨ s.bs.length = 4 ∨ s.bs.length = 5 ∨ s.bs.length = 6 ∨ s.bs.length = 7 := by omega
      · exact tell_0 h q hdn ht h9
      · exact tell_1 h q hdn ht h9
      · exact tell_2 h q hdn ht h9
      · exact tell_3 h q hdn ht h9
      · exact tell_4 h q hdn ht h9
      · exact tell_5 h q hdn ht h9
      · exact tell_6 h q hdn ht h9
      · exact tell_7 h q hdn ht h9
    · exact tell_8 h q hdn ht (by omega)
end
end Go.Proofs.YtahfnknbmikmkaaGreat
namespace Go.Proofs.YtahfnknbmikmkaaGreat
open Go.RowKit Go.Proofs.Ty
set_option linter.unusedVariables false
set_option maxRecDepth 1000000
set_option linter.unusedSimpArgs false
theorem infoFlz : (Tryz.prog.info? 136).map (·.zero) = some (some (.agg #[.int .u16 0, .int .u8 0, .int .u32 0])) := by kernel_rfl
theorem ta_none10 (xT : TypeId) (w : World) : (Instr.typeAssert .nilIface xT 136 true).run Tryz.prog w = .ok (.tuple #[.agg #[.int .u16 0, .int .u8 0, .int .u32 0], .bool false]) w := by
  obtain ⟨i, hi, hz⟩ := Option.map_eq_some_iff.1 infoFlz
  simp [Instr.typeAssert, run_underlying Tryz.underlying136, zeroValue, typeInfo, hi, hz]
theorem ta_some10 (xT : TypeId) (v : Value) (w : World) : (Instr.typeAssert (.iface 136 v) xT 136 true).run Tryz.prog w = .ok (.tuple #[v, .bool true]) w := by
  simp [Instr.typeAssert, run_underlying Tryz.underlying136]
/-- Handle's two results, in blocks q and q + 1. -/
structure Ns (q : Nat) (f : F8) (b : Bool) (w : World) : Prop where
  a : Qb q f w
  is : w.heap[q + 1]? = some (.cells #[.bool b] 4 (0, 0))
theorem Ns.lt {q : Nat} {f : F8} {b : Bool} {w : World} (h : Ns q f b w) : q + 1 < w.heap.size := (Array.getElem?_eq_some_iff.1 h.is).1
theorem Ns.below {q : Nat} {f : F8} {b : Bool} {w x : World} (h : Ns q f b w) (hb : Below w.heap.size w x) : Ns q f b x := ⟨h.a.below hb, (hb.block _ h.lt).trans h.is⟩
theorem Ns.cb {q : Nat} {f : F8} {b : Bool} {w : World} (h : Ns q f b w) : w.cell? ⟨q + 1, 0, none⟩ = some (.bool b) := Lib.cell_of_heap h.is 0
theorem Ns.zb {q : Nat} {f : F8} {b : Bool} {w : World} (h : Ns q f b w) : w.frozen? ⟨q + 1, 0, none⟩ = false := Lib.frozen_of_heap h.is 0
theorem Ns.put {q : Nat} {f : F8} {b : Bool} {w : World} (h : Ns q f b w) (g : F8) (c : Bool) : Ns q g c ((w.setRow q g.arr).setCell ⟨q + 1, 0, none⟩ (.bool c)) := by
  refine ⟨(h.a.row g).other (by show q ≠ q + 1; omega) _, ?_⟩
  have : (w.setRow q g.arr).heap[q + 1]? = some (.cells #[.bool b] 4 (0, 0)) := (setRow_other _ _ _ _ (by omega)).trans h.is
  simp [World.setCell, Array.getElem?_modify, this]
theorem Ns.results {q : Nat} {f : F8} {b : Bool} {w : World} (h : Ns q f b w) (tmps : Array Value) (h2 : tmps[4]?.getD undef = .pointer (some ⟨q, 0, none⟩)) (h3 : tmps[5]?.getD undef = .pointer (some ⟨q + 1, 0, none⟩)) :
    (results Tryz.f35 tmps).run Tryz.prog w = .ok (.tuple #[.agg f.arr, .bool b]) w := by
  have l0 := h.a.load
  have cb := h.cb
  have l1 : (loadVar 4 ⟨q + 1, 0, none⟩).run Tryz.prog w = .ok (.bool b) w := by simp [loadVar, isAgg, run_underlying Tryz.underlying4, go_sem, cb]
  simp [Go.results, Tryz.results35, h2, h3, asAddr, l0, l1]
set_option maxHeartbeats 2000000 in
theorem catch10_idle (q : Nat) (w : World) :
    CallsD Tryz.prog 60 #[.pointer (some ⟨q, 0, none⟩), .pointer (some ⟨q + 1, 0, none⟩)] .returning w fun e u' w' => e = .returned (.tuple #[]) ∧ u' = .returning ∧ Below w.heap.size w w' := by
  refine callsD_of_wpS Tryz.func60 rfl fun c₀ cs hu => ?_
  apply wpS_seq
  apply wpS_region
  simp [wpOpsS, go_sem, recoverD, hu, Tryz.ntmps60, Exit.thenS, ta_none10]
  refine wpS_of_wp ?_
  simp [Array.replicate, List.replicate]
  go_wp2
  exact ⟨rfl, .returning, by rw [← hu], _, results_none rfl _ _ _, rfl, rfl, (Below.refl _ _).alloc (Nat.le_refl _) _⟩
set_option maxHeartbeats 2000000 in
theorem catch10_fault (q : Nat) (f : F8) (b : Bool) (ix sb c : Nat) (h1 : ix < 65536) (h2 : sb < 256) (h3 : c < 4294967296) (w : World) (h : Ns q f b w) :
    CallsD Tryz.prog 60 #[.pointer (some ⟨q, 0, none⟩), .pointer (some ⟨q + 1, 0, none⟩)] (.panicking [{ v := flV ix sb c, recovered := false }]) w fun e u' w' => e = .returned (.tuple #[]) ∧ u' = .panicking [{ v := flV ix sb c, recovered := true }] ∧ Ns q (frm 128 ix sb c) true w' ∧ Kp [q, q + 1] w w' := by
  suffices H : ∀ R : Ending → FrameMode → World → Prop, (∀ w', Ns q (frm 128 ix sb c) true w' → Kp [q, q + 1] w w' → R (.returned (.tuple #[])) (.panicking [{ v := flV ix sb c, recovered := true }]) w') →
      CallsD Tryz.prog 60 #[.pointer (some ⟨q, 0, none⟩), .pointer (some ⟨q + 1, 0, none⟩)] (.panicking [{ v := flV ix sb c, recovered := false }]) w R from H _ (fun w' a b => ⟨rfl, rfl, a, b⟩)
  intro R HR0
  have hlt := h.lt
  have HR : Hid (∀ w', Ns q (frm 128 ix sb c) true w' → Kp [q, q + 1] w w' → R (.returned (.tuple #[])) (.panicking [{ v := flV ix sb c, recovered := true }]) w') := HR0
  clear HR0
  refine callsD_of_wpS Tryz.func60 rfl fun c₀ cs hu => ?_
  unfold flV at *
  have hA : Ns q f b (w.alloc (.cells #[.int .u16 (ix : Int), .int .u8 (sb : Int), .int .u32 (c : Int)] 136)) := h.below ((Below.refl w.heap.size w).alloc (Nat.le_refl _) _)
  have hBl : Kp [q, q + 1] w (w.alloc (.cells #[.int .u16 (ix : Int), .int .u8 (sb : Int), .int .u32 (c : Int)] 136)) := Kp.of_below ((Below.refl _ w).alloc (Nat.le_refl _) _)
  have hf : (w.alloc (.cells #[.int .u16 (ix : Int), .int .u8 (sb : Int), .int .u32 (c : Int)] 136)).heap[w.heap.size]? = some (.cells #[.int .u16 (ix : Int), .int .u8 (sb : Int), .int .u32 (c : Int)] 136 (0, 0)) := heap_alloc_new w _
  have hC : ∀ V, Calls Tryz.prog 61 #[.agg #[.int .u16 (ix : Int), .int .u8 (sb : Int), .int .u32 (c : Int)]] V fun e w' => e = .returned (.agg (frm 128 ix sb c).arr) ∧ Below V.heap.size V w' := fun V => frame_any ix sb c V h1 h2 h3
  have lf : (loadVar 136 ⟨w.heap.size, 0, none⟩).run Tryz.prog (w.alloc (.cells #[.int .u16 (ix : Int), .int .u8 (sb : Int), .int .u32 (c : Int)] 136)) = .ok (.agg #[.int .u16 (ix : Int), .int .u8 (sb : Int), .int .u32 (c : Int)]) (w.alloc (.cells #[.int .u16 (ix : Int), .int .u8 (sb : Int), .int .u32 (c : Int)] 136)) := run_loadVar_row _ _ 136 136 _ (0, 0) _ hf Tryz.underlying136 rfl infoFl
  clear h hf
  apply wpS_seq
  apply wpS_region
  simp [wpOpsS, go_sem, recoverD, hu, Tryz.ntmps60, Exit.thenS, ta_some10]
  refine wpS_of_wp ?_
  simp [Array.replicate, List.replicate]
  generalize w.alloc (.cells #[.int .u16 (ix : Int), .int .u8 (sb : Int), .int .u32 (c : Int)] 136) = W at *
  generalize w.heap.size = k at *
  go_wp2_with (first | (refine ldG lf rfl _ rfl rfl ?_))
  refine (hC W).mono ?_
  rintro e w1 ⟨rfl, b1⟩
  have N1 := hA.below b1
  have hl1 := hA.lt
  have B1 := hBl.trans (Kp.of_below b1)
  have N2 := N1.put (frm 128 ix sb c) true
  have B2 : Kp [q, q + 1] w ((w1.setRow q (frm 128 ix sb c).arr).setCell ⟨q + 1, 0, none⟩ (.bool true)) := (B1.fresh (Kp.setRow1 w1 q _) (fun b hb => .inl (by simp at hb; simp [hb]))).fresh (Kp.cell1 _ (q + 1) 0 _) (fun b hb => .inl (by simp at hb; simp [hb]))
  have hN := hidOf2 N2
  have hB := hidOf2 B2
  have na := N1.a
  have cb : (w1.setRow q (frm 128 ix sb c).arr).cell? ⟨q + 1, 0, none⟩ = some (.bool b) := by rw [World.cell?_of_block (setRow_other _ _ _ _ (by show q + 1 ≠ q; omega))]; exact N1.cb
  have zb : (w1.setRow q (frm 128 ix sb c).arr).frozen? ⟨q + 1, 0, none⟩ = false := by rw [World.frozen?_of_block (setRow_other _ _ _ _ (by show q + 1 ≠ q; omega))]; exact N1.zb
  clear N1 N2 B1 B2 hA hBl hC lf b1
  go_wp2_with (first | (refine sdF (g := frm 128 ix sb c) na rfl _ _ rfl rfl rfl ?_))
  exact ⟨rfl, _, rfl, _, results_none rfl _ _ _, HR.out _ hN.out hB.out⟩
end Go.Proofs.YtahfnknbmikmkaaGreat
namespace Go.Proofs.YtahfnknbmikmkaaGreat
open Go.RowKit Go.Proofs.Ty
set_option linter.unusedVariables false
set_option maxRecDepth 1000000
set_option linter.unusedSimpArgs false
theorem noc_lt (its : List Im) (ix : Nat) : noc its ix < 4294967296 := by unfold noc; split <;> decide
theorem wc_lt (its : List Im) (ix sb : Nat) (l : List UInt8) : wc its ix sb l < 4294967296 := by
  unfold wc
  split
  · exact noc_lt _ _
  · unfold wcode
    split
    · decide
    · split
      · unfold bey
        split
        · decide
        · split
          · decide
          · split <;> decide
      · split
        · decide
        · split <;> decide
theorem rdC_lt (its : List Im) (ix sb : Nat) : rdC its ix sb < 4294967296 := by
  unfold rdC
  split
  · exact noc_lt _ _
  · split <;> decide
theorem wp_allocA8 {o : Oper} {a : Act} {w : World} {K : Act → World → Prop} {Q : Exit → Act → World → Prop} (ho : o.op = .alloc 32) (h : K (a.put o.dst (.pointer (some ⟨w.heap.size, 0, none⟩))) (w.alloc (.cells zA8 32))) : o.wp Tryz.prog a w K Q := by
  obtain ⟨i0, hi0, hz0⟩ : ∃ i0, Tryz.prog.info? 32 = some i0 ∧ i0.zero = some (.agg zA8) := by
    have : (Tryz.prog.info? 32).map (·.zero) = some (some (.agg zA8)) := by kernel_rfl
    cases hh : Tryz.prog.info? 32 with
    | none => rw [hh] at this; cases this
    | some i0 => rw [hh] at this; exact ⟨i0, rfl, by simpa using this⟩
  unfold Oper.wp execOp
  simp [ho, go_sem, Instr.alloc, zeroValue, typeInfo, hi0, hz0, Value.cells]
  exact h
/-- How many bytes there will be; below nothing: nobody said. -/
def szI (s : Ss) : Int := match s.sz with
  | none => -1
  | some n => (n : Int)
def dsC (E : Nat) (s : Ss) (ao : Option Addr) (cp : Nat) : List Value := [.pointer (some ⟨E, 0, none⟩), .int .i64 (s.dn : Int), .int .u16 (s.ix : Int), .int .u8 (s.sb : Int), .int .u8 (s.tn : Int), .slice ao s.bs.length cp, .int .i64 (szI s)]
def Db (T E : Nat) (s : Ss) (ao : Option Addr) (cp : Nat) (w : World) : Prop := w.heap[T]? = some (.cells (dsC E s ao cp).toArray 85 (0, 0))
section
variable {T E : Nat} {s t : Ss} {ao ap : Option Addr} {cp cq : Nat} {w x : World}
theorem Db.lt (h : Db T E s ao cp w) : T < w.heap.size := (Array.getElem?_eq_some_iff.1 h).1
theorem Db.below (h : Db T E s ao cp w) (hb : Below w.heap.size w x) : Db T E s ao cp x := (hb.block T h.lt).trans h
theorem Db.c (h : Db T E s ao cp w) : w.cell? ⟨T, 0, none⟩ = some (.pointer (some ⟨E, 0, none⟩)) ∧ w.cell? ⟨T, 1, none⟩ = some (.int .i64 (s.dn : Int)) ∧ w.cell? ⟨T, 2, none⟩ = some (.int .u16 (s.ix : Int)) ∧ w.cell? ⟨T, 3, none⟩ = some (.int .u8 (s.sb : Int)) ∧ w.cell? ⟨T, 4, none⟩ = some (.int .u8 (s.tn : Int)) ∧ w.cell? ⟨T, 5, none⟩ = some (.slice ao s.bs.length cp) ∧ w.cell? ⟨T, 6, none⟩ = some (.int .i64 (szI s)) :=
  ⟨Lib.cell_of_heap h 0, Lib.cell_of_heap h 1, Lib.cell_of_heap h 2, Lib.cell_of_heap h 3, Lib.cell_of_heap h 4, Lib.cell_of_heap h 5, Lib.cell_of_heap h 6⟩
theorem Db.zz (h : Db T E s ao cp w) (k : Nat) : w.frozen? ⟨T, k, none⟩ = false := Lib.frozen_of_heap h k
/-- All of its cells but the first written anew. -/
def dset (w : World) (T : Nat) (s : Ss) (ao : Option Addr) (cp : Nat) : World := (((((w.setCell ⟨T, 1, none⟩ (.int .i64 (s.dn : Int))).setCell ⟨T, 2, none⟩ (.int .u16 (s.ix : Int))).setCell ⟨T, 3, none⟩ (.int .u8 (s.sb : Int))).setCell ⟨T, 4, none⟩ (.int .u8 (s.tn : Int))).setCell ⟨T, 5, none⟩ (.slice ao s.bs.length cp)).setCell ⟨T, 6, none⟩ (.int .i64 (szI s))
theorem Db.set (h : Db T E s ao cp w) (t : Ss) (ap : Option Addr) (cq : Nat) : Db T E t ap cq (dset w T t ap cq) := by
  have h : w.heap[T]? = some (.cells (dsC E s ao cp).toArray 85 (0, 0)) := h
  unfold Db dset
  simp [World.setCell, Array.getElem?_modify, h, dsC]
theorem Kp.cells {bs : List Nat} {a : World} (h : Kp bs a w) (hT : T ∈ bs) (o : Nat) (v : Value) : Kp bs a (w.setCell ⟨T, o, none⟩ v) := h.trans ((Kp.cell1 w T o v).mono (fun b hb => by simp at hb; rw [hb]; exact hT))
theorem kp_dset (w : World) (T : Nat) (t : Ss) (ap : Option Addr) (cq : Nat) : Kp [T] w (dset w T t ap cq) :=
  ((((((Kp.refl [T] w).cells (by simp) 1 _).cells (by simp) 2 _).cells (by simp) 3 _).cells (by simp) 4 _).cells (by simp) 5 _).cells (by simp) 6 _
set_option maxHeartbeats 4000000 in
theorem Rests_any (h : Db T E s ao cp w) : Calls Tryz.prog 15 #[.pointer (some ⟨T, 0, none⟩)] w fun e w' => e = .returned (.tuple #[]) ∧ Db T E Ss.nul none 0 w' ∧ Kp [T] w w' := by
  obtain ⟨c0, c1, c2, c3, c4, c5, c6⟩ := h.c
  have z1 := h.zz 1
  have z2 := h.zz 2
  have z3 := h.zz 3
  have z4 := h.zz 4
  have z5 := h.zz 5
  have z6 := h.zz 6
  have HD := hidOf2 (h.set Ss.nul none 0)
  have HK := hidOf2 (kp_dset w T Ss.nul none 0)
  clear h
  go_enter Tryz.func15, Tryz.ntmps15
  go_wp2
  go_end0
  exact ⟨rfl, HD.out, HK.out⟩
theorem ends_results {Q : Nat} {f : F8} {w : World} (h : Qb Q f w) (tmps : Array Value) (h2 : tmps[4]?.getD undef = .pointer (some ⟨Q, 0, none⟩)) :
    (results Tryz.f36 tmps).run Tryz.prog w = .ok (.agg f.arr) w := by
  have l0 := h.load
  simp [Go.results, Tryz.results36, h2, asAddr, l0]
theorem enterFr : ∀ args x, (callFunc 19 args).run Tryz.prog x = .ok (.enter 19 args) x := fun _ _ => by rfl
set_option maxHeartbeats 4000000 in
theorem ends_any (h : Db T E s ao cp w) (c : Nat) (h1 : s.ix < 65536) (h2 : s.sb < 256) (h3 : c < 4294967296) : Calls Tryz.prog 36 #[.pointer (some ⟨T, 0, none⟩), .int .u32 (c : Int)] w fun e w' => e = .returned (.agg (frm 128 s.ix s.sb c).arr) ∧ Db T E Ss.nul none 0 w' ∧ Kp [T] w w' := by
  obtain ⟨wb, hW⟩ : ∃ W, w.alloc (.cells zA8 32) = W := ⟨_, rfl⟩
  obtain ⟨k, hk⟩ : ∃ k, w.heap.size = k := ⟨_, rfl⟩
  have b0 : Below w.heap.size w wb := hW ▸ (Below.refl _ _).alloc (Nat.le_refl _) _
  have r0 : Qb k F8.nul wb := by rw [← hk, ← hW]; exact heap_alloc_new w _
  have d0 := h.below b0
  have hTk : T < k := by rw [← hk]; exact h.lt
  have HFR : Hid (∀ V, Calls Tryz.prog 19 #[.int .u8 128, .int .u16 (s.ix : Int), .int .u8 (s.sb : Int), .int .u32 (c : Int)] V fun e w' => e = .returned (.agg (frm 128 s.ix s.sb c).arr) ∧ Below V.heap.size V w') := fun V => r10Frame_any 128 _ _ c V (by decide) h1 h2 h3
  have HSS : Hid (∀ y, Below wb.heap.size wb y → y.cell? ⟨T, 2, none⟩ = some (.int .u16 (s.ix : Int)) ∧ y.cell? ⟨T, 3, none⟩ = some (.int .u8 (s.sb : Int))) := fun y hb => ⟨(d0.below hb).c.2.2.1, (d0.below hb).c.2.2.2.1⟩
  generalize frm 128 s.ix s.sb c = ff at *
  have HD0 := hidOf2 d0
  obtain ⟨ix, hix⟩ : ∃ n, s.ix = n := ⟨_, rfl⟩
  obtain ⟨sb, hsb⟩ : ∃ n, s.sb = n := ⟨_, rfl⟩
  rw [hix, hsb] at HFR HSS
  have HB0 := hidOf2 b0
  clear h d0 b0
  go_enter Tryz.func36, Tryz.ntmps36
  have c0 : Below wb.heap.size wb wb.drew := bdr (Below.refl _ _) 1
  have S0 := HSS.out _ c0
  go_upto_region 1 with fail
  change Code.wp Tryz.prog _ _ _ (w.alloc (.cells zA8 32))
  rw [hW]
  refine wp_cut (α := Nat) (fun u y => Qb u ff y ∧ Below wb.heap.size wb y) (fun a u => (((((((((((a.put (some 6) (.pointer (some ⟨T, 0, none⟩))).put (some 7) (.pointer (some ⟨T, 0, none⟩))).put (some 8) (.pointer (some ⟨T, 2, none⟩))).put (some 9) (.int .u16 (ix : Int))).put (some 10) (.pointer (some ⟨T, 0, none⟩))).put (some 11) (.pointer (some ⟨T, 0, none⟩))).put (some 12) (.pointer (some ⟨T, 3, none⟩))).put (some 13) (.int .u8 (sb : Int))).put (some 14) (.int .u32 (c : Int))).put (some 15) (.agg (ff).arr)).put (some 5) (.pointer (some ⟨u, 0, none⟩)))) ?_ ?_
  · refine wp_region_held (S := fun y => y.cell? ⟨T, 2, none⟩ = some (.int .u16 (ix : Int)) ∧ y.cell? ⟨T, 3, none⟩ = some (.int .u8 (sb : Int))) (by kernel_rfl) ?_
    change wpAnyH _ _ _ _ _ _ _ _ wb.drew
    refine tk 0 (.pointer (some ⟨T, 0, none⟩)) rfl (by kernel_rfl) (fun _ _ _ h => nomatch h.1) rfl (fun _ hS => rfl) S0 ?_
    simp only [zzA, zzB, zzC, Act.put, zzD, zzE, zzF]
    refine tk 1 (.pointer (some ⟨T, 0, none⟩)) rfl (by kernel_rfl) (fun _ _ _ h => nomatch h.1) rfl (fun _ hS => by simp [execOp, go_sem, Act.eval]) S0 ?_
    simp only [zzA, zzB, zzC, Act.put, zzD, zzE, zzF]
    refine tk 2 (.pointer (some ⟨T, 2, none⟩)) rfl (by kernel_rfl) (fun _ _ _ h => nomatch h.1) rfl (fun _ hS => by simp [execOp, go_sem, Act.eval]) S0 ?_
    simp only [zzA, zzB, zzC, Act.put, zzD, zzE, zzF]
    refine tk 3 (.int .u16 (ix : Int)) rfl (by kernel_rfl) (fun _ _ _ h => nomatch h.1) rfl (fun _ hS => exec_load rfl rfl (load_u16 _ _ _ _ hS.1)) S0 ?_
    simp only [zzA, zzB, zzC, Act.put, zzD, zzE, zzF]
    refine tk 4 (.pointer (some ⟨T, 0, none⟩)) rfl (by kernel_rfl) (fun _ _ _ h => nomatch h.1) rfl (fun _ hS => rfl) S0 ?_
    simp only [zzA, zzB, zzC, Act.put, zzD, zzE, zzF]
    refine tk 5 (.pointer (some ⟨T, 0, none⟩)) rfl (by kernel_rfl) (fun _ _ _ h => nomatch h.1) rfl (fun _ hS => by simp [execOp, go_sem, Act.eval]) S0 ?_
    simp only [zzA, zzB, zzC, Act.put, zzD, zzE, zzF]
    refine tk 6 (.pointer (some ⟨T, 3, none⟩)) rfl (by kernel_rfl) (fun _ _ _ h => nomatch h.1) rfl (fun _ hS => by simp [execOp, go_sem, Act.eval]) S0 ?_
    simp only [zzA, zzB, zzC, Act.put, zzD, zzE, zzF]
    refine tk 7 (.int .u8 (sb : Int)) rfl (by kernel_rfl) (fun _ _ _ h => nomatch h.1) rfl (fun _ hS => exec_load rfl rfl (load_u8 _ _ _ _ hS.2)) S0 ?_
    simp only [zzA, zzB, zzC, Act.put, zzD, zzE, zzF]
    refine tk 8 (.int .u32 (c : Int)) rfl (by kernel_rfl) (fun _ _ _ h => nomatch h.1) rfl (fun _ hS => rfl) S0 ?_
    simp only [zzA, zzB, zzC, Act.put, zzD, zzE, zzF]
    refine wpAnyH_all (rs := [9, 10]) (by kernel_rfl) (by simp) ?_
    intro k hk
    simp only [List.mem_cons, List.mem_nil_iff, or_false] at hk
    rcases hk with rfl | rfl
    · refine wpOp_run rfl rfl (wp_call_fn 19 #[.int .u8 128, .int .u16 (ix : Int), .int .u8 (sb : Int), .int .u32 (c : Int)] (by simp [execOp, go_sem, Act.eval, resolve, invoke, enterFr]) ?_)
      refine (HFR.out wb.drew).mono ?_
      rintro e u1 ⟨rfl, b1⟩
      have c1 := c0.trans (b1.mono c0.size)
      have s1 := HSS.out _ c1
      refine ⟨s1, ?_⟩
      simp only [zzA, zzB, zzC, Act.put, zzD, zzE, zzF]
      refine wpAnyH_all (rs := [10]) (by kernel_rfl) (by simp) ?_
      intro k hk
      simp only [List.mem_cons, List.mem_nil_iff, or_false] at hk
      subst hk
      refine wpOp_run rfl rfl (wp_allocA8 rfl ?_)
      obtain ⟨qv, hqv⟩ : ∃ q, u1.heap.size = q := ⟨_, rfl⟩
      have g2 : Qb u1.heap.size F8.nul (u1.alloc (.cells zA8 32)) := heap_alloc_new u1 (.cells zA8 32)
      have c2 := c1.alloc c1.size (.cells zA8 32)
      have s2 := HSS.out _ c2
      have hqr : wb.heap.size ≤ qv := by rw [← hqv]; exact c1.size
      rw [hqv] at g2 ⊢
      generalize u1.alloc (.cells zA8 32) = u2 at *
      refine ⟨s2, ?_⟩
      simp only [zzA, zzB, zzC, Act.put, zzD, zzE, zzF]
      refine wpAnyH_all (rs := [11]) (by kernel_rfl) (by simp) ?_
      intro k hk
      simp only [List.mem_cons, List.mem_nil_iff, or_false] at hk
      subst hk
      refine wpOp_run rfl rfl (wp_store_row 32 _ _ rfl qv (ff).arr rfl rfl 32 _ g2 (by rw [F8.size]; exact infoA8s) rfl (F8.one _) ?_)
      have gZ := g2.row (ff)
      have cZ := below_row c2 hqr c2.size (q := qv) (ff).arr
      have sZ := HSS.out _ cZ
      refine ⟨sZ, ?_⟩
      simp only [zzA, zzB, zzC, Act.put, zzD, zzE, zzF]
      refine wpAnyH_done (by kernel_rfl) ?_ _
      exact ⟨rfl, qv, rfl, gZ, cZ⟩
    · refine wpOp_run rfl rfl (wp_allocA8 rfl ?_)
      obtain ⟨qv, hqv⟩ : ∃ q, wb.drew.heap.size = q := ⟨_, rfl⟩
      have g1 : Qb wb.drew.heap.size F8.nul (wb.drew.alloc (.cells zA8 32)) := heap_alloc_new wb.drew (.cells zA8 32)
      have c1 := c0.alloc c0.size (.cells zA8 32)
      have s1 := HSS.out _ c1
      have hqr : wb.heap.size ≤ qv := by rw [← hqv]; exact c0.size
      rw [hqv] at g1 ⊢
      generalize wb.drew.alloc (.cells zA8 32) = u1 at *
      refine ⟨s1, ?_⟩
      simp only [zzA, zzB, zzC, Act.put, zzD, zzE, zzF]
      refine wpAnyH_all (rs := [9]) (by kernel_rfl) (by simp) ?_
      intro k hk
      simp only [List.mem_cons, List.mem_nil_iff, or_false] at hk
      subst hk
      refine wpOp_run rfl rfl (wp_call_fn 19 #[.int .u8 128, .int .u16 (ix : Int), .int .u8 (sb : Int), .int .u32 (c : Int)] (by simp [execOp, go_sem, Act.eval, resolve, invoke, enterFr]) ?_)
      refine (HFR.out u1).mono ?_
      rintro e u2 ⟨rfl, b2⟩
      have c2 := c1.trans (b2.mono c1.size)
      have s2 := HSS.out _ c2
      have g2 := g1.below b2
      refine ⟨s2, ?_⟩
      simp only [zzA, zzB, zzC, Act.put, zzD, zzE, zzF]
      refine wpAnyH_all (rs := [11]) (by kernel_rfl) (by simp) ?_
      intro k hk
      simp only [List.mem_cons, List.mem_nil_iff, or_false] at hk
      subst hk
      refine wpOp_run rfl rfl (wp_store_row 32 _ _ rfl qv (ff).arr rfl rfl 32 _ g2 (by rw [F8.size]; exact infoA8s) rfl (F8.one _) ?_)
      have gZ := g2.row (ff)
      have cZ := below_row c2 hqr c2.size (q := qv) (ff).arr
      have sZ := HSS.out _ cZ
      refine ⟨sZ, ?_⟩
      simp only [zzA, zzB, zzC, Act.put, zzD, zzE, zzF]
      refine wpAnyH_done (by kernel_rfl) ?_ _
      exact ⟨rfl, qv, rfl, gZ, cZ⟩
  intro u y hI
  simp only [Act.put, List.setIfInBounds_toArray, List.set_cons_succ, List.set_cons_zero]
  obtain ⟨g3, b3⟩ := hI
  have d3 := HD0.out.below b3
  have r3 := r0.below b3
  have hR := Rests_any d3
  have HB3 := hidOf2 (HB0.out.trans (b3.mono HB0.out.size))
  have hTu : T ≠ u := by
    rintro rfl
    have h9 : y.heap[T]? = some (.cells (dsC E s ao cp).toArray 85 (0, 0)) := d3
    rw [show y.heap[T]? = some (.cells ff.arr 32 (0, 0)) from g3] at h9
    injection h9 with h9
    injection h9 with _ h9
    revert h9
    decide
  clear c0 S0 HSS HFR HB0 b3
  go_wp2_with fail
  refine hR.mono ?_
  rintro e w4 ⟨rfl, d4, K4⟩
  have g4 : Qb u ff w4 := (K4.block _ g3.lt (by simp; omega)).trans g3
  have r4 : Qb k F8.nul w4 := (K4.block _ r3.lt (by simp; omega)).trans r3
  have l4 := g4.load
  have r5 := r4.row ff
  have d5 := hidOf2 (show Db T E Ss.nul none 0 (w4.setRow k ff.arr) from (setRow_other _ _ _ _ (by omega)).trans d4)
  have K5 := hidOf2 (((Kp.of_below (bs := [T]) HB3.out).trans K4).fresh (Kp.setRow1 w4 k ff.arr) (fun b hb => .inr (by simp at hb; omega)))
  clear hR d3 g3 r3 K4 d4 HB3
  go_wp2_with (first | (refine ldG l4 rfl _ rfl rfl ?_) | (refine sdF (g := ff) r4 rfl _ _ rfl rfl rfl ?_))
  exact bodyPost_ret (ends_results r5 _ rfl) rfl ⟨rfl, d5.out, K5.out⟩
end
end Go.Proofs.YtahfnknbmikmkaaGreat
