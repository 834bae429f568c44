/- Contracts: what is read out of a frame, and how one is made. -/
import Derived.Test.YtebjofkblfmkmaaBkF
namespace Go.Proofs.Ytebjofkblfmkmaa
open Go.RowKit Go.Proofs.Ty
set_option linter.unusedVariables false
set_option maxRecDepth 1000000
set_option linter.unusedSimpArgs false
theorem and16 : ∀ n < 256, bits .and .u8 ((n : Nat) : Int) 16 = ((16 * (n / 16 % 2) : Nat) : Int) := by decide +kernel
/-- A place. -/
def spA (ix sb : Nat) : Array Value := #[.int .u16 (ix : Int), .int .u8 (sb : Int)]
theorem spA_size (ix sb : Nat) : (spA ix sb).size = 2 := rfl
theorem spA_one (ix sb : Nat) : ((spA ix sb).all fun x => x.oneCell') = true := by simp [spA, Value.oneCell']
def Sp (q ix sb : Nat) (w : World) : Prop := w.heap[q]? = some (.cells (spA ix sb) 77 (0, 0))
theorem Sp.load {q ix sb : Nat} {w : World} (h : Sp q ix sb w) : (loadVar 77 ⟨q, 0, none⟩).run Try.prog w = .ok (.agg (spA ix sb)) w :=
  run_loadVar_row w q 77 77 _ (0, 0) _ h Try.underlying77 rfl infoSp
theorem Sp.new (w : World) (ix sb : Nat) : Sp w.heap.size ix sb (w.alloc (.cells (spA ix sb) 77)) := heap_alloc_new w _
theorem Sp.lt {q ix sb : Nat} {w : World} (h : Sp q ix sb w) : q < w.heap.size := (Array.getElem?_eq_some_iff.1 h).1
theorem Sp.below {q ix sb : Nat} {w x : World} (h : Sp q ix sb w) (hb : Below w.heap.size w x) : Sp q ix sb x := (hb.block q h.lt).trans h
theorem Sp.c0 {q ix sb : Nat} {w : World} (h : Sp q ix sb w) : w.cell? ⟨q, 0, none⟩ = some (.int .u16 (ix : Int)) := Lib.cell_of_heap h 0
theorem Sp.c1 {q ix sb : Nat} {w : World} (h : Sp q ix sb w) : w.cell? ⟨q, 1, none⟩ = some (.int .u8 (sb : Int)) := Lib.cell_of_heap h 1
theorem Sp.row {q ix sb : Nat} {w : World} (h : Sp q ix sb w) (jx tb : Nat) : Sp q jx tb (w.setRow q (spA jx tb)) := setRow_heap w q (spA ix sb) _ 77 _ h
theorem sdS {w : World} {ops : Array Oper} {rest : List Oper} {p : Oper} {a : Act} {Q : Exit → Act → World → Prop} {b ix sb jx tb : Nat} (h : Sp b ix sb w) (hgd : p.guard = none) (x y : Operand) (ho : p.op = .store 77 x y) (hx : a.eval x = .pointer (some ⟨b, 0, none⟩)) (hy : a.eval y = .agg (spA jx tb))
    (hh : wpList Try.prog ops Q rest (a.put p.dst undef) (w.setRow b (spA jx tb))) : wpList Try.prog ops Q (p :: rest) a w :=
  wpList_store_row hgd 77 x y ho b (spA jx tb) hx hy 77 _ h infoSp rfl (spA_one _ _) hh
theorem build_sp (x : World) (a b : Nat) : (Instr.build 77 #[(0, .int .u16 a), (1, .int .u8 b)]).run Try.prog x = .ok (.agg (spA a b)) x := by kernel_rfl
theorem joinIx (a b : Nat) (ha : a < 256) (hb : b < 256) : bits .or .u16 (a : Int) ((b : Int) * 256) = ((a + 256 * b : Nat) : Int) := by
  have e : (b : Int) * 256 = ((256 * b : Nat) : Int) := by omega
  rw [e, u16_or_nat _ _ (by omega) (by omega), nat_join8' _ _ (by omega) ha, Nat.add_comm]
/-- The contents of a frame of a first byte and a place. -/
theorem frm_0 (a ix sb : Nat) (h0 : a < 256) (h1 : ix < 65536) (h2 : sb < 256) : (frm a ix sb 0).arr = #[.int .u8 (a : Int), .int .u8 ((ix : Int) % 256), .int .u8 ((ix : Int) / 256), .int .u8 (sb : Int), .int .u8 0, .int .u8 0, .int .u8 0, .int .u8 0] := by
  unfold F8.arr
  rw [frm_c a ix sb 0 h0 h1 h2 (by omega)]
  rfl
theorem answer_results {Q : Nat} {f : F8} {w : World} (h : Qb Q f w) (tmps : Array Value) (h2 : tmps[4]?.getD undef = .pointer (some ⟨Q, 0, none⟩)) :
    (results Try.f48 tmps).run Try.prog w = .ok (.agg f.arr) w := by
  have l0 := h.load
  simp [Go.results, Try.results48, h2, asAddr, l0]
theorem counted_results {Q : Nat} {f : F8} {w : World} (h : Qb Q f w) (tmps : Array Value) (h2 : tmps[6]?.getD undef = .pointer (some ⟨Q, 0, none⟩)) :
    (results Try.f47 tmps).run Try.prog w = .ok (.agg f.arr) w := by
  have l0 := h.load
  simp [Go.results, Try.results47, h2, asAddr, l0]
theorem abort_results {Q : Nat} {f : F8} {w : World} (h : Qb Q f w) (tmps : Array Value) (h2 : tmps[6]?.getD undef = .pointer (some ⟨Q, 0, none⟩)) :
    (results Try.f46 tmps).run Try.prog w = .ok (.agg f.arr) w := by
  have l0 := h.load
  simp [Go.results, Try.results46, h2, asAddr, l0]
theorem rframe_results {Q : Nat} {f : F8} {w : World} (h : Qb Q f w) (tmps : Array Value) (h2 : tmps[8]?.getD undef = .pointer (some ⟨Q, 0, none⟩)) :
    (results Try.f43 tmps).run Try.prog w = .ok (.agg f.arr) w := by
  have l0 := h.load
  simp [Go.results, Try.results43, h2, asAddr, l0]
/-- A new block with nothing in it. -/
def zA8 : Array Value := #[.int .u8 0, .int .u8 0, .int .u8 0, .int .u8 0, .int .u8 0, .int .u8 0, .int .u8 0, .int .u8 0]
theorem nulA : F8.nul.arr = zA8 := rfl
theorem build_a4 (x : World) (a b c d : Int) : (Instr.build 30 #[(0, .int .u8 a), (1, .int .u8 b), (2, .int .u8 c), (3, .int .u8 d)]).run Try.prog x = .ok (.agg #[.int .u8 a, .int .u8 b, .int .u8 c, .int .u8 d, .int .u8 0, .int .u8 0, .int .u8 0, .int .u8 0]) x := by kernel_rfl
set_option maxHeartbeats 2000000 in
theorem answer_any (a ix sb : Nat) (w : World) (h0 : a < 256) (h1 : ix < 65536) (h2 : sb < 256) : Calls Try.prog 48 #[.agg (spA ix sb), .int .u8 (a : Int)] w fun e w' => e = .returned (.agg (frm a ix sb 0).arr) ∧ Below w.heap.size w w' := by
  have B0 : Below w.heap.size w (w.alloc (.cells (spA ix sb) 77)) := (Below.refl _ _).alloc (Nat.le_refl _) _
  have p0 := Sp.new w ix sb
  obtain ⟨q, hq⟩ : ∃ q, w.heap.size = q := ⟨_, rfl⟩
  obtain ⟨W, hW⟩ : ∃ W, w.alloc (.cells (spA ix sb) 77) = W := ⟨_, rfl⟩
  have hWs : W.heap.size = q + 1 := by rw [← hW, size_alloc, hq]
  have hz : Qb (q + 1) F8.nul (W.alloc (.cells zA8 30)) := by rw [← hWs]; exact heap_alloc_new W _
  have B1 : Below w.heap.size w (W.alloc (.cells zA8 30)) := (hW ▸ B0).alloc (by rw [hWs, hq]; omega) _
  have p1 : Sp q ix sb (W.alloc (.cells zA8 30)) := by
    rw [hq, hW] at p0
    exact (Lib.alloc_old W _ q p0.lt).trans p0
  have c0 := p1.c0
  have c1 := p1.c1
  have HF := frm_0 a ix sb h0 h1 h2
  have hr := hz.row (frm a ix sb 0)
  clear p0 B0
  go_enter Try.func48, Try.ntmps48
  go_upto_region 1 with fail
  change Code.wp Try.prog _ _ _ (W.alloc (.cells zA8 30))
  generalize W.alloc (.cells zA8 30) = V at *
  go_wp2_with (first | (refine sdF (g := frm a ix sb 0) hz rfl _ _ rfl rfl (by rw [HF]; first | rfl | (simp [Act.eval]; done)) ?_))
  exact bodyPost_ret (answer_results hr _ rfl) rfl ⟨rfl, below_row B1 (by omega) B1.size (q := q + 1) _⟩
end Go.Proofs.Ytebjofkblfmkmaa
