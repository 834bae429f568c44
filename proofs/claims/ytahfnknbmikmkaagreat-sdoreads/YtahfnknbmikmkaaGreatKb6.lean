/- Contracts: what is read out of a frame, and how one is made. Contracts: numbers in frames; what gives up. Contracts: a number out of a frame; pass, Abort; the document's Frame. -/
import Derived.Test.YtahfnknbmikmkaaGreatKb5
namespace Go.Proofs.YtahfnknbmikmkaaGreat
open Go.RowKit Go.Proofs.Ty
set_option linter.unusedVariables false
set_option maxRecDepth 1000000
set_option linter.unusedSimpArgs false
theorem and16 : ∀ n < 256, bits .and .u8 ((n : Nat) : Int) 16 = ((16 * (n / 16 % 2) : Nat) : Int) := by decide +kernel
theorem command_any (f : F8) (w : World) : Calls Tryz.prog 62 #[.agg f.arr] w fun e w' => e = .returned (.int .u8 ((f.b0.toNat / 32 : Nat) : Int)) ∧ Below w.heap.size w w' := by
  have B0 : Below w.heap.size w (w.alloc (.cells f.arr 32)) := (Below.refl _ _).alloc (Nat.le_refl _) _
  have c0 := (Qb.new w f).c0
  have hb := f.b0.toNat_lt
  generalize f.b0.toNat = n at *
  generalize f.arr = A at *
  go_enter Tryz.func62, Tryz.ntmps62
  go_wp2
  go_ret
  exact ⟨ret_int (by omega), B0⟩
theorem turn_any (f : F8) (w : World) : Calls Tryz.prog 108 #[.agg f.arr] w fun e w' => e = .returned (.int .u8 ((16 * (f.b0.toNat / 16 % 2) : Nat) : Int)) ∧ Below w.heap.size w w' := by
  have B0 : Below w.heap.size w (w.alloc (.cells f.arr 32)) := (Below.refl _ _).alloc (Nat.le_refl _) _
  have c0 := (Qb.new w f).c0
  have hb := and16 _ f.b0.toNat_lt
  generalize f.b0.toNat = n at *
  generalize f.arr = A at *
  go_enter Tryz.func108, Tryz.ntmps108
  go_wp2
  go_ret
  exact ⟨ret_int (by omega), B0⟩
/-- A place. -/
def spA (ix sb : Nat) : Array Value := #[.int .u16 (ix : Int), .int .u8 (sb : Int)]
theorem spA_one (ix sb : Nat) : ((spA ix sb).all fun x => x.oneCell') = true := by simp [spA, Value.oneCell']
def Sp (q ix sb : Nat) (w : World) : Prop := w.heap[q]? = some (.cells (spA ix sb) 87 (0, 0))
theorem Sp.load {q ix sb : Nat} {w : World} (h : Sp q ix sb w) : (loadVar 87 ⟨q, 0, none⟩).run Tryz.prog w = .ok (.agg (spA ix sb)) w :=
  run_loadVar_row w q 87 87 _ (0, 0) _ h Tryz.underlying87 rfl infoSp
theorem Sp.new (w : World) (ix sb : Nat) : Sp w.heap.size ix sb (w.alloc (.cells (spA ix sb) 87)) := heap_alloc_new w _
theorem Sp.lt {q ix sb : Nat} {w : World} (h : Sp q ix sb w) : q < w.heap.size := (Array.getElem?_eq_some_iff.1 h).1
theorem Sp.below {q ix sb : Nat} {w x : World} (h : Sp q ix sb w) (hb : Below w.heap.size w x) : Sp q ix sb x := (hb.block q h.lt).trans h
theorem Sp.c0 {q ix sb : Nat} {w : World} (h : Sp q ix sb w) : w.cell? ⟨q, 0, none⟩ = some (.int .u16 (ix : Int)) := Lib.cell_of_heap h 0
theorem Sp.c1 {q ix sb : Nat} {w : World} (h : Sp q ix sb w) : w.cell? ⟨q, 1, none⟩ = some (.int .u8 (sb : Int)) := Lib.cell_of_heap h 1
theorem Sp.row {q ix sb : Nat} {w : World} (h : Sp q ix sb w) (jx tb : Nat) : Sp q jx tb (w.setRow q (spA jx tb)) := setRow_heap w q (spA ix sb) _ 87 _ h
theorem sdS {w : World} {ops : Array Oper} {rest : List Oper} {p : Oper} {a : Act} {Q : Exit → Act → World → Prop} {b ix sb jx tb : Nat} (h : Sp b ix sb w) (hgd : p.guard = none) (x y : Operand) (ho : p.op = .store 87 x y) (hx : a.eval x = .pointer (some ⟨b, 0, none⟩)) (hy : a.eval y = .agg (spA jx tb))
    (hh : wpList Tryz.prog ops Q rest (a.put p.dst undef) (w.setRow b (spA jx tb))) : wpList Tryz.prog ops Q (p :: rest) a w :=
  wpList_store_row hgd 87 x y ho b (spA jx tb) hx hy 87 _ h infoSp rfl (spA_one _ _) hh
theorem spotOf_results {Q ix sb : Nat} {w : World} (h : Sp Q ix sb w) (tmps : Array Value) (h2 : tmps[2]?.getD undef = .pointer (some ⟨Q, 0, none⟩)) :
    (results Tryz.f67 tmps).run Tryz.prog w = .ok (.agg (spA ix sb)) w := by
  have l0 := h.load
  simp [Go.results, Tryz.results67, h2, asAddr, l0]
theorem joinIx (a b : Nat) (ha : a < 256) (hb : b < 256) : bits .or .u16 (a : Int) ((b : Int) * 256) = ((a + 256 * b : Nat) : Int) := by
  have e : (b : Int) * 256 = ((256 * b : Nat) : Int) := by omega
  rw [e, u16_or_nat _ _ (by omega) (by omega), nat_join8' _ _ (by omega) ha, Nat.add_comm]
set_option maxHeartbeats 2000000 in
theorem spotOf_any (f : F8) (w : World) : Calls Tryz.prog 67 #[.agg f.arr] w fun e w' => e = .returned (.agg (spA (pix f) (psb f))) ∧ Below w.heap.size w w' := by
  have B0 : Below w.heap.size w (w.alloc (.cells f.arr 32)) := (Below.refl _ _).alloc (Nat.le_refl _) _
  have q0 := Qb.new w f
  obtain ⟨q, hq⟩ : ∃ q, w.heap.size = q := ⟨_, rfl⟩
  have hP : pix f = f.b1.toNat + 256 * f.b2.toNat := rfl
  have hj := joinIx f.b1.toNat f.b2.toNat f.b1.toNat_lt f.b2.toNat_lt
  rw [← hP] at hj
  generalize pix f = P at *
  have hs : psb f = f.b3.toNat := rfl
  rw [hs]
  have s0 := B0.size
  obtain ⟨W, hW⟩ : ∃ W, w.alloc (.cells f.arr 32) = W := ⟨_, rfl⟩
  have hWs : W.heap.size = q + 1 := by rw [← hW, size_alloc, hq]
  have hz : (W.alloc (.cells (spA 0 0) 87)).heap[q + 1]? = some (.cells (spA 0 0) 87 (0, 0)) := by rw [← hWs]; exact heap_alloc_new W _
  have B1 : Below w.heap.size w (W.alloc (.cells (spA 0 0) 87)) := (hW ▸ B0).alloc (by rw [hWs, hq]; omega) _
  have q1 : Qb q f (W.alloc (.cells (spA 0 0) 87)) := by
    rw [hq, hW] at q0
    exact (Lib.alloc_old W _ q q0.lt).trans q0
  have c1 := q1.c1
  have c2 := q1.c2
  have c3 := q1.c3
  have hb3 := f.b3.toNat_lt
  have hb2 := f.b2.toNat_lt
  have hb1 := f.b1.toNat_lt
  clear q0 B0 hP hs
  go_enter Tryz.func67, Tryz.ntmps67
  go_upto_region 1 with fail
  change Code.wp Tryz.prog _ _ _ (W.alloc (.cells (spA 0 0) 87))
  generalize W.alloc (.cells (spA 0 0) 87) = V at *
  go_wp2_with (first | (refine sdS (jx := P) (tb := f.b3.toNat) hz rfl _ _ rfl rfl rfl ?_))
  exact bodyPost_ret (spotOf_results (Sp.row hz P f.b3.toNat) _ rfl) rfl ⟨rfl, below_row B1 (by omega) B1.size (q := q + 1) _⟩
/-- The contents of a frame of a first byte and a place. -/
theorem frm_0 (a ix sb : Nat) (h0 : a < 256) (h1 : ix < 65536) (h2 : sb < 256) : (frm a ix sb 0).arr = #[.int .u8 (a : Int), .int .u8 ((ix : Int) % 256), .int .u8 ((ix : Int) / 256), .int .u8 (sb : Int), .int .u8 0, .int .u8 0, .int .u8 0, .int .u8 0] := by
  unfold F8.arr
  rw [frm_c a ix sb 0 h0 h1 h2 (by omega)]
  rfl
theorem answer_results {Q : Nat} {f : F8} {w : World} (h : Qb Q f w) (tmps : Array Value) (h2 : tmps[4]?.getD undef = .pointer (some ⟨Q, 0, none⟩)) :
    (results Tryz.f72 tmps).run Tryz.prog w = .ok (.agg f.arr) w := by
  have l0 := h.load
  simp [Go.results, Tryz.results72, h2, asAddr, l0]
theorem counted_results {Q : Nat} {f : F8} {w : World} (h : Qb Q f w) (tmps : Array Value) (h2 : tmps[6]?.getD undef = .pointer (some ⟨Q, 0, none⟩)) :
    (results Tryz.f41 tmps).run Tryz.prog w = .ok (.agg f.arr) w := by
  have l0 := h.load
  simp [Go.results, Tryz.results41, h2, asAddr, l0]
theorem abort_results {Q : Nat} {f : F8} {w : World} (h : Qb Q f w) (tmps : Array Value) (h2 : tmps[6]?.getD undef = .pointer (some ⟨Q, 0, none⟩)) :
    (results Tryz.f18 tmps).run Tryz.prog w = .ok (.agg f.arr) w := by
  have l0 := h.load
  simp [Go.results, Tryz.results18, h2, asAddr, l0]
theorem frame_results {Q : Nat} {f : F8} {w : World} (h : Qb Q f w) (tmps : Array Value) (h2 : tmps[2]?.getD undef = .pointer (some ⟨Q, 0, none⟩)) :
    (results Tryz.f61 tmps).run Tryz.prog w = .ok (.agg f.arr) w := by
  have l0 := h.load
  simp [Go.results, Tryz.results61, h2, asAddr, l0]
theorem rframe_results {Q : Nat} {f : F8} {w : World} (h : Qb Q f w) (tmps : Array Value) (h2 : tmps[8]?.getD undef = .pointer (some ⟨Q, 0, none⟩)) :
    (results Tryz.f19 tmps).run Tryz.prog w = .ok (.agg f.arr) w := by
  have l0 := h.load
  simp [Go.results, Tryz.results19, h2, asAddr, l0]
/-- A new block with nothing in it. -/
def zA8 : Array Value := #[.int .u8 0, .int .u8 0, .int .u8 0, .int .u8 0, .int .u8 0, .int .u8 0, .int .u8 0, .int .u8 0]
set_option maxHeartbeats 2000000 in
theorem answer_any (a ix sb : Nat) (w : World) (h0 : a < 256) (h1 : ix < 65536) (h2 : sb < 256) : Calls Tryz.prog 72 #[.agg (spA ix sb), .int .u8 (a : Int)] w fun e w' => e = .returned (.agg (frm a ix sb 0).arr) ∧ Below w.heap.size w w' := by
  have B0 : Below w.heap.size w (w.alloc (.cells (spA ix sb) 87)) := (Below.refl _ _).alloc (Nat.le_refl _) _
  have p0 := Sp.new w ix sb
  obtain ⟨q, hq⟩ : ∃ q, w.heap.size = q := ⟨_, rfl⟩
  obtain ⟨W, hW⟩ : ∃ W, w.alloc (.cells (spA ix sb) 87) = W := ⟨_, rfl⟩
  have hWs : W.heap.size = q + 1 := by rw [← hW, size_alloc, hq]
  have hz : Qb (q + 1) F8.nul (W.alloc (.cells zA8 32)) := by rw [← hWs]; exact heap_alloc_new W _
  have B1 : Below w.heap.size w (W.alloc (.cells zA8 32)) := (hW ▸ B0).alloc (by rw [hWs, hq]; omega) _
  have p1 : Sp q ix sb (W.alloc (.cells zA8 32)) := by
    rw [hq, hW] at p0
    exact (Lib.alloc_old W _ q p0.lt).trans p0
  have c0 := p1.c0
  have c1 := p1.c1
  have HF := frm_0 a ix sb h0 h1 h2
  have hr := hz.row (frm a ix sb 0)
  clear p0 B0
  go_enter Tryz.func72, Tryz.ntmps72
  go_upto_region 1 with fail
  change Code.wp Tryz.prog _ _ _ (W.alloc (.cells zA8 32))
  generalize W.alloc (.cells zA8 32) = V at *
  go_wp2_with (first | (refine sdF (g := frm a ix sb 0) hz rfl _ _ rfl rfl (by rw [HF]; first | rfl | (simp [Act.eval]; done)) ?_))
  exact bodyPost_ret (answer_results hr _ rfl) rfl ⟨rfl, below_row B1 (by omega) B1.size (q := q + 1) _⟩
end Go.Proofs.YtahfnknbmikmkaaGreat
namespace Go.Proofs.YtahfnknbmikmkaaGreat
open Go.RowKit Go.Proofs.Ty
set_option linter.unusedVariables false
set_option maxRecDepth 1000000
set_option linter.unusedSimpArgs false
def fk (a ix sb n k : Nat) : F8 := ⟨.ofNat a, .ofNat (ix % 256), .ofNat (ix / 256), .ofNat sb, if 4 < k then .ofNat (n % 256) else 0, if 5 < k then .ofNat (n / 256 % 256) else 0, if 6 < k then .ofNat (n / 65536 % 256) else 0, if 7 < k then .ofNat (n / 16777216) else 0⟩
theorem Qb.set {q : Nat} {f : F8} {w : World} (h : Qb q f w) (k : Nat) (v : Value) {g : F8} (hg : f.arr.setIfInBounds k v = g.arr) : Qb q g (w.setCell ⟨q, k, none⟩ v) := by
  unfold Qb at *
  simp [World.setCell, Array.getElem?_modify, h, hg]
theorem fk_step (a ix sb n k : Nat) (hn : n < 4294967296) (h1 : 4 ≤ k) (h2 : k < 8) (z : Int) (hz : z = ((n / 256 ^ (k - 4) % 256 : Nat) : Int)) : (fk a ix sb n k).arr.setIfInBounds k (.int .u8 z) = (fk a ix sb n (k + 1)).arr := by
  subst hz
  obtain rfl | rfl | rfl | rfl : k = 4 ∨ k = 5 ∨ k = 6 ∨ k = 7 := by omega
  · simp [fk, F8.arr, F8.c]
  · simp [fk, F8.arr, F8.c]
  · simp [fk, F8.arr, F8.c]
  · simp [fk, F8.arr, F8.c]
theorem Qb.other {q : Nat} {f : F8} {w : World} (h : Qb q f w) {p : Addr} (hp : q ≠ p.block) (v : Value) : Qb q f (w.setCell p v) := (Below.heap_setCell w p v q hp).trans h
theorem Qb.zz {q : Nat} {f : F8} {w : World} (h : Qb q f w) (k : Nat) : w.frozen? ⟨q, k, none⟩ = false := Lib.frozen_of_heap h k
theorem Qb.any8 {q : Nat} {f : F8} {w : World} (h : Qb q f w) (k : Nat) (hk : k < 8) : ∃ z : Int, w.cell? ⟨q, k, none⟩ = some (.int .u8 z) := by
  obtain rfl | rfl | rfl | rfl | rfl | rfl | rfl | rfl : k = 0 ∨ k = 1 ∨ k = 2 ∨ k = 3 ∨ k = 4 ∨ k = 5 ∨ k = 6 ∨ k = 7 := by omega
  · exact ⟨_, h.c0⟩
  · exact ⟨_, h.c1⟩
  · exact ⟨_, h.c2⟩
  · exact ⟨_, h.c3⟩
  · exact ⟨_, h.c4⟩
  · exact ⟨_, h.c5⟩
  · exact ⟨_, h.c6⟩
  · exact ⟨_, h.c7⟩
theorem val_u32 {a b : Int} (h : a = b) : Value.int .u32 a = .int .u32 b := by rw [h]
theorem div_step (n k : Nat) (h1 : 4 ≤ k) : n / 256 ^ (k - 4) / 256 = n / 256 ^ (k + 1 - 4) := by
  rw [Nat.div_div_eq_div_mul, show k + 1 - 4 = (k - 4) + 1 by omega, Nat.pow_succ]
set_option maxHeartbeats 4000000 in
theorem counted_any (a ix sb n : Nat) (w : World) (h0 : a < 256) (h1 : ix < 65536) (h2 : sb < 256) (h3 : n < 4294967296) : Calls Tryz.prog 41 #[.agg (spA ix sb), .int .u8 (a : Int), .int .u32 (n : Int)] w fun e w' => e = .returned (.agg (frm a ix sb n).arr) ∧ Below w.heap.size w w' := by
  have B0 : Below w.heap.size w (w.alloc (.cells (spA ix sb) 87)) := (Below.refl _ _).alloc (Nat.le_refl _) _
  have p0 := Sp.new w ix sb
  obtain ⟨q, hq⟩ : ∃ q, w.heap.size = q := ⟨_, rfl⟩
  obtain ⟨W, hW⟩ : ∃ W, w.alloc (.cells (spA ix sb) 87) = W := ⟨_, rfl⟩
  have hWs : W.heap.size = q + 1 := by rw [← hW, size_alloc, hq]
  have hz : Qb (q + 1) F8.nul (W.alloc (.cells zA8 32)) := by rw [← hWs]; exact heap_alloc_new W _
  have B1 : Below w.heap.size w (W.alloc (.cells zA8 32)) := (hW ▸ B0).alloc (by rw [hWs, hq]; omega) _
  have p1 : Sp q ix sb (W.alloc (.cells zA8 32)) := by
    rw [hq, hW] at p0
    exact (Lib.alloc_old W _ q p0.lt).trans p0
  have hA : ∀ V, Calls Tryz.prog 72 #[.agg (spA ix sb), .int .u8 (a : Int)] V fun e w' => e = .returned (.agg (frm a ix sb 0).arr) ∧ Below V.heap.size V w' := fun V => answer_any a ix sb V h0 h1 h2
  clear p0 B0
  go_enter Tryz.func41, Tryz.ntmps41
  go_upto_region 1 with fail
  change Code.wp Tryz.prog _ _ _ (W.alloc (.cells zA8 32))
  generalize W.alloc (.cells zA8 32) = V at *
  have pl := p1.load
  go_wp2_with (first | (refine ldG pl rfl _ rfl rfl ?_))
  refine (hA _).mono ?_
  rintro e w1 ⟨rfl, b1⟩
  have hz1 := hz.below b1
  have B2 := B1.trans (b1.mono B1.size)
  have hl1 := hz1.lt
  have HQ := hidOf2 hq
  obtain ⟨r, hr⟩ : ∃ r, w1.heap.size = r := ⟨_, rfl⟩
  have hy : Qb r F8.nul (w1.alloc (.cells zA8 32)) := by rw [← hr]; exact heap_alloc_new w1 _
  have hz2 : Qb (q + 1) F8.nul (w1.alloc (.cells zA8 32)) := (Lib.alloc_old w1 _ _ hl1).trans hz1
  have B3 : Below w.heap.size w (w1.alloc (.cells zA8 32)) := B2.alloc B2.size _
  have hqr : q + 1 < r := by rw [← hr]; exact hl1
  have hy2 := hy.row (frm a ix sb 0)
  have hz3 : Qb (q + 1) F8.nul ((w1.alloc (.cells zA8 32)).setRow r (frm a ix sb 0).arr) := (setRow_other _ _ _ _ (by omega)).trans hz2
  have B4 := below_row B3 (by rw [HQ.out]; omega) B3.size (q := r) (frm a ix sb 0).arr
  have HV : Hid (∀ X, X = (w1.alloc (.cells zA8 32)).setRow r (frm a ix sb 0).arr → Qb r (fk a ix sb n 4) X ∧ Qb (q + 1) F8.nul X ∧ Below w.heap.size w X) := fun X hX => by subst hX; exact ⟨hy2, hz3, B4⟩
  clear hy2 hz3 B4 hz2 B3 B2 hz1 b1 pl p1 hz B1 hA
  go_upto_region 2 with (first | (refine sdF (g := frm a ix sb 0) hy rfl _ _ rfl rfl rfl ?_))
  clear hy
  go_wp2_with fail
  go_loopw [2, 8] (fun m i x => ∃ (k j : Nat), 4 ≤ k ∧ k ≤ 8 ∧ i = .int .i64 k ∧ m = .int .u32 (j : Nat) ∧ Hid (j = n / 256 ^ (k - 4)) ∧ Hid (Qb r (fk a ix sb n k) x) ∧ Hid (Qb (q + 1) F8.nul x) ∧ Hid (Below w.heap.size w x)) (fun _ i _ => 8 - (intOf i).toNat)
  case atStart =>
    obtain ⟨x1, x2, x3⟩ := HV.out _ rfl
    exact ⟨4, n, by omega, by omega, rfl, rfl, (by show n = _; simp), x1, x2, x3⟩
  case round =>
    obtain ⟨k, j, hk1, hk2, rfl, rfl, HJ, HQ1, HQ2, HQ3⟩ := hrel
    clear HV
    have hjl : j < 4294967296 := by rw [HJ.out]; exact Nat.lt_of_le_of_lt (Nat.div_le_self _ _) h3
    by_cases hk : k < 8
    · obtain ⟨z, hzc⟩ := HQ1.out.any8 k hk
      have hzz := HQ1.out.zz k
      have HN : Hid (∀ X, X = wr.setCell ⟨r, k, none⟩ (.int .u8 ((j : Int) % 256)) → Qb r (fk a ix sb n (k + 1)) X ∧ Qb (q + 1) F8.nul X ∧ Below w.heap.size w X) := fun X hX => by
        subst hX
        refine ⟨HQ1.out.set k _ (fk_step a ix sb n k h3 hk1 hk _ ?_), HQ2.out.other (by show q + 1 ≠ r; omega) _, HQ3.out.setCell (p := ⟨r, k, none⟩) (by rw [HQ.out]; show q ≤ r; omega) _⟩
        rw [HJ.out]
        simp
      go_wp2
      go_roundw
      case rel =>
        obtain ⟨y1, y2, y3⟩ := HN.out _ rfl
        exact ⟨k + 1, j / 256, by omega, by omega, by go_num, val_u32 (by simp), (by show _ = _; rw [HJ.out]; exact div_step n k hk1), y1, y2, y3⟩
      case measure => simp [intOf]; omega
    · obtain rfl : k = 8 := by omega
      have y1 : Qb r (frm a ix sb n) wr := HQ1.out
      have y2 := HQ2.out
      have y1l := y1.load
      have y3 := y2.row (frm a ix sb n)
      have y4 := below_row HQ3.out (by rw [HQ.out]; omega) HQ3.out.size (q := q + 1) (frm a ix sb n).arr
      go_wp2_with (first | (refine ldG y1l rfl _ rfl rfl ?_) | (refine sdF (g := frm a ix sb n) y2 rfl _ _ rfl rfl rfl ?_))
      exact bodyPost_ret (counted_results y3 _ rfl) rfl ⟨rfl, y4⟩
end Go.Proofs.YtahfnknbmikmkaaGreat
namespace Go.Proofs.YtahfnknbmikmkaaGreat
open Go.RowKit Go.Proofs.Ty
set_option linter.unusedVariables false
set_option maxRecDepth 1000000
set_option linter.unusedSimpArgs false
theorem joinN (m b : Nat) (hm : m < 16777216) (hb : b < 256) : bits .or .u32 ((m : Int) * 256) (b : Int) = ((m * 256 + b : Nat) : Int) := by
  have e : (m : Int) * 256 = ((m * 256 : Nat) : Int) := by omega
  rw [e, u32_or_nat _ _ (by omega) (by omega), nat_join8 _ _ (by omega) hb]
theorem wrapN (m : Nat) (hm : m < 16777216) : IntKind.u32.wrap ((m : Int) * 256) = (m : Int) * 256 := by
  simp [IntKind.wrap, IntKind.bits, IntKind.signed]
  omega
/-- The bytes that are read when place i is to come. -/
def nk (f : F8) : Nat → Nat
  | 7 => 0
  | 6 => f.b7.toNat
  | 5 => f.b7.toNat * 256 + f.b6.toNat
  | 4 => (f.b7.toNat * 256 + f.b6.toNat) * 256 + f.b5.toNat
  | _ => num4 f
def bk (f : F8) : Nat → UInt8
  | 7 => f.b7
  | 6 => f.b6
  | 5 => f.b5
  | _ => f.b4
theorem nk_step (f : F8) (k : Nat) (h1 : 4 ≤ k) (h2 : k ≤ 7) : nk f k * 256 + (bk f k).toNat = nk f (k - 1) ∧ nk f k < 16777216 := by
  have := f.b5.toNat_lt
  have := f.b6.toNat_lt
  have := f.b7.toNat_lt
  obtain rfl | rfl | rfl | rfl : k = 4 ∨ k = 5 ∨ k = 6 ∨ k = 7 := by omega
  all_goals simp [nk, bk, num4]
  all_goals omega
theorem Qb.cbk {q : Nat} {f : F8} {w : World} (h : Qb q f w) (k : Nat) (h1 : 4 ≤ k) (h2 : k ≤ 7) : w.cell? ⟨q, k, none⟩ = some (.int .u8 ((bk f k).toNat : Int)) := by
  obtain rfl | rfl | rfl | rfl : k = 4 ∨ k = 5 ∨ k = 6 ∨ k = 7 := by omega
  · exact h.c4
  · exact h.c5
  · exact h.c6
  · exact h.c7
set_option maxHeartbeats 4000000 in
theorem number_any (f : F8) (w : World) : Calls Tryz.prog 130 #[.agg f.arr] w fun e w' => e = .returned (.int .u32 (num4 f : Nat)) ∧ Below w.heap.size w w' := by
  have B0 : Below w.heap.size w (w.alloc (.cells f.arr 32)) := (Below.refl _ _).alloc (Nat.le_refl _) _
  have q0 := Qb.new w f
  have HB := hidOf2 B0
  obtain ⟨q, hq⟩ : ∃ q, w.heap.size = q := ⟨_, rfl⟩
  rw [hq] at q0
  have HQ := hidOf2 q0
  obtain ⟨W, hW⟩ : ∃ W, w.alloc (.cells f.arr 32) = W := ⟨_, rfl⟩
  rw [hW] at HQ HB
  clear q0 B0
  go_enter Tryz.func130, Tryz.ntmps130
  go_wp2_with fail
  go_loop [3, 4] (fun m i => ∃ (k j : Nat), 3 ≤ k ∧ k ≤ 7 ∧ i = .int .i64 k ∧ m = .int .u32 (j : Nat) ∧ Hid (j = nk f k)) (fun _ i => (intOf i).toNat)
  case atStart => exact ⟨7, 0, by omega, by omega, rfl, rfl, rfl⟩
  case round =>
    obtain ⟨k, j, hk1, hk2, rfl, rfl, HJ⟩ := hrel
    by_cases hk : 4 ≤ k
    · obtain ⟨e1, e2⟩ := nk_step f k hk hk2
      have c1 := (show Qb q f W from HQ.out).cbk k hk hk2
      have hb := (bk f k).toNat_lt
      rw [← HJ.out] at e1 e2
      have hj := joinN j (bk f k).toNat e2 hb
      have hw := wrapN j e2
      have HE := hidOf2 e1
      generalize (bk f k).toNat = b at *
      clear e1
      go_wp2
      go_round
      case rel => exact ⟨k - 1, j * 256 + b, by omega, by omega, by go_num, rfl, HE.out⟩
      case measure => simp [intOf]; omega
    · obtain rfl : k = 3 := by omega
      go_wp2
      go_ret
      exact ⟨ret_int (by rw [HJ.out]; rfl), by rw [← hq]; exact HB.out⟩
/-- What is given up with. -/
def flV (ix sb c : Nat) : Value := .iface 136 (.agg #[.int .u16 (ix : Int), .int .u8 (sb : Int), .int .u32 (c : Int)])
def flE (ix sb c : Nat) : Ending := .panicked [{ v := flV ix sb c, recovered := false }]
theorem pass_ok (ix sb : Nat) (w : World) : Calls Tryz.prog 105 #[.agg (spA ix sb), .int .u32 0] w fun e w' => e = .returned (.tuple #[]) ∧ Below w.heap.size w w' := by
  have B0 : Below w.heap.size w (w.alloc (.cells (spA ix sb) 87)) := (Below.refl _ _).alloc (Nat.le_refl _) _
  generalize spA ix sb = A at *
  go_enter Tryz.func105, Tryz.ntmps105
  go_wp2
  go_end0
  exact ⟨rfl, B0⟩
theorem pass_bad (ix sb c : Nat) (hc : c ≠ 0) (w : World) : Calls Tryz.prog 105 #[.agg (spA ix sb), .int .u32 (c : Int)] w fun e w' => e = flE ix sb c ∧ Below w.heap.size w w' := by
  have B0 : Below w.heap.size w (w.alloc (.cells (spA ix sb) 87)) := (Below.refl _ _).alloc (Nat.le_refl _) _
  have p0 := (Sp.new w ix sb).load
  have hd : ((c : Int) != 0) = true := by simp; omega
  have HB := hidOf2 B0
  clear B0
  unfold spA at *
  go_enter Tryz.func105, Tryz.ntmps105
  go_wp2_with (first | (refine ldG p0 rfl _ rfl rfl ?_))
  exact ⟨rfl, rfl, HB.out⟩
/-- Either way. -/
theorem pass_any (ix sb c : Nat) (w : World) : Calls Tryz.prog 105 #[.agg (spA ix sb), .int .u32 (c : Int)] w fun e w' => e = (if c = 0 then .returned (.tuple #[]) else flE ix sb c) ∧ Below w.heap.size w w' := by
  by_cases hc : c = 0
  · subst hc
    exact pass_ok ix sb w
  · rw [if_neg hc]
    exact pass_bad ix sb c hc w
set_option maxHeartbeats 2000000 in
theorem Abort_any (ix sb n : Nat) (w : World) (h1 : ix < 65536) (h2 : sb < 256) (h3 : n < 4294967296) : Calls Tryz.prog 18 #[.int .u16 (ix : Int), .int .u8 (sb : Int), .int .u32 (n : Int)] w fun e w' => e = .returned (.agg (frm 128 ix sb n).arr) ∧ Below w.heap.size w w' := by
  have B0 : Below w.heap.size w (w.alloc (.cells zA8 32)) := (Below.refl _ _).alloc (Nat.le_refl _) _
  have hz : Qb w.heap.size F8.nul (w.alloc (.cells zA8 32)) := heap_alloc_new w _
  obtain ⟨q, hq⟩ : ∃ q, w.heap.size = q := ⟨_, rfl⟩
  have HB := hidOf2 B0
  rw [hq] at hz
  have hC : ∀ V, Calls Tryz.prog 41 #[.agg (spA ix sb), .int .u8 128, .int .u32 (n : Int)] V fun e w' => e = .returned (.agg (frm 128 ix sb n).arr) ∧ Below V.heap.size V w' := fun V => counted_any 128 ix sb n V (by decide) h1 h2 h3
  clear B0
  go_enter Tryz.func18, Tryz.ntmps18
  go_upto_region 1 with fail
  change Code.wp Tryz.prog _ _ _ (w.alloc (.cells zA8 32))
  generalize w.alloc (.cells zA8 32) = V at *
  go_wp2_with fail
  refine (hC V).mono ?_
  rintro e w1 ⟨rfl, b1⟩
  have hz1 := hz.below b1
  have B1 := HB.out.trans (b1.mono HB.out.size)
  have B2 := hidOf2 (below_row B1 (by omega) B1.size (q := q) (frm 128 ix sb n).arr)
  have hr := hz1.row (frm 128 ix sb n)
  clear hC b1 B1 HB
  go_wp2_with (first | (refine sdF (g := frm 128 ix sb n) hz1 rfl _ _ rfl rfl rfl ?_))
  exact bodyPost_ret (abort_results hr _ rfl) rfl ⟨rfl, B2.out⟩
set_option maxHeartbeats 2000000 in
theorem frame_any (ix sb n : Nat) (w : World) (h1 : ix < 65536) (h2 : sb < 256) (h3 : n < 4294967296) : Calls Tryz.prog 61 #[.agg #[.int .u16 (ix : Int), .int .u8 (sb : Int), .int .u32 (n : Int)]] w fun e w' => e = .returned (.agg (frm 128 ix sb n).arr) ∧ Below w.heap.size w w' := by
  obtain ⟨A, hA⟩ : ∃ A : Array Value, #[.int .u16 (ix : Int), .int .u8 (sb : Int), .int .u32 (n : Int)] = A := ⟨_, rfl⟩
  have B0 : Below w.heap.size w (w.alloc (.cells A 136)) := (Below.refl _ _).alloc (Nat.le_refl _) _
  have hf : (w.alloc (.cells A 136)).heap[w.heap.size]? = some (.cells A 136 (0, 0)) := heap_alloc_new w _
  obtain ⟨q, hq⟩ : ∃ q, w.heap.size = q := ⟨_, rfl⟩
  obtain ⟨W, hW⟩ : ∃ W, w.alloc (.cells A 136) = W := ⟨_, rfl⟩
  have hWs : W.heap.size = q + 1 := by rw [← hW, size_alloc, hq]
  rw [hW, hq] at hf
  have hz : Qb (q + 1) F8.nul (W.alloc (.cells zA8 32)) := by rw [← hWs]; exact heap_alloc_new W _
  have HB : Hid (Below w.heap.size w (W.alloc (.cells zA8 32))) := (hW ▸ B0).alloc (by rw [hWs, hq]; omega) _
  have hf1 : (W.alloc (.cells zA8 32)).heap[q]? = some (.cells A 136 (0, 0)) := (Lib.alloc_old W _ q (by omega)).trans hf
  have c0 : (W.alloc (.cells zA8 32)).cell? ⟨q, 0, none⟩ = some (.int .u16 (ix : Int)) := by rw [Lib.cell_of_heap hf1 0, ← hA]; rfl
  have c1 : (W.alloc (.cells zA8 32)).cell? ⟨q, 1, none⟩ = some (.int .u8 (sb : Int)) := by rw [Lib.cell_of_heap hf1 1, ← hA]; rfl
  have c2 : (W.alloc (.cells zA8 32)).cell? ⟨q, 2, none⟩ = some (.int .u32 (n : Int)) := by rw [Lib.cell_of_heap hf1 2, ← hA]; rfl
  have hC : ∀ V, Calls Tryz.prog 18 #[.int .u16 (ix : Int), .int .u8 (sb : Int), .int .u32 (n : Int)] V fun e w' => e = .returned (.agg (frm 128 ix sb n).arr) ∧ Below V.heap.size V w' := fun V => Abort_any ix sb n V h1 h2 h3
  rw [hA]
  clear B0 hf hf1 hA
  go_enter Tryz.func61, Tryz.ntmps61
  go_upto_region 1 with fail
  change Code.wp Tryz.prog _ _ _ (W.alloc (.cells zA8 32))
  generalize W.alloc (.cells zA8 32) = V at *
  go_wp2_with fail
  refine (hC V).mono ?_
  rintro e w1 ⟨rfl, b1⟩
  have hz1 := hz.below b1
  have B1 := HB.out.trans (b1.mono HB.out.size)
  have B2 := hidOf2 (below_row B1 (by omega) B1.size (q := q + 1) (frm 128 ix sb n).arr)
  have hr := hz1.row (frm 128 ix sb n)
  clear hC b1 B1 HB
  go_wp2_with (first | (refine sdF (g := frm 128 ix sb n) hz1 rfl _ _ rfl rfl rfl ?_))
  exact bodyPost_ret (frame_results hr _ rfl) rfl ⟨rfl, B2.out⟩
set_option maxHeartbeats 2000000 in
theorem r10Frame_any (a ix sb n : Nat) (w : World) (h0 : a < 256) (h1 : ix < 65536) (h2 : sb < 256) (h3 : n < 4294967296) : Calls Tryz.prog 19 #[.int .u8 (a : Int), .int .u16 (ix : Int), .int .u8 (sb : Int), .int .u32 (n : Int)] w fun e w' => e = .returned (.agg (frm a ix sb n).arr) ∧ Below w.heap.size w w' := by
  have B0 : Below w.heap.size w (w.alloc (.cells zA8 32)) := (Below.refl _ _).alloc (Nat.le_refl _) _
  have hz : Qb w.heap.size F8.nul (w.alloc (.cells zA8 32)) := heap_alloc_new w _
  obtain ⟨q, hq⟩ : ∃ q, w.heap.size = q := ⟨_, rfl⟩
  have HB := hidOf2 B0
  rw [hq] at hz
  have HF := frm_c a ix sb n h0 h1 h2 h3
  have HF2 : (frm a ix sb n).arr = #[.int .u8 (a : Int), .int .u8 ((ix : Int) % 256), .int .u8 ((ix : Int) / 256), .int .u8 (sb : Int), .int .u8 ((n : Int) % 256), .int .u8 ((n : Int) / 256 % 256), .int .u8 ((n : Int) / 65536 % 256), .int .u8 ((n : Int) / 16777216)] := by unfold F8.arr; rw [HF]
  have hr := hz.row (frm a ix sb n)
  have B2 := hidOf2 (below_row HB.out (by omega) HB.out.size (q := q) (frm a ix sb n).arr)
  clear B0 HB
  go_enter Tryz.func19, Tryz.ntmps19
  go_upto_region 1 with fail
  change Code.wp Tryz.prog _ _ _ (w.alloc (.cells zA8 32))
  generalize w.alloc (.cells zA8 32) = V at *
  go_wp2_with (first | (refine sdF (g := frm a ix sb n) hz rfl _ _ rfl rfl (by rw [HF2]; first | rfl | (simp [Act.eval]; done)) ?_))
  exact bodyPost_ret (rframe_results hr _ rfl) rfl ⟨rfl, B2.out⟩
end Go.Proofs.YtahfnknbmikmkaaGreat
