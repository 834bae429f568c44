/- A teller's frames: write, Read. -/
import Derived.Test.YtlkocebgkmdeoaaEmH
namespace Go.Proofs.Ytlkocebgkmdeoaa
open Go.RowKit
set_option linter.unusedVariables false
set_option maxRecDepth 1000000
set_option linter.unusedSimpArgs false
theorem arr8T : ∀ (W : World) (b : Nat), (Instr.sliceAt 42 (.pointer (some ⟨b, 0, none⟩)) (some (.int .i64 3)) none none).run Try.prog W = .ok (.slice (some ⟨b, 3, none⟩) 5 5) W := fun W b => by
  obtain ⟨i0, hi, hz0, hz1, hz2⟩ := info_parts info5
  have h1 := Try.underlying42
  simp [Instr.sliceAt, Instr.slice, Instr.sliceBounds, run_underlying h1, go_sem, sizeOf, typeInfo, hi, hz1, Addr.add]
theorem arr5T : ∀ (W : World) (b : Nat), (Instr.sliceAt 35 (.pointer (some ⟨b, 2, none⟩)) none none none).run Try.prog W = .ok (.slice (some ⟨b, 2, none⟩) 5 5) W := fun W b => by
  obtain ⟨i0, hi, hz0, hz1, hz2⟩ := info_parts info5
  have h1 := Try.underlying35
  simp [Instr.sliceAt, Instr.slice, Instr.sliceBounds, run_underlying h1, go_sem, sizeOf, typeInfo, hi, hz1, Addr.add]
theorem sizeU8 : (Try.prog.info? 5).map (·.size) = some 1 := by kernel_rfl
/-- Five cells go over. -/
theorem copy5 {W : World} {p q o r : Nat} {A B : Array Value} {T U : TypeId} {a b c d e : Value} (hp : Bc T p A W) (hq : Bc U q B W) (h0 : A[o]? = some a) (h1 : A[o + 1]? = some b) (h2 : A[o + 2]? = some c) (h3 : A[o + 3]? = some d) (h4 : A[o + 4]? = some e) (hr : r + 5 ≤ B.size) (hone : ∀ v ∈ [a, b, c, d, e], v.oneCell' = true) (ty : TypeId) :
    (Builtin.copy_ #[49, 49] ty #[.slice (some ⟨q, r, none⟩) 5 5, .slice (some ⟨p, o, none⟩) 5 5]).run Try.prog W = .ok (.int .i64 5) (W.setCells q r [a, b, c, d, e]) :=
  run_copy_wide W _ _ ty 5 1 q r 5 5 ⟨p, o, none⟩ 5 5 5 [a, b, c, d, e] Try.underlying49 sizeU8 rfl rfl (fun j v hj => by
    rw [add_off, Lib.cell_of_heap hp]
    match j, hj with
    | 0, hj => rw [Nat.add_zero, h0]; exact hj
    | 1, hj => rw [h1]; exact hj
    | 2, hj => rw [h2]; exact hj
    | 3, hj => rw [h3]; exact hj
    | 4, hj => rw [h4]; exact hj
    | j + 5, hj => simp at hj) (there_of_heap hq hr) hone
theorem write_results {Q : Nat} {A : Array Value} {w : World} (h : Bc 42 Q A w) (hA : A.size = 8) (tmps : Array Value) (h2 : tmps[2]?.getD undef = .pointer (some ⟨Q, 0, none⟩)) :
    (results Try.f38 tmps).run Try.prog w = .ok (.agg A) w := by
  have l0 := h.ld8 hA
  simp [Go.results, Try.results38, h2, asAddr, l0]
theorem write_any (x : Tr) (w : World) : Calls Try.prog 38 #[.agg x.arr] w fun e w' => e = .returned (.agg x.far) ∧ Below w.heap.size w w' := by
  have hc := x.hc
  have HF : Hid (x.far = #[.int .u8 ((x.c : Int) % 256), .int .u8 ((x.c : Int) / 256), .int .u8 x.r, .int .u8 x.x0, .int .u8 x.x1, .int .u8 x.x2, .int .u8 x.x3, .int .u8 x.x4]) := rfl
  generalize x.far = FA at *
  unfold Tr.arr
  obtain ⟨p, hp⟩ : ∃ p, w.heap.size = p := ⟨_, rfl⟩
  generalize x.c = c at *
  generalize x.r = r at *
  generalize x.x0 = x0 at *
  generalize x.x1 = x1 at *
  generalize x.x2 = x2 at *
  generalize x.x3 = x3 at *
  generalize x.x4 = x4 at *
  obtain ⟨A1, hA1⟩ : ∃ A : Array Value, #[.int .u16 c, .int .u8 r, .int .u8 x0, .int .u8 x1, .int .u8 x2, .int .u8 x3, .int .u8 x4] = A := ⟨_, rfl⟩
  obtain ⟨A2, hA2⟩ : ∃ A : Array Value, #[Value.int .u8 0, .int .u8 0, .int .u8 0, .int .u8 0, .int .u8 0, .int .u8 0, .int .u8 0, .int .u8 0] = A := ⟨_, rfl⟩
  obtain ⟨A3, hA3⟩ : ∃ A : Array Value, #[Value.int .u8 ((c : Int) % 256), .int .u8 ((c : Int) / 256), .int .u8 r, .int .u8 0, .int .u8 0, .int .u8 0, .int .u8 0, .int .u8 0] = A := ⟨_, rfl⟩
  obtain ⟨W, hW⟩ : ∃ y, ((w.alloc (.cells A1 37)).alloc (.cells A2 42)).alloc (.cells A3 42) = y := ⟨_, rfl⟩
  have s1 : (w.alloc (.cells A1 37)).heap.size = p + 1 := by rw [← hp]; simp
  have s2 : ((w.alloc (.cells A1 37)).alloc (.cells A2 42)).heap.size = p + 2 := by rw [size_alloc, s1]
  have B1 : Bc 37 p A1 W := by rw [← hW, ← hp]; exact Bc.alloc (Bc.alloc (heap_alloc_new w _) _) _
  have B2 : Bc 42 (p + 1) A2 W := by rw [← hW, ← s1]; exact Bc.alloc (heap_alloc_new _ _) _
  have B3 : Bc 42 (p + 2) A3 W := by rw [← hW, ← s2]; exact heap_alloc_new _ _
  have hb : Below w.heap.size w W := by rw [← hW]; exact (((Below.refl _ _).alloc (Nat.le_refl _) _).alloc (by simp) _).alloc (by simp; omega) _
  have hcp : ∀ ty, (Builtin.copy_ #[49, 49] ty #[.slice (some ⟨p + 2, 3, none⟩) 5 5, .slice (some ⟨p, 2, none⟩) 5 5]).run Try.prog W.drew = .ok (.int .i64 5) (W.drew.setCells (p + 2) 3 [.int .u8 x0, .int .u8 x1, .int .u8 x2, .int .u8 x3, .int .u8 x4]) := fun ty =>
    copy5 (W := W.drew) (A := A1) (B := A3) B1 B3 (by rw [← hA1]; rfl) (by rw [← hA1]; rfl) (by rw [← hA1]; rfl) (by rw [← hA1]; rfl) (by rw [← hA1]; rfl) (by rw [← hA3]; exact Nat.le_refl 8) (by intro v hv; simp at hv; rcases hv with rfl | rfl | rfl | rfl | rfl <;> rfl) ty
  obtain ⟨Y, hY⟩ : ∃ y, W.drew.setCells (p + 2) 3 [.int .u8 x0, .int .u8 x1, .int .u8 x2, .int .u8 x3, .int .u8 x4] = y := ⟨_, rfl⟩
  rw [hY] at hcp
  have C3 : Bc 42 (p + 2) FA Y := by
    rw [← hY]
    have := heap_setCells (p + 2) 42 (0, 0) [.int .u8 x0, .int .u8 x1, .int .u8 x2, .int .u8 x3, .int .u8 x4] 3 A3 W.drew B3
    have e : setMany A3 3 [.int .u8 x0, .int .u8 x1, .int .u8 x2, .int .u8 x3, .int .u8 x4] = FA := by rw [HF.out, ← hA3]; simp [setMany]
    rw [e] at this
    exact this
  have C2 : Bc 42 (p + 1) A2 Y := by rw [← hY]; exact (heap_cells_other (by omega) _ _ _).trans B2
  have hbY : Below p w Y := by
    rw [← hY]
    obtain ⟨a1, a2, a3, a4⟩ := cells_same (p + 2) [.int .u8 x0, .int .u8 x1, .int .u8 x2, .int .u8 x3, .int .u8 x4] 3 W.drew
    rw [hp] at hb
    exact ⟨a1.trans hb.os, a2.trans hb.tape, a3.trans hb.output, by rw [a4]; exact hb.size, fun k hk => (heap_cells_other (by omega) _ _ _).trans (hb.block k hk)⟩
  have HBY := hidOf2 hbY
  have HR := hidOf2 (And.intro (C2.row FA) (below_row (q := p + 1) hbY (by omega) FA))
  have hl := C3.ld8 (by rw [HF.out]; rfl)
  have hone : (FA.all fun v => v.oneCell') = true := by rw [HF.out]; simp [Value.oneCell']
  have hFs : FA.size = 8 := by rw [HF.out]; rfl
  have hA2s : A2.size = 8 := by rw [← hA2]; rfl
  have C2' : Bc 42 (p + 1) A2 Y := C2
  clear B1 B2 B3 hb hY s1 s2 HF C3 C2 hbY
  rw [← hA2] at C2' hA2s
  subst hA1 hA2 hA3
  have HW := hidOf2 hW
  clear hW
  go_enter Try.func38, Try.ntmps38
  go_wp2_with fail
  change Code.wp Try.prog _ _ _ (((w.alloc (.cells #[.int .u16 c, .int .u8 r, .int .u8 x0, .int .u8 x1, .int .u8 x2, .int .u8 x3, .int .u8 x4] 37)).alloc (.cells #[Value.int .u8 0, .int .u8 0, .int .u8 0, .int .u8 0, .int .u8 0, .int .u8 0, .int .u8 0, .int .u8 0] 42)).alloc (.cells #[Value.int .u8 ((c : Int) % 256), .int .u8 ((c : Int) / 256), .int .u8 r, .int .u8 0, .int .u8 0, .int .u8 0, .int .u8 0, .int .u8 0] 42))
  rw [HW.out]
  clear HW
  go_region
  clear hcp
  go_wp2_with (first | (refine ldG hl rfl _ rfl rfl ?_) | (refine C2'.st8 hA2s hFs hone rfl _ _ rfl rfl rfl ?_))
  exact bodyPost_ret (write_results HR.out.1 hFs _ rfl) rfl ⟨rfl, by rw [hp]; exact HR.out.2⟩
theorem or16T (c : Nat) (h : c < 65536) : bits BinOp.or IntKind.u16 ((c : Int) % 256) ((c : Int) / 256 * 256) = (c : Int) := by
  have h1 : c % 256 ||| c / 256 * 256 = c := by
    have := Nat.shiftLeft_add_eq_or_of_lt (i := 8) (b := c % 256) (by omega) (c / 256)
    rw [Nat.shiftLeft_eq] at this
    rw [Nat.or_comm]
    have e : c / 256 * 256 ||| c % 256 = c / 256 * 256 + c % 256 := by simpa using this.symm
    omega
  have h2 : (((c : Int) / 256 * 256) % 65536).toNat = c / 256 * 256 := by omega
  have h3 : (((c : Int) % 256) % 65536).toNat = c % 256 := by omega
  show IntKind.u16.wrap ((((((c : Int) % 256) % 65536).toNat ||| (((c : Int) / 256 * 256) % 65536).toNat : Nat)) : Int) = _
  rw [h2, h3, h1]
  simp [IntKind.wrap, IntKind.bits, IntKind.signed]
  omega
theorem read_results {Q : Nat} {A : Array Value} {w : World} (h : Bc 37 Q A w) (hA : A.size = 7) (tmps : Array Value) (h2 : tmps[2]?.getD undef = .pointer (some ⟨Q, 0, none⟩)) :
    (results Try.f23 tmps).run Try.prog w = .ok (.agg A) w := by
  have l0 := h.ldT hA
  simp [Go.results, Try.results23, h2, asAddr, l0]
theorem read_any (x : Tr) (w : World) : Calls Try.prog 23 #[.agg x.far] w fun e w' => e = .returned (.agg x.arr) ∧ Below w.heap.size w w' := by
  have hc := x.hc
  have HF : Hid (x.arr = #[.int .u16 x.c, .int .u8 x.r, .int .u8 x.x0, .int .u8 x.x1, .int .u8 x.x2, .int .u8 x.x3, .int .u8 x.x4]) := rfl
  have hor := or16T x.c x.hc
  generalize x.arr = FA at *
  unfold Tr.far
  obtain ⟨p, hp⟩ : ∃ p, w.heap.size = p := ⟨_, rfl⟩
  generalize x.c = c at *
  generalize x.r = r at *
  generalize x.x0 = x0 at *
  generalize x.x1 = x1 at *
  generalize x.x2 = x2 at *
  generalize x.x3 = x3 at *
  generalize x.x4 = x4 at *
  obtain ⟨A1, hA1⟩ : ∃ A : Array Value, #[.int .u8 ((c : Int) % 256), .int .u8 ((c : Int) / 256), .int .u8 r, .int .u8 x0, .int .u8 x1, .int .u8 x2, .int .u8 x3, .int .u8 x4] = A := ⟨_, rfl⟩
  obtain ⟨A2, hA2⟩ : ∃ A : Array Value, #[Value.int .u16 0, .int .u8 0, .int .u8 0, .int .u8 0, .int .u8 0, .int .u8 0, .int .u8 0] = A := ⟨_, rfl⟩
  obtain ⟨A3, hA3⟩ : ∃ A : Array Value, #[Value.int .u16 (c : Int), .int .u8 r, .int .u8 0, .int .u8 0, .int .u8 0, .int .u8 0, .int .u8 0] = A := ⟨_, rfl⟩
  obtain ⟨W, hW⟩ : ∃ y, ((w.alloc (.cells A1 42)).alloc (.cells A2 37)).alloc (.cells A3 37) = y := ⟨_, rfl⟩
  have s1 : (w.alloc (.cells A1 42)).heap.size = p + 1 := by rw [← hp]; simp
  have s2 : ((w.alloc (.cells A1 42)).alloc (.cells A2 37)).heap.size = p + 2 := by rw [size_alloc, s1]
  have B1 : Bc 42 p A1 W := by rw [← hW, ← hp]; exact Bc.alloc (Bc.alloc (heap_alloc_new w _) _) _
  have B2 : Bc 37 (p + 1) A2 W := by rw [← hW, ← s1]; exact Bc.alloc (heap_alloc_new _ _) _
  have B3 : Bc 37 (p + 2) A3 W := by rw [← hW, ← s2]; exact heap_alloc_new _ _
  have hb : Below w.heap.size w W := by rw [← hW]; exact (((Below.refl _ _).alloc (Nat.le_refl _) _).alloc (by simp) _).alloc (by simp; omega) _
  have hcp : ∀ ty, (Builtin.copy_ #[49, 49] ty #[.slice (some ⟨p + 2, 2, none⟩) 5 5, .slice (some ⟨p, 3, none⟩) 5 5]).run Try.prog W.drew = .ok (.int .i64 5) (W.drew.setCells (p + 2) 2 [.int .u8 x0, .int .u8 x1, .int .u8 x2, .int .u8 x3, .int .u8 x4]) := fun ty =>
    copy5 (W := W.drew) (A := A1) (B := A3) B1 B3 (by rw [← hA1]; rfl) (by rw [← hA1]; rfl) (by rw [← hA1]; rfl) (by rw [← hA1]; rfl) (by rw [← hA1]; rfl) (by rw [← hA3]; exact Nat.le_refl 7) (by intro v hv; simp at hv; rcases hv with rfl | rfl | rfl | rfl | rfl <;> rfl) ty
  obtain ⟨Y, hY⟩ : ∃ y, W.drew.setCells (p + 2) 2 [.int .u8 x0, .int .u8 x1, .int .u8 x2, .int .u8 x3, .int .u8 x4] = y := ⟨_, rfl⟩
  rw [hY] at hcp
  have C3 : Bc 37 (p + 2) FA Y := by
    rw [← hY]
    have := heap_setCells (p + 2) 37 (0, 0) [.int .u8 x0, .int .u8 x1, .int .u8 x2, .int .u8 x3, .int .u8 x4] 2 A3 W.drew B3
    have e : setMany A3 2 [.int .u8 x0, .int .u8 x1, .int .u8 x2, .int .u8 x3, .int .u8 x4] = FA := by rw [HF.out, ← hA3]; simp [setMany]
    rw [e] at this
    exact this
  have C2 : Bc 37 (p + 1) A2 Y := by rw [← hY]; exact (heap_cells_other (by omega) _ _ _).trans B2
  have hbY : Below p w Y := by
    rw [← hY]
    obtain ⟨a1, a2, a3, a4⟩ := cells_same (p + 2) [.int .u8 x0, .int .u8 x1, .int .u8 x2, .int .u8 x3, .int .u8 x4] 2 W.drew
    rw [hp] at hb
    exact ⟨a1.trans hb.os, a2.trans hb.tape, a3.trans hb.output, by rw [a4]; exact hb.size, fun k hk => (heap_cells_other (by omega) _ _ _).trans (hb.block k hk)⟩
  have HBY := hidOf2 hbY
  have HR := hidOf2 (And.intro (C2.row FA) (below_row (q := p + 1) hbY (by omega) FA))
  have hl := C3.ldT (by rw [HF.out]; rfl)
  have hone : (FA.all fun v => v.oneCell') = true := by rw [HF.out]; simp [Value.oneCell']
  have hFs : FA.size = 7 := by rw [HF.out]; rfl
  have hA2s : A2.size = 7 := by rw [← hA2]; rfl
  have C2' : Bc 37 (p + 1) A2 Y := C2
  clear B1 B2 B3 hb hY s1 s2 HF C3 C2 hbY
  rw [← hA2] at C2' hA2s
  subst hA1 hA2 hA3
  have HW := hidOf2 hW
  clear hW
  go_enter Try.func23, Try.ntmps23
  go_wp2_with fail
  change Code.wp Try.prog _ _ _ (((w.alloc (.cells #[.int .u8 ((c : Int) % 256), .int .u8 ((c : Int) / 256), .int .u8 r, .int .u8 x0, .int .u8 x1, .int .u8 x2, .int .u8 x3, .int .u8 x4] 42)).alloc (.cells #[Value.int .u16 0, .int .u8 0, .int .u8 0, .int .u8 0, .int .u8 0, .int .u8 0, .int .u8 0] 37)).alloc (.cells #[Value.int .u16 (c : Int), .int .u8 r, .int .u8 0, .int .u8 0, .int .u8 0, .int .u8 0, .int .u8 0] 37))
  rw [HW.out]
  clear HW
  go_region
  clear hcp
  go_wp2_with (first | (refine ldG hl rfl _ rfl rfl ?_) | (refine C2'.stT hA2s hFs hone rfl _ _ rfl rfl rfl ?_))
  exact bodyPost_ret (read_results HR.out.1 hFs _ rfl) rfl ⟨rfl, by rw [hp]; exact HR.out.2⟩
end Go.Proofs.Ytlkocebgkmdeoaa
