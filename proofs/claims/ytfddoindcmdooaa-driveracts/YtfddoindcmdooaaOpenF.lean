/- A frame that comes in by value, opened. -/
import Derived.Test.YtfddoindcmdooaaFrame
import Derived.Test.YtfddoindcmdooaaOpen
namespace Go.Proofs.Ytfddoindcmdooaa
open Go.ChangeShapes Go.WideShapes Go.ChangeAt Go.RowKit Go.Proofs.Bits
set_option linter.unusedVariables false
set_option maxRecDepth 1000000

theorem cellsF12 : Try.prog.cellsOf 45 = 12 := by kernel_rfl
theorem cellsA8 : Try.prog.cellsOf 43 = 8 := by kernel_rfl
theorem cells1u32 : Try.prog.cellsOf 42 = 1 := by kernel_rfl
theorem cells1bool : Try.prog.cellsOf 4 = 1 := by kernel_rfl
theorem cells1int : Try.prog.cellsOf 3 = 1 := by kernel_rfl
theorem cells1u8 : Try.prog.cellsOf 5 = 1 := by kernel_rfl
theorem list12 {l : List Value} (h : l.length = 12) : ∃ c0 c1 c2 c3 c4 c5 c6 c7 c8 c9 c10 c11, l = [c0, c1, c2, c3, c4, c5, c6, c7, c8, c9, c10, c11] := by
  match l, h with
  | [c0, c1, c2, c3, c4, c5, c6, c7, c8, c9, c10, c11], _ => exact ⟨c0, c1, c2, c3, c4, c5, c6, c7, c8, c9, c10, c11, rfl⟩
theorem wf_u32_of {z : Int} (h : (Lit.int .u32 z).wf = true) : 0 ≤ z ∧ z < 4294967296 := by
  have hx : 0 ≤ z ∧ z ≤ 4294967295 := by simpa [Lit.wf, IntKind.min, IntKind.max, IntKind.signed, IntKind.bits] using h
  omega
theorem wf_i64_of {z : Int} (h : (Lit.int .i64 z).wf = true) : -9223372036854775808 ≤ z ∧ z < 9223372036854775808 := by
  have hx : -9223372036854775808 ≤ z ∧ z ≤ 9223372036854775807 := by simpa [Lit.wf, IntKind.min, IntKind.max, IntKind.signed, IntKind.bits] using h
  omega
theorem trod_u8 {H : Type} {enc : TypeId × Value → H} {W : World} {m : Nat} {c : Value} {y : Option (DataW H × List MemPlace)} {x : DataW H × List MemPlace} (hy : y = some x) (h : DataW.trod enc Try.prog W 0 (fun _ => true) true m 5 [c] = y) : ∃ b : UInt8, c = .int .u8 b.toNat := by
  rw [hy] at h
  obtain ⟨z, e, _, wz⟩ := DataW.trod_int Try.underlying5 h
  simp at e
  exact ⟨z.toNat.toUInt8, by rw [e, u8_of_int wz]⟩

theorem open_frame {H : Type} {enc : TypeId × Value → H} {W : World} {base : Nat} {v : Value} {d : DataW H} {ps : List MemPlace}
    (hval : Value.okWide Try.prog W .any base 45 v) (h : DataW.Trod enc Try.prog W 0 (fun _ => true) true 45 v d ps) : ∃ f : Fr, v = f.val := by
  obtain ⟨cs, rfl, hsz⟩ := okWide_struct Try.underlying45 hval
  obtain ⟨fuel, hf⟩ := h
  obtain ⟨l, rfl⟩ : ∃ l : List Value, cs = l.toArray := ⟨cs.toList, by simp⟩
  rw [cellsF12] at hsz
  obtain ⟨c0, c1, c2, c3, c4, c5, c6, c7, c8, c9, c10, c11, rfl⟩ := list12 (by simpa using hsz)
  obtain ⟨xs, n, _, _, _, hl, hfs⟩ := DataW.trod_struct Try.underlying45 hf
  have g0 := hfs 0 _ rfl
  have g1 := hfs 1 _ rfl
  have g2 := hfs 2 _ rfl
  have g3 := hfs 3 _ rfl
  have g4 := hfs 4 _ rfl
  simp [Value.cells, cells1u32, cells1bool, cells1int, cellsA8] at g0 g1 g2 g3 g4
  match xs, hl with
  | [y0, y1, y2, y3, y4], _ =>
    simp at g0 g1 g2 g3 g4
    obtain ⟨i, e0, _, wi⟩ := DataW.trod_int Try.underlying42 g0
    obtain ⟨x, e1, _⟩ := DataW.trod_bool Try.underlying4 g1
    obtain ⟨r, e2, _⟩ := DataW.trod_bool Try.underlying4 g2
    obtain ⟨k, e3, _, wk⟩ := DataW.trod_int Try.underlying3 g3
    simp at e0 e1 e2 e3
    subst e0 e1 e2 e3
    obtain ⟨ys, m, _, _, _, hl8, hfi⟩ := DataW.trod_array Try.underlying43 g4
    match ys, hl8 with
    | [z0, z1, z2, z3, z4, z5, z6, z7], _ =>
      have a0 := hfi 0 (by decide)
      have a1 := hfi 1 (by decide)
      have a2 := hfi 2 (by decide)
      have a3 := hfi 3 (by decide)
      have a4 := hfi 4 (by decide)
      have a5 := hfi 5 (by decide)
      have a6 := hfi 6 (by decide)
      have a7 := hfi 7 (by decide)
      simp [cells1u8] at a0 a1 a2 a3 a4 a5 a6 a7
      obtain ⟨b0, rfl⟩ := trod_u8 rfl a0
      obtain ⟨b1, rfl⟩ := trod_u8 rfl a1
      obtain ⟨b2, rfl⟩ := trod_u8 rfl a2
      obtain ⟨b3, rfl⟩ := trod_u8 rfl a3
      obtain ⟨b4, rfl⟩ := trod_u8 rfl a4
      obtain ⟨b5, rfl⟩ := trod_u8 rfl a5
      obtain ⟨b6, rfl⟩ := trod_u8 rfl a6
      obtain ⟨b7, rfl⟩ := trod_u8 rfl a7
      have hi := wf_u32_of wi
      refine ⟨⟨i.toNat, x, r, k, [b0, b1, b2, b3, b4, b5, b6, b7], by omega, wf_i64_of wk, rfl⟩, ?_⟩
      have ei : ((i.toNat : Nat) : Int) = i := by omega
      simp [Fr.val, Fr.arr, Fr.cells, ei]
end Go.Proofs.Ytfddoindcmdooaa
