/- A slice of frames that came in, opened. -/
import Derived.Test.YtfddoindcmdooaaOpenF
import Derived.Test.YtfddoindcmdooaaFst2
namespace Go.Proofs.Ytfddoindcmdooaa
open Go.ChangeShapes Go.WideShapes Go.ChangeAt Go.RowKit Go.Proofs.Bits
set_option linter.unusedVariables false
set_option maxRecDepth 1000000

theorem bytesFr : Try.prog.bytesOf 45 = 24 := by kernel_rfl
theorem one_frame {H : Type} {enc : TypeId × Value → H} {W : World} (n : Nat) (cs : List Value) (y : DataW H × List MemPlace) (h : DataW.trod enc Try.prog W 0 (fun _ => true) true n 45 cs = some y) : ∃ f : Fr, cs = f.cells := by
  obtain ⟨xs, m, _, _, hn, hl, hfs⟩ := DataW.trod_struct Try.underlying45 h
  rw [cellsF12] at hn
  obtain ⟨c0, c1, c2, c3, c4, c5, c6, c7, c8, c9, c10, c11, rfl⟩ := list12 hn
  have g0 := hfs 0 _ rfl
  have g1 := hfs 1 _ rfl
  have g2 := hfs 2 _ rfl
  have g3 := hfs 3 _ rfl
  have g4 := hfs 4 _ rfl
  simp [cells1u32, cells1bool, cells1int, cellsA8] at g0 g1 g2 g3 g4
  match xs, hl with
  | [y0, y1, y2, y3, y4], _ =>
    simp at g0 g1 g2 g3 g4
    obtain ⟨i, e0, _, wi⟩ := DataW.trod_int Try.underlying42 g0
    obtain ⟨x, e1, _⟩ := DataW.trod_bool Try.underlying4 g1
    obtain ⟨r, e2, _⟩ := DataW.trod_bool Try.underlying4 g2
    obtain ⟨k, e3, _, wk⟩ := DataW.trod_int Try.underlying3 g3
    simp at e0 e1 e2 e3
    subst e0 e1 e2 e3
    obtain ⟨ys, m, _, _, _, hl8, hfi⟩ := DataW.trod_array Try.underlying43 g4
    match ys, hl8 with
    | [z0, z1, z2, z3, z4, z5, z6, z7], _ =>
      have a0 := hfi 0 (by decide)
      have a1 := hfi 1 (by decide)
      have a2 := hfi 2 (by decide)
      have a3 := hfi 3 (by decide)
      have a4 := hfi 4 (by decide)
      have a5 := hfi 5 (by decide)
      have a6 := hfi 6 (by decide)
      have a7 := hfi 7 (by decide)
      simp [cells1u8] at a0 a1 a2 a3 a4 a5 a6 a7
      obtain ⟨b0, rfl⟩ := trod_u8 rfl a0
      obtain ⟨b1, rfl⟩ := trod_u8 rfl a1
      obtain ⟨b2, rfl⟩ := trod_u8 rfl a2
      obtain ⟨b3, rfl⟩ := trod_u8 rfl a3
      obtain ⟨b4, rfl⟩ := trod_u8 rfl a4
      obtain ⟨b5, rfl⟩ := trod_u8 rfl a5
      obtain ⟨b6, rfl⟩ := trod_u8 rfl a6
      obtain ⟨b7, rfl⟩ := trod_u8 rfl a7
      have hi := wf_u32_of wi
      refine ⟨⟨i.toNat, x, r, k, [b0, b1, b2, b3, b4, b5, b6, b7], by omega, wf_i64_of wk, rfl⟩, ?_⟩
      have ei : ((i.toNat : Nat) : Int) = i := by omega
      simp [Fr.cells, ei]
theorem open_frames {H : Type} {enc : TypeId × Value → H} {W : World} {base : Nat} {v : Value} {d : DataW H} {ps : List MemPlace}
    (hval : Value.okWide Try.prog W .any base 37 v) (h : DataW.Trod enc Try.prog W 0 (fun _ => true) true 37 v d ps) (hlt : ∀ x ∈ ps, x.block < W.heap.size) :
    ∃ l, Frames W v l ∧ ((d = .nil ∧ l = []) ∨ ∃ e s, d = .slice e s ∧ e.length = l.length) :=
  open_wide Try.underlying37 cellsF12 (by decide) one_frame hval h hlt
theorem size_frames {H : Type} {ts : List TypeId} {ds : List (DataW H)} {j : Nat} {d : DataW H} {l : List Fr} (h : (DataW.weightsEach Try.prog ts ds).all (· ≤ reachBytes) = true) (ht : ts[j]? = some 37) (hd : ds[j]? = some d) (e : (d = .nil ∧ l = []) ∨ ∃ e s, d = .slice e s ∧ e.length = l.length) : l.length * 24 ≤ 140737488351232 :=
  size_wide h ht hd Try.underlying37 bytesFr e
end Go.Proofs.Ytfddoindcmdooaa
