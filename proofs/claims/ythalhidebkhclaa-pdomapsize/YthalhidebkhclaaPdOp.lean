/- Slots that came in, opened; rooms. -/
import Derived.Test.YthalhidebkhclaaPdA
import Derived.Test.YthalhidebkhclaaOOp
namespace Go.Proofs.Ythalhidebkhclaa
open Go.ChangeShapes Go.WideShapes Go.ChangeAt Go.RowKit Go.Proofs.Ty
set_option linter.unusedVariables false
set_option maxRecDepth 1000000
set_option linter.unusedSimpArgs false
theorem cap_slice {H : Type} {enc : TypeId × Value → H} {W : World} {base : Nat} {v : Value} {d : DataW H} {ps : List MemPlace} {t e : TypeId} (ht : Try.prog.underlying t = some (.slice e)) (hval : Value.okWide Try.prog W .any base t v) (h : DataW.Trod enc Try.prog W 0 (fun _ => true) true t v d ps) : ∀ ao n cap, v = .slice ao n cap → n ≤ cap := by
  obtain ⟨ao, len, cap, rfl⟩ := okWide_slice ht hval
  obtain ⟨fuel, hf⟩ := h
  intro ao' n' cap' hv
  injection hv with e1 e2 e3
  subst e1 e2 e3
  rcases DataW.trod_slice ht hf with ⟨hcs, hx⟩ | ⟨a, len', cap', elems, rest, n, _, hcs, hx, _, hl, hm, hlen, hel, _, _⟩
  · simp [Value.cells] at hcs
    omega
  · simp [Value.cells] at hcs
    omega
theorem cellsSl : Try.prog.cellsOf 47 = 3 := by kernel_rfl
theorem bytesSl : Try.prog.bytesOf 47 = 16 := by kernel_rfl
theorem c1u16_13 : Try.prog.cellsOf 45 = 1 := by kernel_rfl
theorem c1u8_13 : Try.prog.cellsOf 5 = 1 := by kernel_rfl
theorem c1int_13 : Try.prog.cellsOf 3 = 1 := by kernel_rfl
theorem list3s {l : List Value} (h : l.length = 3) : ∃ c0 c1 c2, l = [c0, c1, c2] := by
  match l, h with
  | [c0, c1, c2], _ => exact ⟨c0, c1, c2, rfl⟩
theorem one_sl {H : Type} {enc : TypeId × Value → H} {W : World} (n : Nat) (cs : List Value) (y : DataW H × List MemPlace) (h : DataW.trod enc Try.prog W 0 (fun _ => true) true n 47 cs = some y) : ∃ a : Sl, cs = slC a := by
  obtain ⟨xs, m, _, _, hn, hl, hfs⟩ := DataW.trod_struct Try.underlying47 h
  rw [cellsSl] at hn
  obtain ⟨c0, c1, c2, rfl⟩ := list3s hn
  have g0 := hfs 0 _ rfl
  have g1 := hfs 1 _ rfl
  have g2 := hfs 2 _ rfl
  simp [c1u16_13, c1u8_13, c1int_13] at g0 g1 g2
  match xs, hl with
  | [y0, y1, y2], _ =>
    simp at g0 g1 g2
    obtain ⟨i0, e0, _, w0⟩ := DataW.trod_int Try.underlying45 g0
    obtain ⟨i1, e1, _, w1⟩ := DataW.trod_int Try.underlying5 g1
    obtain ⟨i2, e2, _, w2⟩ := DataW.trod_int Try.underlying3 g2
    simp at e0 e1 e2
    subst e0 e1 e2
    obtain ⟨n0, rfl, l0⟩ := u16_of w0
    obtain ⟨n1, rfl, l1⟩ := u8_of w1
    exact ⟨⟨n0, n1, i2, l0, l1, wf_i64_of w2⟩, rfl⟩
theorem open_slots {H : Type} {enc : TypeId × Value → H} {W : World} {base : Nat} {v : Value} {d : DataW H} {ps : List MemPlace}
    (hval : Value.okWide Try.prog W .any base 23 v) (h : DataW.Trod enc Try.prog W 0 (fun _ => true) true 23 v d ps) (hlt : ∀ x ∈ ps, x.block < W.heap.size) :
    ∃ l, (Wide 3 slC W v l ∧ ∀ ao n cap, v = .slice ao n cap → n ≤ cap) ∧ ((d = .nil ∧ l = []) ∨ ∃ e s, d = .slice e s ∧ e.length = l.length) := by
  obtain ⟨l, h1, h2⟩ := open_wide Try.underlying23 cellsSl (by decide) one_sl hval h hlt
  exact ⟨l, ⟨h1, cap_slice Try.underlying23 hval h⟩, h2⟩
theorem size_slots {H : Type} {ts : List TypeId} {ds : List (DataW H)} {j : Nat} {d : DataW H} {l : List Sl} (h : (DataW.weightsEach Try.prog ts ds).all (· ≤ reachBytes) = true) (ht : ts[j]? = some 23) (hd : ds[j]? = some d) (e : (d = .nil ∧ l = []) ∨ ∃ e s, d = .slice e s ∧ e.length = l.length) : l.length ≤ 8796093022000 := by
  have := size_wide h ht hd Try.underlying23 bytesSl e
  omega
theorem open_bytesC {H : Type} {enc : TypeId × Value → H} {W : World} {base : Nat} {v : Value} {d : DataW H} {ps : List MemPlace}
    (hval : Value.okWide Try.prog W .any base 24 v) (h : DataW.Trod enc Try.prog W 0 (fun _ => true) true 24 v d ps) (hlt : ∀ x ∈ ps, x.block < W.heap.size) :
    ∃ l, (Bytes W v l ∧ ∀ ao n cap, v = .slice ao n cap → n ≤ cap) ∧ ((d = .nil ∧ l = []) ∨ ∃ e s, d = .slice e s ∧ e.length = l.length) := by
  obtain ⟨l, h1, h2⟩ := open_bytes hval h hlt
  exact ⟨l, ⟨h1, cap_slice Try.underlying24 hval h⟩, h2⟩
end Go.Proofs.Ythalhidebkhclaa
