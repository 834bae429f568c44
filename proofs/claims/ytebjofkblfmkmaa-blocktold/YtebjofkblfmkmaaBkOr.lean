/- Frames that came in, opened. -/
import Derived.Test.YtebjofkblfmkmaaBkOq
namespace Go.Proofs.Ytebjofkblfmkmaa
open Go.ChangeShapes Go.WideShapes Go.ChangeAt Go.RowKit Go.Proofs.Ty
set_option linter.unusedVariables false
set_option maxRecDepth 1000000
set_option linter.unusedSimpArgs false
theorem cells1u8 : Try.prog.cellsOf 5 = 1 := by kernel_rfl
theorem list8 {l : List Value} (h : l.length = 8) : ∃ c0 c1 c2 c3 c4 c5 c6 c7, l = [c0, c1, c2, c3, c4, c5, c6, c7] := by
  match l, h with
  | [a, b, c, d, e, f, g, i], _ => exact ⟨a, b, c, d, e, f, g, i, rfl⟩
theorem trod_u8S {H : Type} {enc : TypeId × Value → H} {W : World} {n : Nat} {c : Value} {y : DataW H × List MemPlace} (h : DataW.trod enc Try.prog W 0 (fun _ => true) true n 5 [c] = some y) : ∃ b : UInt8, c = .int .u8 (b.toNat : Int) := by
  obtain ⟨z, e, _, hw⟩ := DataW.trod_int Try.underlying5 h
  simp at e
  subst e
  obtain ⟨a, rfl, ha⟩ := wf_u8 hw
  exact ⟨.ofNat a, by rw [un a ha]⟩
theorem one_f8 {H : Type} {enc : TypeId × Value → H} {W : World} (n : Nat) (cs : List Value) (y : DataW H × List MemPlace) (h : DataW.trod enc Try.prog W 0 (fun _ => true) true n 30 cs = some y) : ∃ f : F8, cs = f.c := by
  obtain ⟨ys, m', _, _, hc, hl8, hfi⟩ := DataW.trod_array Try.underlying30 h
  rw [cells8] at hc
  obtain ⟨c0, c1, c2, c3, c4, c5, c6, c7, rfl⟩ := list8 hc
  match ys, hl8 with
  | [z0, z1, z2, z3, z4, z5, z6, z7], _ =>
    have a0 := hfi 0 (by decide)
    have a1 := hfi 1 (by decide)
    have a2 := hfi 2 (by decide)
    have a3 := hfi 3 (by decide)
    have a4 := hfi 4 (by decide)
    have a5 := hfi 5 (by decide)
    have a6 := hfi 6 (by decide)
    have a7 := hfi 7 (by decide)
    simp [cells1u8] at a0 a1 a2 a3 a4 a5 a6 a7
    obtain ⟨b0, rfl⟩ := trod_u8S a0
    obtain ⟨b1, rfl⟩ := trod_u8S a1
    obtain ⟨b2, rfl⟩ := trod_u8S a2
    obtain ⟨b3, rfl⟩ := trod_u8S a3
    obtain ⟨b4, rfl⟩ := trod_u8S a4
    obtain ⟨b5, rfl⟩ := trod_u8S a5
    obtain ⟨b6, rfl⟩ := trod_u8S a6
    obtain ⟨b7, rfl⟩ := trod_u8S a7
    exact ⟨⟨b0, b1, b2, b3, b4, b5, b6, b7⟩, rfl⟩
theorem open_rows8 {H : Type} {enc : TypeId × Value → H} {W : World} {base : Nat} {v : Value} {d : DataW H} {ps : List MemPlace}
    (hval : Value.okWide Try.prog W .any base 23 v) (h : DataW.Trod enc Try.prog W 0 (fun _ => true) true 23 v d ps) (hlt : ∀ x ∈ ps, x.block < W.heap.size) :
    ∃ l : List F8, Wide 8 F8.c W v l ∧ ((d = .nil ∧ l = []) ∨ ∃ e s, d = .slice e s ∧ e.length = l.length) :=
  open_wide Try.underlying23 cells8 (by decide) (fun n cs y hy => one_f8 n cs y hy) hval h hlt
theorem size_rows8 {H : Type} {ts : List TypeId} {ds : List (DataW H)} {j : Nat} {d : DataW H} {l : List F8} (h : (DataW.weightsEach Try.prog ts ds).all (· ≤ reachBytes) = true) (ht : ts[j]? = some 23) (hd : ds[j]? = some d) (x : (d = .nil ∧ l = []) ∨ ∃ e s, d = .slice e s ∧ e.length = l.length) : l.length * 8 ≤ 140737488351232 := size_frames h ht hd x
theorem wide_take {w : World} {ao : Option Addr} {n cap : Nat} {l : List F8} (h : Wide 8 F8.c w (.slice ao n cap) l) (k : Nat) (hk : k ≤ n) : Wide 8 F8.c w (.slice ao k cap) (l.take k) := by
  obtain ⟨ao', cap', hv, h0, hc⟩ := h
  injection hv with e1 e2 e3
  subst e1 e2 e3
  have hl : (l.take k).length = k := by rw [List.length_take]; omega
  refine ⟨ao, cap, by rw [hl], fun h => ?_, fun j hj => ?_⟩
  · obtain ⟨rfl, h2⟩ := h0 h
    exact ⟨by simp, h2⟩
  · obtain ⟨b, off, h1, h2, h3⟩ := hc j (by omega)
    exact ⟨b, off, h1, h2, by simpa using h3⟩
end Go.Proofs.Ytebjofkblfmkmaa
