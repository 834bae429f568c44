/- The room of what came in; its beginning. -/
import Derived.Test.YtebjofkblfmkmaaBkOp
namespace Go.Proofs.Ytebjofkblfmkmaa
open Go.ChangeShapes Go.WideShapes Go.ChangeAt Go.RowKit Go.Proofs.Ty
set_option linter.unusedVariables false
set_option maxRecDepth 1000000
set_option linter.unusedSimpArgs false
theorem cap_slice {H : Type} {enc : TypeId × Value → H} {W : World} {base : Nat} {v : Value} {d : DataW H} {ps : List MemPlace} {t e : TypeId} (ht : Try.prog.underlying t = some (.slice e)) (hval : Value.okWide Try.prog W .any base t v) (h : DataW.Trod enc Try.prog W 0 (fun _ => true) true t v d ps) : ∀ ao n cap, v = .slice ao n cap → n ≤ cap := by
  obtain ⟨ao, len, cap, rfl⟩ := okWide_slice ht hval
  obtain ⟨fuel, hf⟩ := h
  intro ao' n' cap' hv
  injection hv with e1 e2 e3
  subst e1 e2 e3
  rcases DataW.trod_slice ht hf with ⟨hcs, hx⟩ | ⟨a, len', cap', elems, rest, n, _, hcs, hx, _, hl, hm, hlen, hel, _, _⟩
  · simp [Value.cells] at hcs
    omega
  · simp [Value.cells] at hcs
    omega
theorem bytes_take {w : World} {ao : Option Addr} {n cap : Nat} {l : List UInt8} (h : Bytes w (.slice ao n cap) l) (k : Nat) (hk : k ≤ n) : Bytes w (.slice ao k cap) (l.take k) := by
  obtain ⟨ao', cap', hv, h0, hc⟩ := h
  injection hv with e1 e2 e3
  subst e1 e2 e3
  have hl : (l.take k).length = k := by rw [List.length_take]; omega
  refine ⟨ao, cap, by rw [hl], fun h => ?_, fun j hj => ?_⟩
  · obtain ⟨rfl, h2⟩ := h0 h
    exact ⟨by simp, h2⟩
  · obtain ⟨b, off, h1, h2, h3⟩ := hc j (by omega)
    exact ⟨b, off, h1, h2, by rw [h3]; simp⟩
end Go.Proofs.Ytebjofkblfmkmaa
