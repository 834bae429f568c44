/- Calls to be made that came in, opened. -/
import Derived.Test.YthbcpmakhdogmaaNvD6
import Derived.Test.YthbcpmakhdogmaaNvP
namespace Go.Proofs.Ythbcpmakhdogmaa
open Go.ChangeShapes Go.WideShapes Go.ChangeAt Go.RowKit Go.Proofs.Ty
set_option linter.unusedVariables false
set_option maxRecDepth 1000000
set_option linter.unusedSimpArgs false
theorem cellsA12 : Try.prog.cellsOf 40 = 12 := by kernel_rfl
theorem cellsP8 : Try.prog.cellsOf 38 = 8 := by kernel_rfl
theorem cells1u8N : Try.prog.cellsOf 5 = 1 := by kernel_rfl
theorem bytesA56 : Try.prog.bytesOf 40 = 56 := by kernel_rfl
theorem list12N {l : List Value} (h : l.length = 12) : ∃ c0 c1 c2 c3 c4 c5 c6 c7 c8 c9 c10 c11, l = [c0, c1, c2, c3, c4, c5, c6, c7, c8, c9, c10, c11] := by
  match l, h with
  | [c0, c1, c2, c3, c4, c5, c6, c7, c8, c9, c10, c11], _ => exact ⟨c0, c1, c2, c3, c4, c5, c6, c7, c8, c9, c10, c11, rfl⟩
theorem trod_u8N {H : Type} {enc : TypeId × Value → H} {W : World} {m : Nat} {c : Value} {y : Option (DataW H × List MemPlace)} {x : DataW H × List MemPlace} (hy : y = some x) (h : DataW.trod enc Try.prog W 0 (fun _ => true) true m 5 [c] = y) : ∃ b : UInt8, c = .int .u8 b.toNat := by
  rw [hy] at h
  obtain ⟨z, e, _, wz⟩ := DataW.trod_int Try.underlying5 h
  simp at e
  exact ⟨z.toNat.toUInt8, by rw [e, u8_of_int wz]⟩
/-- What is known of a call that came in. -/
def G9 {H : Type} (W : World) (d : DataW H) (a : A9) : Prop :=
  (-9223372036854775808 ≤ a.pg ∧ a.pg < 9223372036854775808) ∧ (-9223372036854775808 ≤ a.n ∧ a.n < 9223372036854775808) ∧ a.p.length = 8 ∧ Bytes W a.v a.l ∧ ∃ d0 d1 d2 d3 d4, d = .agg [d0, d1, d2, d3, d4] ∧ ((d4 = .nil ∧ a.l = []) ∨ ∃ e s, d4 = .slice e s ∧ e.length = a.l.length)
theorem one_a9 {H : Type} {enc : TypeId × Value → H} {W : World} (n : Nat) (cs : List Value) (y : DataW H × List MemPlace) (h : DataW.trod enc Try.prog W 0 (fun _ => true) true n 40 cs = some y) (hlt : ∀ x ∈ y.2, x.block < W.heap.size) : ∃ a : A9, cs = a.cells ∧ G9 W y.1 a := by
  obtain ⟨xs, m, _, hd, hn, hl, hfs⟩ := DataW.trod_struct Try.underlying40 h
  rw [cellsA12] at hn
  obtain ⟨c0, c1, c2, c3, c4, c5, c6, c7, c8, c9, c10, c11, rfl⟩ := list12N hn
  have g0 := hfs 0 _ rfl
  have g1 := hfs 1 _ rfl
  have g2 := hfs 2 _ rfl
  have g3 := hfs 3 _ rfl
  have g4 := hfs 4 _ rfl
  simp [cells1int, cellsP8, cells1bytesN] at g0 g1 g2 g3 g4
  match xs, hl with
  | [y0, y1, y2, y3, y4], _ =>
    simp at g0 g1 g2 g3 g4
    obtain ⟨i0, e0, _, w0⟩ := DataW.trod_int Try.underlying3 g0
    obtain ⟨i1, e1, _, w1⟩ := DataW.trod_int Try.underlying3 g1
    obtain ⟨i2, e2, _, w2⟩ := DataW.trod_int Try.underlying3 g2
    obtain ⟨l4, hB4, hl4⟩ := one_bytesN _ _ _ g4 (fun x hx => hlt x (by rw [hd]; simp [hx]))
    simp at e0 e1 e2
    subst e0 e1 e2
    obtain ⟨ys, m', _, _, _, hl8, hfi⟩ := DataW.trod_array Try.underlying38 g3
    match ys, hl8 with
    | [z0, z1, z2, z3, z4, z5, z6, z7], _ =>
      have a0 := hfi 0 (by decide)
      have a1 := hfi 1 (by decide)
      have a2 := hfi 2 (by decide)
      have a3 := hfi 3 (by decide)
      have a4 := hfi 4 (by decide)
      have a5 := hfi 5 (by decide)
      have a6 := hfi 6 (by decide)
      have a7 := hfi 7 (by decide)
      simp [cells1u8N] at a0 a1 a2 a3 a4 a5 a6 a7
      obtain ⟨b0, rfl⟩ := trod_u8N rfl a0
      obtain ⟨b1, rfl⟩ := trod_u8N rfl a1
      obtain ⟨b2, rfl⟩ := trod_u8N rfl a2
      obtain ⟨b3, rfl⟩ := trod_u8N rfl a3
      obtain ⟨b4, rfl⟩ := trod_u8N rfl a4
      obtain ⟨b5, rfl⟩ := trod_u8N rfl a5
      obtain ⟨b6, rfl⟩ := trod_u8N rfl a6
      obtain ⟨b7, rfl⟩ := trod_u8N rfl a7
      exact ⟨⟨i0, i1, i2, [b0, b1, b2, b3, b4, b5, b6, b7], c11, l4⟩, rfl, wf_i64_of w1, wf_i64_of w2, rfl, hB4, y0.1, y1.1, y2.1, y3.1, y4.1, by rw [hd]; simp, hl4⟩
theorem open_acts9 {H : Type} {enc : TypeId × Value → H} {W : World} {base : Nat} {v : Value} {d : DataW H} {ps : List MemPlace}
    (hval : Value.okWide Try.prog W .any base 22 v) (h : DataW.Trod enc Try.prog W 0 (fun _ => true) true 22 v d ps) (hlt : ∀ x ∈ ps, x.block < W.heap.size) :
    ∃ l : List A9, WdN 12 A9.cells W v l ∧ ((d = .nil ∧ l = []) ∨ ∃ e s, d = .slice e s ∧ e.length = l.length ∧ ∀ k (h : k < l.length) (h2 : k < e.length), G9 W e[k] l[k]) :=
  open_gen Try.underlying22 cellsA12 (by decide) one_a9 hval h hlt
theorem weight_a9 {H : Type} {W : World} {d : DataW H} {a : A9} (h : G9 W d a) : a.l = [] ∨ ∃ n, a.l.length ≤ n ∧ n ∈ d.weights Try.prog 40 := by
  obtain ⟨_, _, _, _, d0, d1, d2, d3, d4, rfl, h3⟩ := h
  rcases h3 with ⟨_, h⟩ | ⟨e, s, rfl, h⟩
  · exact .inl h
  · right
    refine ⟨(e.length + s.length) * Try.prog.bytesOf 5, by rw [bytes5]; omega, ?_⟩
    simp only [DataW.weights, Try.underlying40]
    refine DataW.weights_mem_each (j := 4) rfl rfl _ ?_
    simp [DataW.weights, Try.underlying30]
theorem size_acts9 {H : Type} {W : World} {ts : List TypeId} {ds : List (DataW H)} {j : Nat} {d : DataW H} {l : List A9} (h : (DataW.weightsEach Try.prog ts ds).all (· ≤ reachBytes) = true) (ht : ts[j]? = some 22) (hd : ds[j]? = some d) (e : (d = .nil ∧ l = []) ∨ ∃ e s, d = .slice e s ∧ e.length = l.length ∧ ∀ k (h : k < l.length) (h2 : k < e.length), G9 W e[k] l[k]) :
    l.length ≤ 2513169434843 ∧ ∀ a ∈ l, a.ok W := by
  have hr : reachBytes = 140737488351232 := by decide
  rcases e with ⟨_, rfl⟩ | ⟨e, s, rfl, h1, h2⟩
  · exact ⟨by simp, fun a ha => by simp at ha⟩
  · refine ⟨?_, fun a ha => ?_⟩
    · have hs := sized_slice h ht hd Try.underlying22
      rw [bytesA56] at hs
      omega
    · obtain ⟨k, hk, rfl⟩ := List.getElem_of_mem ha
      have hG := h2 k hk (by omega)
      have hG2 := hG
      obtain ⟨r1, r2, r3, r4, _⟩ := hG2
      refine ⟨r1.1, r1.2, r2.1, r2.2, r3, r4, ?_⟩
      rcases weight_a9 hG with h0 | ⟨n, hn, hm⟩
      · rw [h0]; simp
      · have hm2 : n ∈ DataW.weights Try.prog 22 (.slice e s) := by
          simp only [DataW.weights, Try.underlying22]
          exact List.mem_cons_of_mem _ (List.mem_append_left _ (weights_memN (by omega) hm))
        have := List.all_eq_true.1 h _ (DataW.weights_mem_each ht hd _ hm2)
        simp at this
        omega
end Go.Proofs.Ythbcpmakhdogmaa
