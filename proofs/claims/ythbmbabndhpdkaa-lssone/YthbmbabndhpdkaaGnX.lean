/- Slices of what is wide that came in, with what is known of each element; bytes among them. -/
import Derived.Test.YthbmbabndhpdkaaOpX
namespace Go.Proofs.Ythbmbabndhpdkaa
open Go.ChangeShapes Go.WideShapes Go.ChangeAt Go.RowKit
set_option linter.unusedVariables false
set_option maxRecDepth 1000000
set_option linter.unusedSimpArgs false
theorem open_gen {H : Type} {enc : TypeId × Value → H} {α : Type} {W : World} {c : Nat} {dec : α → List Value} {G : DataW H → α → Prop} {t e : TypeId} (ht : Try.prog.underlying t = some (.slice e)) (hc : Try.prog.cellsOf e = c) (h0 : 0 < c)
    (hone : ∀ n cs y, DataW.trod enc Try.prog W 0 (fun _ => true) true n e cs = some y → (∀ x ∈ y.2, x.block < W.heap.size) → ∃ a : α, cs = dec a ∧ G y.1 a)
    {base : Nat} {v : Value} {d : DataW H} {ps : List MemPlace}
    (hval : Value.okWide Try.prog W .any base t v) (h : DataW.Trod enc Try.prog W 0 (fun _ => true) true t v d ps) (hlt : ∀ x ∈ ps, x.block < W.heap.size) :
    ∃ l : List α, Wide c dec W v l ∧ ((d = .nil ∧ l = []) ∨ ∃ e s, d = .slice e s ∧ e.length = l.length ∧ ∀ k (h : k < l.length) (h2 : k < e.length), G e[k] l[k]) := by
  obtain ⟨ao, len, cap, rfl⟩ := okWide_slice ht hval
  obtain ⟨fuel, hf⟩ := h
  rcases DataW.trod_slice ht hf with ⟨hcs, hx⟩ | ⟨a, len', cap', elems, rest, n, _, hcs, hx, _, hl, hm, hlen, hel, _, _⟩
  · simp [Value.cells] at hcs
    obtain ⟨rfl, rfl, rfl⟩ := hcs
    simp only [Prod.mk.injEq] at hx
    exact ⟨[], ⟨none, 0, rfl, fun _ => ⟨rfl, rfl⟩, fun k hk => by simp at hk⟩, .inl ⟨hx.1, rfl⟩⟩
  · simp [Value.cells] at hcs
    obtain ⟨rfl, rfl, rfl⟩ := hcs
    simp only [Prod.mk.injEq] at hx
    have each : ∀ i : Fin len, ∃ x : α, (∃ b off, a = ⟨b, off, none⟩ ∧ b < W.heap.size ∧ W.rangeAt b (off + i.1 * c) (dec x)) ∧ G (elems[i.1]'(by have := i.2; omega)).1 x := by
      intro i
      have hi := hel i.1 i.2
      have hil : i.1 < elems.length := by have := i.2; omega
      rw [List.getElem?_eq_getElem hil, Option.bind_eq_some_iff] at hi
      obtain ⟨cs, hcs, hy⟩ := hi
      obtain ⟨x, rfl, hGa⟩ := hone _ _ _ hy (fun p hp => hlt p (by
        rw [hx.2]
        refine List.mem_append_right _ ?_
        rw [List.mem_flatMap]
        exact ⟨elems[i.1], List.mem_append_left _ (List.getElem_mem hil), hp⟩))
      obtain ⟨_, h2, h3⟩ := World.cells?_some hcs
      rw [hc] at h2 h3
      have hs : a.spot = none := by
        have hi0 := hel 0 (by have := i.2; omega)
        rw [List.getElem?_eq_getElem (by have := i.2; omega), Option.bind_eq_some_iff] at hi0
        obtain ⟨cs0, hcs0, _⟩ := hi0
        obtain ⟨_, l2, l3⟩ := World.cells?_some hcs0
        have h4 := l3 0 (by rw [hc]; omega)
        rw [List.getElem?_eq_getElem (by rw [l2, hc]; omega)] at h4
        have := World.cell?_spot h4
        simpa [Addr.add] using this
      obtain ⟨b, off, spot⟩ := a
      simp only at hs
      subst hs
      refine ⟨x, ⟨b, off, rfl, ?_, ?_⟩, hGa⟩
      · have hlt2 : i.1 * c < (elems.length + rest.length) * c := Nat.mul_lt_mul_of_pos_right (by have := i.2; omega) h0
        have := hlt (.cell b (off + i.1 * c)) (by rw [hx.2, hc]; simp [MemPlace.row]; left; omega)
        exact this
      · intro j u hj
        have hjl := (List.getElem?_eq_some_iff.1 hj).1
        have := h3 j (by omega)
        rw [Addr.add_mid, Addr.add_mid, hj] at this
        exact this
    have hlist : ∃ l : List α, ∃ hL : l.length = len, ∀ k (h : k < l.length), (∃ b off, a = ⟨b, off, none⟩ ∧ b < W.heap.size ∧ W.rangeAt b (off + k * c) (dec l[k])) ∧ G (elems[k]'(by omega)).1 l[k] := by
      refine ⟨List.ofFn fun i => Classical.choose (each i), by simp, fun k hk => ?_⟩
      simp only [List.getElem_ofFn]
      exact Classical.choose_spec (each ⟨k, by simpa using hk⟩)
    obtain ⟨l, hll, hat⟩ := hlist
    refine ⟨l, ⟨some a, cap, by rw [hll], (fun h => by cases h), fun k hk => ?_⟩, .inr ⟨_, _, hx.1, by rw [List.length_map, hlen, hll], fun k hk h2 => by rw [List.getElem_map]; exact (hat k hk).2⟩⟩
    obtain ⟨b, off, rfl, hb, hr⟩ := (hat k hk).1
    exact ⟨b, off, rfl, hb, hr⟩
theorem weights_memN {H : Type} {P : Program} {e : TypeId} {l : List (DataW H)} {k : Nat} (hk : k < l.length) {n : Nat} (h : n ∈ l[k].weights P e) : n ∈ DataW.weightsAll P e l := by
  induction l generalizing k with
  | nil => simp at hk
  | cons d r ih =>
    rw [DataW.weightsAll, List.mem_append]
    match k, hk with
    | 0, _ => left; simpa using h
    | k + 1, hk => right; exact ih (by simpa using hk) (by simpa using h)
/-- What is known of bytes within what came in. -/
def GB {H : Type} (W : World) (d : DataW H) (v : Value) (l : List UInt8) : Prop := Bytes W v l ∧ ((d = .nil ∧ l = []) ∨ ∃ e s, d = .slice e s ∧ e.length = l.length)
def boC (b : Bool) : List Value := [.bool b]
theorem cells1bool : Try.prog.cellsOf 4 = 1 := by kernel_rfl
theorem bytes1bool : Try.prog.bytesOf 4 = 1 := by kernel_rfl
end Go.Proofs.Ythbmbabndhpdkaa
