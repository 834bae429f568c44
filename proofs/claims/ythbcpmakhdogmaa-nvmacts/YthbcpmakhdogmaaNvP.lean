/- Slices of what is wide that came in; slices of bytes among them. -/
import Derived.Test.YthbcpmakhdogmaaNvO
namespace Go.Proofs.Ythbcpmakhdogmaa
open Go.ChangeShapes Go.WideShapes Go.ChangeAt Go.RowKit Go.Proofs.Ty
set_option linter.unusedVariables false
set_option maxRecDepth 1000000
set_option linter.unusedSimpArgs false
/-- A slice that came in whose elements are rows of c cells. -/
def WdN {α : Type} (c : Nat) (dec : α → List Value) (w : World) (v : Value) (l : List α) : Prop :=
  ∃ ao cap, v = .slice ao l.length cap ∧ (ao = none → l = [] ∧ cap = 0) ∧ ∀ k (h : k < l.length), ∃ b off, ao = some ⟨b, off, none⟩ ∧ b < w.heap.size ∧ w.rangeAt b (off + k * c) (dec l[k])
theorem WdN.shape {α : Type} {c : Nat} {dec : α → List Value} {w : World} {v : Value} {l : List α} (h : WdN c dec w v l) : ∃ ao cap, v = .slice ao l.length cap := by
  obtain ⟨ao, cap, rfl, _⟩ := h
  exact ⟨ao, cap, rfl⟩
theorem open_gen {H : Type} {enc : TypeId × Value → H} {α : Type} {W : World} {c : Nat} {dec : α → List Value} {G : DataW H → α → Prop} {t e : TypeId} (ht : Try.prog.underlying t = some (.slice e)) (hc : Try.prog.cellsOf e = c) (h0 : 0 < c)
    (hone : ∀ n cs y, DataW.trod enc Try.prog W 0 (fun _ => true) true n e cs = some y → (∀ x ∈ y.2, x.block < W.heap.size) → ∃ a : α, cs = dec a ∧ G y.1 a)
    {base : Nat} {v : Value} {d : DataW H} {ps : List MemPlace}
    (hval : Value.okWide Try.prog W .any base t v) (h : DataW.Trod enc Try.prog W 0 (fun _ => true) true t v d ps) (hlt : ∀ x ∈ ps, x.block < W.heap.size) :
    ∃ l : List α, WdN c dec W v l ∧ ((d = .nil ∧ l = []) ∨ ∃ e s, d = .slice e s ∧ e.length = l.length ∧ ∀ k (h : k < l.length) (h2 : k < e.length), G e[k] l[k]) := by
  obtain ⟨ao, len, cap, rfl⟩ := okWide_slice ht hval
  obtain ⟨fuel, hf⟩ := h
  rcases DataW.trod_slice ht hf with ⟨hcs, hx⟩ | ⟨a, len', cap', elems, rest, n, _, hcs, hx, _, hl, hm, hlen, hel, _, _⟩
  · simp [Value.cells] at hcs
    obtain ⟨rfl, rfl, rfl⟩ := hcs
    simp only [Prod.mk.injEq] at hx
    exact ⟨[], ⟨none, 0, rfl, fun _ => ⟨rfl, rfl⟩, fun k hk => by simp at hk⟩, .inl ⟨hx.1, rfl⟩⟩
  · simp [Value.cells] at hcs
    obtain ⟨rfl, rfl, rfl⟩ := hcs
    simp only [Prod.mk.injEq] at hx
    have each : ∀ i : Fin len, ∃ x : α, (∃ b off, a = ⟨b, off, none⟩ ∧ b < W.heap.size ∧ W.rangeAt b (off + i.1 * c) (dec x)) ∧ G (elems[i.1]'(by have := i.2; omega)).1 x := by
      intro i
      have hi := hel i.1 i.2
      have hil : i.1 < elems.length := by have := i.2; omega
      rw [List.getElem?_eq_getElem hil, Option.bind_eq_some_iff] at hi
      obtain ⟨cs, hcs, hy⟩ := hi
      obtain ⟨x, rfl, hGa⟩ := hone _ _ _ hy (fun p hp => hlt p (by
        rw [hx.2]
        refine List.mem_append_right _ ?_
        rw [List.mem_flatMap]
        exact ⟨elems[i.1], List.mem_append_left _ (List.getElem_mem hil), hp⟩))
      obtain ⟨_, h2, h3⟩ := World.cells?_some hcs
      rw [hc] at h2 h3
      have hs : a.spot = none := by
        have hi0 := hel 0 (by have := i.2; omega)
        rw [List.getElem?_eq_getElem (by have := i.2; omega), Option.bind_eq_some_iff] at hi0
        obtain ⟨cs0, hcs0, _⟩ := hi0
        obtain ⟨_, l2, l3⟩ := World.cells?_some hcs0
        have h4 := l3 0 (by rw [hc]; omega)
        rw [List.getElem?_eq_getElem (by rw [l2, hc]; omega)] at h4
        have := World.cell?_spot h4
        simpa [Addr.add] using this
      obtain ⟨b, off, spot⟩ := a
      simp only at hs
      subst hs
      refine ⟨x, ⟨b, off, rfl, ?_, ?_⟩, hGa⟩
      · have hlt2 : i.1 * c < (elems.length + rest.length) * c := Nat.mul_lt_mul_of_pos_right (by have := i.2; omega) h0
        have := hlt (.cell b (off + i.1 * c)) (by rw [hx.2, hc]; simp [MemPlace.row]; left; omega)
        exact this
      · intro j u hj
        have hjl := (List.getElem?_eq_some_iff.1 hj).1
        have := h3 j (by omega)
        rw [Addr.add_mid, Addr.add_mid, hj] at this
        exact this
    have hlist : ∃ l : List α, ∃ hL : l.length = len, ∀ k (h : k < l.length), (∃ b off, a = ⟨b, off, none⟩ ∧ b < W.heap.size ∧ W.rangeAt b (off + k * c) (dec l[k])) ∧ G (elems[k]'(by omega)).1 l[k] := by
      refine ⟨List.ofFn fun i => Classical.choose (each i), by simp, fun k hk => ?_⟩
      simp only [List.getElem_ofFn]
      exact Classical.choose_spec (each ⟨k, by simpa using hk⟩)
    obtain ⟨l, hll, hat⟩ := hlist
    refine ⟨l, ⟨some a, cap, by rw [hll], (fun h => by cases h), fun k hk => ?_⟩, .inr ⟨_, _, hx.1, by rw [List.length_map, hlen, hll], fun k hk h2 => by rw [List.getElem_map]; exact (hat k hk).2⟩⟩
    obtain ⟨b, off, rfl, hb, hr⟩ := (hat k hk).1
    exact ⟨b, off, rfl, hb, hr⟩
/-- Bytes within what came in. -/
theorem one_bytesN {H : Type} {enc : TypeId × Value → H} {W : World} (n : Nat) (c : Value) (y : DataW H × List MemPlace) (h : DataW.trod enc Try.prog W 0 (fun _ => true) true n 30 [c] = some y) (hlt : ∀ x ∈ y.2, x.block < W.heap.size) :
    ∃ l : List UInt8, Bytes W c l ∧ ((y.1 = .nil ∧ l = []) ∨ ∃ e s, y.1 = .slice e s ∧ e.length = l.length) := by
  rcases open_ints Try.underlying30 Try.underlying5 (by kernel_rfl) h with ⟨hcs, hx⟩ | ⟨x, len, cap, zs, hcs, _, hl, hm, hz, hx, hcell, hwz⟩
  · simp at hcs
    subst hcs
    exact ⟨[], ⟨none, 0, rfl, fun _ => ⟨rfl, rfl⟩, fun k hk => by simp at hk⟩, .inl ⟨by rw [hx], rfl⟩⟩
  · simp at hcs
    subst hcs
    have hz' : zs.length = cap := by simpa using hz
    have hlen : (zs.take len).length = len := by simp; omega
    refine ⟨(zs.take len).map (fun z => z.toNat.toUInt8), ⟨some x, cap, by rw [List.length_map, hlen], (fun h => by cases h), fun k hk => ?_⟩, .inr ⟨_, _, by rw [hx], by simp [lits]⟩⟩
    rw [List.length_map, hlen] at hk
    obtain ⟨b, off, rfl, hc⟩ := ints_at hcell (by omega)
    refine ⟨b, off, rfl, ?_, ?_⟩
    · have := hlt (.cell b (off + k)) (by rw [hx]; simp [MemPlace.row]; omega)
      exact this
    · rw [hc k (by omega)]
      have hk' : k < zs.length := by omega
      have hw := hwz zs[k] (List.getElem_mem hk')
      simp only [List.getElem_map, List.getElem_take]
      rw [u8_of_int hw]
      simp [hk']
theorem weights_memN {H : Type} {P : Program} {e : TypeId} {l : List (DataW H)} {k : Nat} (hk : k < l.length) {n : Nat} (h : n ∈ l[k].weights P e) : n ∈ DataW.weightsAll P e l := by
  induction l generalizing k with
  | nil => simp at hk
  | cons d r ih =>
    rw [DataW.weightsAll, List.mem_append]
    match k, hk with
    | 0, _ => left; simpa using h
    | k + 1, hk => right; exact ih (by simpa using hk) (by simpa using h)
theorem cells1bytesN : Try.prog.cellsOf 30 = 1 := by kernel_rfl
theorem bytes24 : Try.prog.bytesOf 30 = 24 := by kernel_rfl
abbrev Vb := Value × List UInt8
def vbC (x : Vb) : List Value := [x.1]
def Gb {H : Type} (W : World) (d : DataW H) (x : Vb) : Prop := Bytes W x.1 x.2 ∧ ((d = .nil ∧ x.2 = []) ∨ ∃ e s, d = .slice e s ∧ e.length = x.2.length)
theorem one_vb {H : Type} {enc : TypeId × Value → H} {W : World} (n : Nat) (cs : List Value) (y : DataW H × List MemPlace) (h : DataW.trod enc Try.prog W 0 (fun _ => true) true n 30 cs = some y) (hlt : ∀ x ∈ y.2, x.block < W.heap.size) : ∃ a : Vb, cs = vbC a ∧ Gb W y.1 a := by
  have hl : ∃ c, cs = [c] := by
    rcases DataW.trod_slice Try.underlying30 h with ⟨hcs, _⟩ | ⟨a, len', cap', elems, rest, n, _, hcs, _⟩
    · exact ⟨_, hcs⟩
    · exact ⟨_, hcs⟩
  obtain ⟨c, rfl⟩ := hl
  obtain ⟨l, h1, h2⟩ := one_bytesN n c y h hlt
  exact ⟨(c, l), rfl, h1, h2⟩
theorem open_bss {H : Type} {enc : TypeId × Value → H} {W : World} {base : Nat} {v : Value} {d : DataW H} {ps : List MemPlace}
    (hval : Value.okWide Try.prog W .any base 43 v) (h : DataW.Trod enc Try.prog W 0 (fun _ => true) true 43 v d ps) (hlt : ∀ x ∈ ps, x.block < W.heap.size) :
    ∃ l : List Vb, WdN 1 vbC W v l ∧ ((d = .nil ∧ l = []) ∨ ∃ e s, d = .slice e s ∧ e.length = l.length ∧ ∀ k (h : k < l.length) (h2 : k < e.length), Gb W e[k] l[k]) :=
  open_gen Try.underlying43 cells1bytesN (by decide) one_vb hval h hlt
theorem size_bss {H : Type} {W : World} {ts : List TypeId} {ds : List (DataW H)} {j : Nat} {d : DataW H} {l : List Vb} (h : (DataW.weightsEach Try.prog ts ds).all (· ≤ reachBytes) = true) (ht : ts[j]? = some 43) (hd : ds[j]? = some d) (e : (d = .nil ∧ l = []) ∨ ∃ e s, d = .slice e s ∧ e.length = l.length ∧ ∀ k (h : k < l.length) (h2 : k < e.length), Gb W e[k] l[k]) :
    l.length ≤ 5864062014634 ∧ ∀ a ∈ l, Bytes W a.1 a.2 ∧ a.2.length ≤ 140737488351232 := by
  have hr : reachBytes = 140737488351232 := by decide
  rcases e with ⟨_, rfl⟩ | ⟨e, s, rfl, h1, h2⟩
  · exact ⟨by simp, fun a ha => by simp at ha⟩
  · refine ⟨?_, fun a ha => ?_⟩
    · have hs := sized_slice h ht hd Try.underlying43
      rw [bytes24] at hs
      omega
    · obtain ⟨k, hk, rfl⟩ := List.getElem_of_mem ha
      have hG := h2 k hk (by omega)
      refine ⟨hG.1, ?_⟩
      rcases hG.2 with ⟨_, h0⟩ | ⟨e', s', he, hl⟩
      · rw [h0]; simp
      · have hm : (e'.length + s'.length) * Try.prog.bytesOf 5 ∈ DataW.weights Try.prog 30 e[k] := by
          rw [he]; simp [DataW.weights, Try.underlying30]
        have hm2 : (e'.length + s'.length) * Try.prog.bytesOf 5 ∈ DataW.weights Try.prog 43 (.slice e s) := by
          simp only [DataW.weights, Try.underlying43]
          exact List.mem_cons_of_mem _ (List.mem_append_left _ (weights_memN (by omega) hm))
        have := List.all_eq_true.1 h _ (DataW.weights_mem_each ht hd _ hm2)
        rw [bytes5] at this
        simp at this
        omega
end Go.Proofs.Ythbcpmakhdogmaa
