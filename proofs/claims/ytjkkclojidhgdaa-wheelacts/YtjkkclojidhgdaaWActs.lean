/- Acts on a wheel that came in, opened. -/
import Derived.Test.YtjkkclojidhgdaaW25
import Derived.Test.YtjkkclojidhgdaaRows
import Derived.ProofKit
import Derived.OpenShut
import Derived.ShutString
import Derived.ChangeOld
import Derived.SizedLaws
import Derived.Deep.MidRow
namespace Go.Proofs.Ytjkkclojidhgdaa
open Go.ChangeShapes Go.WideShapes Go.ChangeAt Go.RowKit
set_option linter.unusedVariables false
set_option maxRecDepth 1000000
theorem own : ownKnob Try.prog.godebug = none := by kernel_rfl
theorem laidOut : laidOutB Try.prog = true := by kernel_rfl
theorem u16_of {z : Int} (h : (Lit.int .u16 z).wf = true) : ∃ a : Nat, z = (a : Int) ∧ a < 65536 := by
  have hx : 0 ≤ z ∧ z ≤ 65535 := by simpa [Lit.wf, IntKind.min, IntKind.max, IntKind.signed, IntKind.bits] using h
  exact ⟨z.toNat, by omega, by omega⟩
theorem wf_i64_of {z : Int} (h : (Lit.int .i64 z).wf = true) : -9223372036854775808 ≤ z ∧ z < 9223372036854775808 := by
  have hx : -9223372036854775808 ≤ z ∧ z ≤ 9223372036854775807 := by simpa [Lit.wf, IntKind.min, IntKind.max, IntKind.signed, IntKind.bits] using h
  omega
theorem u64_of {z : Int} (h : (Lit.int .u64 z).wf = true) : ∃ a : Nat, z = (a : Int) ∧ a < 18446744073709551616 := by
  have hx : 0 ≤ z ∧ z ≤ 18446744073709551615 := by simpa [Lit.wf, IntKind.min, IntKind.max, IntKind.signed, IntKind.bits] using h
  exact ⟨z.toNat, by omega, by omega⟩
/-- A slice that came in whose elements are rows of c cells: nil, or cells in an old block. -/
def Wide {α : Type} (c : Nat) (dec : α → List Value) (w : World) (v : Value) (l : List α) : Prop :=
  ∃ ao cap, v = .slice ao l.length cap ∧ (ao = none → l = [] ∧ cap = 0) ∧ ∀ k (h : k < l.length), ∃ b off, ao = some ⟨b, off, none⟩ ∧ b < w.heap.size ∧ w.rangeAt b (off + k * c) (dec l[k])
theorem Wide.at {α : Type} {c : Nat} {dec : α → List Value} {w : World} {ao : Option Addr} {l : List α} (h : ∀ k (h : k < l.length), ∃ b off, ao = some ⟨b, off, none⟩ ∧ b < w.heap.size ∧ w.rangeAt b (off + k * c) (dec l[k])) {wr : World} (hb : Below w.heap.size w wr) (k : Nat) (hk : k < l.length) :
    ∃ b off, ao = some ⟨b, off, none⟩ ∧ b < w.heap.size ∧ wr.rangeAt b (off + k * c) (dec l[k]) := by
  obtain ⟨b, off, ha, hlt, hc⟩ := h k hk
  exact ⟨b, off, ha, hlt, fun j v hv => (hb.cell (p := ⟨b, off + k * c + j, none⟩) hlt).trans (hc j v hv)⟩
theorem open_wide {α : Type} {c : Nat} {dec : α → List Value} {P : Program} {H : Type} {enc : TypeId × Value → H} {W : World} {base : Nat} {v : Value} {d : DataW H} {ps : List MemPlace} {t e : TypeId}
    (ht : P.underlying t = some (.slice e)) (hc : P.cellsOf e = c) (h0 : 0 < c)
    (hone : ∀ n cs y, DataW.trod enc P W 0 (fun _ => true) true n e cs = some y → ∃ a : α, cs = dec a)
    (hval : Value.okWide P W .any base t v) (h : DataW.Trod enc P W 0 (fun _ => true) true t v d ps) (hlt : ∀ x ∈ ps, x.block < W.heap.size) :
    ∃ l : List α, Wide c dec W v l ∧ ((d = .nil ∧ l = []) ∨ ∃ e s, d = .slice e s ∧ e.length = l.length) := by
  obtain ⟨ao, len, cap, rfl⟩ := okWide_slice ht hval
  obtain ⟨fuel, hf⟩ := h
  rcases DataW.trod_slice ht hf with ⟨hcs, hx⟩ | ⟨a, len', cap', elems, rest, n, _, hcs, hx, _, hl, hm, hlen, hel, _, _⟩
  · simp [Value.cells] at hcs
    obtain ⟨rfl, rfl, rfl⟩ := hcs
    simp only [Prod.mk.injEq] at hx
    exact ⟨[], ⟨none, 0, rfl, fun _ => ⟨rfl, rfl⟩, fun k hk => by simp at hk⟩, .inl ⟨hx.1, rfl⟩⟩
  · simp [Value.cells] at hcs
    obtain ⟨rfl, rfl, rfl⟩ := hcs
    simp only [Prod.mk.injEq] at hx
    have each : ∀ i : Fin len, ∃ x : α, ∃ b off, a = ⟨b, off, none⟩ ∧ b < W.heap.size ∧ W.rangeAt b (off + i.1 * c) (dec x) := by
      intro i
      have hi := hel i.1 i.2
      rw [List.getElem?_eq_getElem (by omega), Option.bind_eq_some_iff] at hi
      obtain ⟨cs, hcs, hy⟩ := hi
      obtain ⟨x, rfl⟩ := hone _ _ _ hy
      obtain ⟨_, h2, h3⟩ := World.cells?_some hcs
      rw [hc] at h2 h3
      have hs : a.spot = none := by
        have hi0 := hel 0 (by have := i.2; omega)
        rw [List.getElem?_eq_getElem (by have := i.2; omega), Option.bind_eq_some_iff] at hi0
        obtain ⟨cs0, hcs0, _⟩ := hi0
        obtain ⟨_, l2, l3⟩ := World.cells?_some hcs0
        have h4 := l3 0 (by omega)
        rw [List.getElem?_eq_getElem (by omega)] at h4
        have := World.cell?_spot h4
        simpa [Addr.add] using this
      obtain ⟨b, off, spot⟩ := a
      simp only at hs
      subst hs
      refine ⟨x, b, off, rfl, ?_, ?_⟩
      · have hlt2 : i.1 * c < (elems.length + rest.length) * c := Nat.mul_lt_mul_of_pos_right (by have := i.2; omega) h0
        have := hlt (.cell b (off + i.1 * c)) (by rw [hx.2, hc]; simp [MemPlace.row]; left; exact hlt2)
        exact this
      · intro j u hj
        have hjl := (List.getElem?_eq_some_iff.1 hj).1
        have := h3 j (by omega)
        rw [Addr.add_mid, Addr.add_mid, hj] at this
        exact this
    have hlist : ∃ l : List α, l.length = len ∧ ∀ k (h : k < l.length), ∃ b off, a = ⟨b, off, none⟩ ∧ b < W.heap.size ∧ W.rangeAt b (off + k * c) (dec l[k]) := by
      refine ⟨List.ofFn fun i => Classical.choose (each i), by simp, fun k hk => ?_⟩
      rw [List.getElem_ofFn]
      exact Classical.choose_spec (each ⟨k, by simpa using hk⟩)
    obtain ⟨l, hll, hat⟩ := hlist
    refine ⟨l, ⟨some a, cap, by rw [hll], (fun h => by cases h), fun k hk => ?_⟩, .inr ⟨_, _, hx.1, by rw [List.length_map, hlen, hll]⟩⟩
    obtain ⟨b, off, rfl, hb, hr⟩ := hat k hk
    exact ⟨b, off, rfl, hb, hr⟩
theorem size_wide {α : Type} {P : Program} {H : Type} {t e : TypeId} {ts : List TypeId} {ds : List (DataW H)} {j c : Nat} {d : DataW H} {l : List α} (h : (DataW.weightsEach P ts ds).all (· ≤ reachBytes) = true) (ht : ts[j]? = some t) (hd : ds[j]? = some d) (hu : P.underlying t = some (.slice e)) (hc : P.bytesOf e = c) (x : (d = .nil ∧ l = []) ∨ ∃ e s, d = .slice e s ∧ e.length = l.length) : l.length * c ≤ 140737488351232 := by
  rcases x with ⟨_, rfl⟩ | ⟨x, s, rfl, he⟩
  · simp
  · have hs := sized_slice h ht hd hu
    rw [hc] at hs
    have hr : reachBytes = 140737488351232 := by decide
    have : l.length * c ≤ (x.length + s.length) * c := Nat.mul_le_mul_right _ (by omega)
    omega


/-- An act: its kind, the timer it speaks of, what is told, two numbers. -/
structure Ak where
  kind : Int
  timer : Int
  what : Int
  a : Nat
  b : Nat
  h1 : -9223372036854775808 ≤ kind ∧ kind < 9223372036854775808
  h2 : -9223372036854775808 ≤ timer ∧ timer < 9223372036854775808
  h3 : -9223372036854775808 ≤ what ∧ what < 9223372036854775808
  h4 : a < 18446744073709551616
  h5 : b < 18446744073709551616
def decK (a : Ak) : List Value := [.int .i64 a.kind, .int .i64 a.timer, .int .i64 a.what, .int .u64 a.a, .int .u64 a.b]
theorem cellsAk : Try.prog.cellsOf 34 = 5 := by kernel_rfl
theorem bytesAk : Try.prog.bytesOf 34 = 40 := by kernel_rfl
theorem infoK : (Try.prog.info? 34).map (·.size) = some 5 := by kernel_rfl
theorem cells1int : Try.prog.cellsOf 3 = 1 := by kernel_rfl
theorem cells1u64 : Try.prog.cellsOf 30 = 1 := by kernel_rfl
theorem list5 {l : List Value} (h : l.length = 5) : ∃ c0 c1 c2 c3 c4, l = [c0, c1, c2, c3, c4] := by
  match l, h with
  | [c0, c1, c2, c3, c4], _ => exact ⟨c0, c1, c2, c3, c4, rfl⟩
theorem one_ak {H : Type} {enc : TypeId × Value → H} {W : World} (n : Nat) (cs : List Value) (y : DataW H × List MemPlace) (h : DataW.trod enc Try.prog W 0 (fun _ => true) true n 34 cs = some y) : ∃ a, cs = decK a := by
  obtain ⟨xs, m, _, _, hn, hl, hfs⟩ := DataW.trod_struct Try.underlying34 h
  rw [cellsAk] at hn
  obtain ⟨c0, c1, c2, c3, c4, rfl⟩ := list5 hn
  have g0 := hfs 0 _ rfl
  have g1 := hfs 1 _ rfl
  have g2 := hfs 2 _ rfl
  have g3 := hfs 3 _ rfl
  have g4 := hfs 4 _ rfl
  simp [cells1int, cells1u64] at g0 g1 g2 g3 g4
  match xs, hl with
  | [y0, y1, y2, y3, y4], _ =>
    simp at g0 g1 g2 g3 g4
    obtain ⟨i0, e0, _, w0⟩ := DataW.trod_int Try.underlying3 g0
    obtain ⟨i1, e1, _, w1⟩ := DataW.trod_int Try.underlying3 g1
    obtain ⟨i2, e2, _, w2⟩ := DataW.trod_int Try.underlying3 g2
    obtain ⟨i3, e3, _, w3⟩ := DataW.trod_int Try.underlying30 g3
    obtain ⟨i4, e4, _, w4⟩ := DataW.trod_int Try.underlying30 g4
    simp at e0 e1 e2 e3 e4
    subst e0 e1 e2 e3 e4
    obtain ⟨n3, rfl, l3⟩ := u64_of w3
    obtain ⟨n4, rfl, l4⟩ := u64_of w4
    exact ⟨⟨i0, i1, i2, n3, n4, wf_i64_of w0, wf_i64_of w1, wf_i64_of w2, l3, l4⟩, rfl⟩
def Acts (w : World) (v : Value) (l : List Ak) : Prop := Wide 5 decK w v l
theorem open_acts {H : Type} {enc : TypeId × Value → H} {W : World} {base : Nat} {v : Value} {d : DataW H} {ps : List MemPlace}
    (hval : Value.okWide Try.prog W .any base 22 v) (h : DataW.Trod enc Try.prog W 0 (fun _ => true) true 22 v d ps) (hlt : ∀ x ∈ ps, x.block < W.heap.size) :
    ∃ l, Acts W v l ∧ ((d = .nil ∧ l = []) ∨ ∃ e s, d = .slice e s ∧ e.length = l.length) :=
  open_wide Try.underlying22 cellsAk (by decide) one_ak hval h hlt
theorem size_acts {H : Type} {ts : List TypeId} {ds : List (DataW H)} {j : Nat} {d : DataW H} {l : List Ak} (h : (DataW.weightsEach Try.prog ts ds).all (· ≤ reachBytes) = true) (ht : ts[j]? = some 22) (hd : ds[j]? = some d) (e : (d = .nil ∧ l = []) ∨ ∃ e s, d = .slice e s ∧ e.length = l.length) : l.length ≤ 3518437208781 := by
  have := size_wide h ht hd Try.underlying22 bytesAk e
  omega
theorem ak_ld {w : World} {b o : Nat} {a : Ak} {ops : Array Oper} {rest : List Oper} {p : Oper} {f : Act} {Q : Exit → Act → World → Prop} (h : w.rangeAt b o (decK a)) (hgd : p.guard = none) (x : Operand) (ho : p.op = .load 34 x) (hx : f.eval x = .pointer (some ⟨b, o, none⟩))
    (hh : wpList Try.prog ops Q rest (f.put p.dst (.agg #[.int .i64 a.kind, .int .i64 a.timer, .int .i64 a.what, .int .u64 a.a, .int .u64 a.b])) w) : wpList Try.prog ops Q (p :: rest) f w :=
  wpList_load_mid hgd 34 x ho b o hx (decK a) _ h Try.underlying34 rfl infoK hh
end Go.Proofs.Ytjkkclojidhgdaa
