/- How arguments that came in are opened: numbers, slices of bytes, slices of whatever structs. -/
import Derived.Test.YthbmbabndhpdkaaRows
import Derived.WalkKit
import Derived.Below
import Derived.ProofKit
import Derived.OpenShut
import Derived.ShutString
import Derived.ChangeOld
import Derived.SizedLaws
import Derived.Deep.MidRow
namespace Go.Proofs.Ythbmbabndhpdkaa
open Go.ChangeShapes Go.WideShapes Go.ChangeAt Go.RowKit
set_option linter.unusedVariables false
set_option maxRecDepth 1000000

theorem own : ownKnob Try.prog.godebug = none := by kernel_rfl
theorem laidOut : laidOutB Try.prog = true := by kernel_rfl
theorem bytes5 : Try.prog.bytesOf 5 = 1 := by kernel_rfl
theorem u8_of_int {z : Int} (h : (Lit.int .u8 z).wf = true) : ((z.toNat.toUInt8).toNat : Int) = z := by
  have hx : 0 ≤ z ∧ z ≤ 255 := by simpa [Lit.wf, IntKind.min, IntKind.max, IntKind.signed, IntKind.bits] using h
  simp
  omega
theorem wf_i64_of {z : Int} (h : (Lit.int .i64 z).wf = true) : -9223372036854775808 ≤ z ∧ z < 9223372036854775808 := by
  have hx : -9223372036854775808 ≤ z ∧ z ≤ 9223372036854775807 := by simpa [Lit.wf, IntKind.min, IntKind.max, IntKind.signed, IntKind.bits] using h
  omega
theorem wf_u16_of {z : Int} (h : (Lit.int .u16 z).wf = true) : 0 ≤ z ∧ z < 65536 := by
  have hx : 0 ≤ z ∧ z ≤ 65535 := by simpa [Lit.wf, IntKind.min, IntKind.max, IntKind.signed, IntKind.bits] using h
  omega
theorem wf_u8_of {z : Int} (h : (Lit.int .u8 z).wf = true) : 0 ≤ z ∧ z < 256 := by
  have hx : 0 ≤ z ∧ z ≤ 255 := by simpa [Lit.wf, IntKind.min, IntKind.max, IntKind.signed, IntKind.bits] using h
  omega

/-- A slice of bytes that came in: nil, or cells in an old block (where there is none, whatever address). -/
def Bytes (w : World) (v : Value) (l : List UInt8) : Prop :=
  ∃ ao cap, v = .slice ao l.length cap ∧ (ao = none → l = [] ∧ cap = 0) ∧ ∀ k (h : k < l.length), ∃ b off, ao = some ⟨b, off, none⟩ ∧ b < w.heap.size ∧ w.cell? ⟨b, off + k, none⟩ = some (.int .u8 l[k].toNat)
theorem Bytes.at {w wr : World} {ao : Option Addr} {cap : Nat} {l : List UInt8} (h : ∀ k (h : k < l.length), ∃ b off, ao = some ⟨b, off, none⟩ ∧ b < w.heap.size ∧ w.cell? ⟨b, off + k, none⟩ = some (.int .u8 l[k].toNat)) (hb : Below w.heap.size w wr) (k : Nat) (hk : k < l.length) :
    ∃ b off, ao = some ⟨b, off, none⟩ ∧ b < w.heap.size ∧ wr.cell? ⟨b, off + k, none⟩ = some (.int .u8 l[k].toNat) := by
  obtain ⟨b, off, ha, hlt, hcell⟩ := h k hk
  exact ⟨b, off, ha, hlt, (hb.cell (p := ⟨b, off + k, none⟩) hlt).trans hcell⟩

theorem wf_u64_of {z : Int} (h : (Lit.int .u64 z).wf = true) : 0 ≤ z ∧ z < 18446744073709551616 := by
  have hx : 0 ≤ z ∧ z ≤ 18446744073709551615 := by simpa [Lit.wf, IntKind.min, IntKind.max, IntKind.signed, IntKind.bits] using h
  omega
theorem wf_u32_of {z : Int} (h : (Lit.int .u32 z).wf = true) : 0 ≤ z ∧ z < 4294967296 := by
  have hx : 0 ≤ z ∧ z ≤ 4294967295 := by simpa [Lit.wf, IntKind.min, IntKind.max, IntKind.signed, IntKind.bits] using h
  omega
/-- A slice that came in whose elements are rows of c cells: nil, or cells in an old block. -/
def Wide {α : Type} (c : Nat) (dec : α → List Value) (w : World) (v : Value) (l : List α) : Prop :=
  ∃ ao cap, v = .slice ao l.length cap ∧ (ao = none → l = [] ∧ cap = 0) ∧ ∀ k (h : k < l.length), ∃ b off, ao = some ⟨b, off, none⟩ ∧ b < w.heap.size ∧ w.rangeAt b (off + k * c) (dec l[k])
theorem Wide.at {α : Type} {c : Nat} {dec : α → List Value} {w : World} {ao : Option Addr} {l : List α} (h : ∀ k (h : k < l.length), ∃ b off, ao = some ⟨b, off, none⟩ ∧ b < w.heap.size ∧ w.rangeAt b (off + k * c) (dec l[k])) {wr : World} (hb : Below w.heap.size w wr) (k : Nat) (hk : k < l.length) :
    ∃ b off, ao = some ⟨b, off, none⟩ ∧ b < w.heap.size ∧ wr.rangeAt b (off + k * c) (dec l[k]) := by
  obtain ⟨b, off, ha, hlt, hc⟩ := h k hk
  exact ⟨b, off, ha, hlt, fun j v hv => (hb.cell (p := ⟨b, off + k * c + j, none⟩) hlt).trans (hc j v hv)⟩
theorem open_wide {α : Type} {c : Nat} {dec : α → List Value} {P : Program} {H : Type} {enc : TypeId × Value → H} {W : World} {base : Nat} {v : Value} {d : DataW H} {ps : List MemPlace} {t e : TypeId}
    (ht : P.underlying t = some (.slice e)) (hc : P.cellsOf e = c) (h0 : 0 < c)
    (hone : ∀ n cs y, DataW.trod enc P W 0 (fun _ => true) true n e cs = some y → ∃ a : α, cs = dec a)
    (hval : Value.okWide P W .any base t v) (h : DataW.Trod enc P W 0 (fun _ => true) true t v d ps) (hlt : ∀ x ∈ ps, x.block < W.heap.size) :
    ∃ l : List α, Wide c dec W v l ∧ ((d = .nil ∧ l = []) ∨ ∃ e s, d = .slice e s ∧ e.length = l.length) := by
  obtain ⟨ao, len, cap, rfl⟩ := okWide_slice ht hval
  obtain ⟨fuel, hf⟩ := h
  rcases DataW.trod_slice ht hf with ⟨hcs, hx⟩ | ⟨a, len', cap', elems, rest, n, _, hcs, hx, _, hl, hm, hlen, hel, _, _⟩
  · simp [Value.cells] at hcs
    obtain ⟨rfl, rfl, rfl⟩ := hcs
    simp only [Prod.mk.injEq] at hx
    exact ⟨[], ⟨none, 0, rfl, fun _ => ⟨rfl, rfl⟩, fun k hk => by simp at hk⟩, .inl ⟨hx.1, rfl⟩⟩
  · simp [Value.cells] at hcs
    obtain ⟨rfl, rfl, rfl⟩ := hcs
    simp only [Prod.mk.injEq] at hx
    have each : ∀ i : Fin len, ∃ x : α, ∃ b off, a = ⟨b, off, none⟩ ∧ b < W.heap.size ∧ W.rangeAt b (off + i.1 * c) (dec x) := by
      intro i
      have hi := hel i.1 i.2
      rw [List.getElem?_eq_getElem (by omega), Option.bind_eq_some_iff] at hi
      obtain ⟨cs, hcs, hy⟩ := hi
      obtain ⟨x, rfl⟩ := hone _ _ _ hy
      obtain ⟨_, h2, h3⟩ := World.cells?_some hcs
      rw [hc] at h2 h3
      have hs : a.spot = none := by
        have hi0 := hel 0 (by have := i.2; omega)
        rw [List.getElem?_eq_getElem (by have := i.2; omega), Option.bind_eq_some_iff] at hi0
        obtain ⟨cs0, hcs0, _⟩ := hi0
        obtain ⟨_, l2, l3⟩ := World.cells?_some hcs0
        have h4 := l3 0 (by omega)
        rw [List.getElem?_eq_getElem (by omega)] at h4
        have := World.cell?_spot h4
        simpa [Addr.add] using this
      obtain ⟨b, off, spot⟩ := a
      simp only at hs
      subst hs
      refine ⟨x, b, off, rfl, ?_, ?_⟩
      · have hlt2 : i.1 * c < (elems.length + rest.length) * c := Nat.mul_lt_mul_of_pos_right (by have := i.2; omega) h0
        have := hlt (.cell b (off + i.1 * c)) (by rw [hx.2, hc]; simp [MemPlace.row]; left; exact hlt2)
        exact this
      · intro j u hj
        have hjl := (List.getElem?_eq_some_iff.1 hj).1
        have := h3 j (by omega)
        rw [Addr.add_mid, Addr.add_mid, hj] at this
        exact this
    have hlist : ∃ l : List α, l.length = len ∧ ∀ k (h : k < l.length), ∃ b off, a = ⟨b, off, none⟩ ∧ b < W.heap.size ∧ W.rangeAt b (off + k * c) (dec l[k]) := by
      refine ⟨List.ofFn fun i => Classical.choose (each i), by simp, fun k hk => ?_⟩
      rw [List.getElem_ofFn]
      exact Classical.choose_spec (each ⟨k, by simpa using hk⟩)
    obtain ⟨l, hll, hat⟩ := hlist
    refine ⟨l, ⟨some a, cap, by rw [hll], (fun h => by cases h), fun k hk => ?_⟩, .inr ⟨_, _, hx.1, by rw [List.length_map, hlen, hll]⟩⟩
    obtain ⟨b, off, rfl, hb, hr⟩ := hat k hk
    exact ⟨b, off, rfl, hb, hr⟩
theorem size_wide {α : Type} {P : Program} {H : Type} {t e : TypeId} {ts : List TypeId} {ds : List (DataW H)} {j c : Nat} {d : DataW H} {l : List α} (h : (DataW.weightsEach P ts ds).all (· ≤ reachBytes) = true) (ht : ts[j]? = some t) (hd : ds[j]? = some d) (hu : P.underlying t = some (.slice e)) (hc : P.bytesOf e = c) (x : (d = .nil ∧ l = []) ∨ ∃ e s, d = .slice e s ∧ e.length = l.length) : l.length * c ≤ 140737488351232 := by
  rcases x with ⟨_, rfl⟩ | ⟨x, s, rfl, he⟩
  · simp
  · have hs := sized_slice h ht hd hu
    rw [hc] at hs
    have hr : reachBytes = 140737488351232 := by decide
    have : l.length * c ≤ (x.length + s.length) * c := Nat.mul_le_mul_right _ (by omega)
    omega

end Go.Proofs.Ythbmbabndhpdkaa
