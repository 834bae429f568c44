/- Entries and acts that came in, opened. -/
import Derived.Test.YthalhidebkhclaaO8
import Derived.Test.YthalhidebkhclaaTyO
namespace Go.Proofs.Ythalhidebkhclaa
open Go.ChangeShapes Go.WideShapes Go.ChangeAt Go.RowKit Go.Proofs.Ty
set_option linter.unusedVariables false
set_option maxRecDepth 1000000
set_option linter.unusedSimpArgs false
theorem u16_of {z : Int} (h : (Lit.int .u16 z).wf = true) : ∃ a : Nat, z = (a : Int) ∧ a < 65536 := by
  have hx : 0 ≤ z ∧ z ≤ 65535 := by simpa [Lit.wf, IntKind.min, IntKind.max, IntKind.signed, IntKind.bits] using h
  exact ⟨z.toNat, by omega, by omega⟩
theorem u8_of {z : Int} (h : (Lit.int .u8 z).wf = true) : ∃ a : Nat, z = (a : Int) ∧ a < 256 := by
  have hx : 0 ≤ z ∧ z ≤ 255 := by simpa [Lit.wf, IntKind.min, IntKind.max, IntKind.signed, IntKind.bits] using h
  exact ⟨z.toNat, by omega, by omega⟩
theorem u64_of {z : Int} (h : (Lit.int .u64 z).wf = true) : ∃ a : Nat, z = (a : Int) ∧ a < 18446744073709551616 := by
  have hx := wf_u64_of h
  exact ⟨z.toNat, by omega, by omega⟩
theorem cellsE : Try.prog.cellsOf 59 = 14 := by kernel_rfl
theorem bytesE : Try.prog.bytesOf 59 = 120 := by kernel_rfl
theorem cells1u16 : Try.prog.cellsOf 45 = 1 := by kernel_rfl
theorem cells1u8 : Try.prog.cellsOf 5 = 1 := by kernel_rfl
theorem cells1bool : Try.prog.cellsOf 4 = 1 := by kernel_rfl
theorem cells1bytes : Try.prog.cellsOf 24 = 1 := by kernel_rfl
theorem one_vl {H : Type} {enc : TypeId × Value → H} {W : World} (n : Nat) (cs : List Value) (y : DataW H × List MemPlace) (h : DataW.trod enc Try.prog W 0 (fun _ => true) true n 42 cs = some y) : ∃ v : Vl, cs = vlC v := by
  obtain ⟨xs, m, _, _, hn, hl, hfs⟩ := DataW.trod_struct Try.underlying42 h
  rw [cellsV3] at hn
  obtain ⟨c0, c1, c2, rfl⟩ := list3 hn
  have g0 := hfs 0 _ rfl
  have g1 := hfs 1 _ rfl
  have g2 := hfs 2 _ rfl
  simp [cells1u64, cells1int, cells1str] at g0 g1 g2
  match xs, hl with
  | [y0, y1, y2], _ =>
    simp at g0 g1 g2
    obtain ⟨t, e0, _, wt⟩ := DataW.trod_int Try.underlying3 g0
    obtain ⟨k, e1, _, wk⟩ := DataW.trod_int Try.underlying40 g1
    obtain ⟨s, e2, _, hs⟩ := DataW.trod_string Try.underlying9 g2
    simp at e0 e1 e2
    subst e0 e1 e2
    obtain ⟨k, rfl, hk⟩ := u64_of wk
    exact ⟨⟨t, k, s, wf_i64_of wt, hk, hs⟩, rfl⟩
theorem list14 {l : List Value} (h : l.length = 14) : ∃ c0 c1 c2 c3 c4 c5 c6 c7 c8 c9 c10 c11 c12 c13, l = [c0, c1, c2, c3, c4, c5, c6, c7, c8, c9, c10, c11, c12, c13] := by
  match l, h with
  | [c0, c1, c2, c3, c4, c5, c6, c7, c8, c9, c10, c11, c12, c13], _ => exact ⟨c0, c1, c2, c3, c4, c5, c6, c7, c8, c9, c10, c11, c12, c13, rfl⟩
theorem list8 {l : List Value} (h : l.length = 8) : ∃ c0 c1 c2 c3 c4 c5 c6 c7, l = [c0, c1, c2, c3, c4, c5, c6, c7] := by
  match l, h with
  | [c0, c1, c2, c3, c4, c5, c6, c7], _ => exact ⟨c0, c1, c2, c3, c4, c5, c6, c7, rfl⟩
theorem one_en {H : Type} {enc : TypeId × Value → H} {W : World} (n : Nat) (cs : List Value) (y : DataW H × List MemPlace) (h : DataW.trod enc Try.prog W 0 (fun _ => true) true n 59 cs = some y) : ∃ e : En, cs = enC e := by
  obtain ⟨xs, m, _, _, hn, hl, hfs⟩ := DataW.trod_struct Try.underlying59 h
  rw [cellsE] at hn
  obtain ⟨c0, c1, c2, c3, c4, c5, c6, c7, c8, c9, c10, c11, c12, c13, rfl⟩ := list14 hn
  have g0 := hfs 0 _ rfl
  have g1 := hfs 1 _ rfl
  have g2 := hfs 2 _ rfl
  have g3 := hfs 3 _ rfl
  have g4 := hfs 4 _ rfl
  have g5 := hfs 5 _ rfl
  have g6 := hfs 6 _ rfl
  have g7 := hfs 7 _ rfl
  simp [cells1u16, cells1u8, cells1int, cells1bool, cellsV3] at g0 g1 g2 g3 g4 g5 g6 g7
  match xs, hl with
  | [y0, y1, y2, y3, y4, y5, y6, y7], _ =>
    simp at g0 g1 g2 g3 g4 g5 g6 g7
    obtain ⟨i0, e0, _, w0⟩ := DataW.trod_int Try.underlying45 g0
    obtain ⟨i1, e1, _, w1⟩ := DataW.trod_int Try.underlying5 g1
    obtain ⟨i2, e2, _, w2⟩ := DataW.trod_int Try.underlying3 g2
    obtain ⟨b3, e3, _⟩ := DataW.trod_bool Try.underlying4 g3
    obtain ⟨b4, e4, _⟩ := DataW.trod_bool Try.underlying4 g4
    obtain ⟨v5, e5⟩ := one_vl _ _ _ g5
    obtain ⟨v6, e6⟩ := one_vl _ _ _ g6
    obtain ⟨v7, e7⟩ := one_vl _ _ _ g7
    simp at e0 e1 e2 e3 e4
    simp only [vlC, List.cons.injEq, and_true] at e5 e6 e7
    obtain ⟨rfl, rfl, rfl⟩ := e5
    obtain ⟨rfl, rfl, rfl⟩ := e6
    obtain ⟨rfl, rfl, rfl⟩ := e7
    subst e0 e1 e2 e3 e4
    obtain ⟨n0, rfl, l0⟩ := u16_of w0
    obtain ⟨n1, rfl, l1⟩ := u8_of w1
    exact ⟨⟨n0, n1, i2, b3, b4, v5, v6, v7, l0, l1, wf_i64_of w2⟩, rfl⟩
theorem open_entries {H : Type} {enc : TypeId × Value → H} {W : World} {base : Nat} {v : Value} {d : DataW H} {ps : List MemPlace}
    (hval : Value.okWide Try.prog W .any base 22 v) (h : DataW.Trod enc Try.prog W 0 (fun _ => true) true 22 v d ps) (hlt : ∀ x ∈ ps, x.block < W.heap.size) :
    ∃ l, Wide 14 enC W v l ∧ ((d = .nil ∧ l = []) ∨ ∃ e s, d = .slice e s ∧ e.length = l.length) :=
  open_wide Try.underlying22 cellsE (by decide) one_en hval h hlt
theorem size_entries {H : Type} {ts : List TypeId} {ds : List (DataW H)} {j : Nat} {d : DataW H} {l : List En} (h : (DataW.weightsEach Try.prog ts ds).all (· ≤ reachBytes) = true) (ht : ts[j]? = some 22) (hd : ds[j]? = some d) (e : (d = .nil ∧ l = []) ∨ ∃ e s, d = .slice e s ∧ e.length = l.length) : l.length ≤ 1172812402927 := by
  have := size_wide h ht hd Try.underlying22 bytesE e
  omega
/-- Bytes within what came in. -/
theorem one_bytes {H : Type} {enc : TypeId × Value → H} {W : World} (n : Nat) (c : Value) (y : DataW H × List MemPlace) (h : DataW.trod enc Try.prog W 0 (fun _ => true) true n 24 [c] = some y) (hlt : ∀ x ∈ y.2, x.block < W.heap.size) :
    ∃ l : List UInt8, Bytes W c l ∧ ((y.1 = .nil ∧ l = []) ∨ ∃ e s, y.1 = .slice e s ∧ e.length = l.length) := by
  rcases open_ints Try.underlying24 Try.underlying5 (by kernel_rfl) h with ⟨hcs, hx⟩ | ⟨x, len, cap, zs, hcs, _, hl, hm, hz, hx, hcell, hwz⟩
  · simp at hcs
    subst hcs
    exact ⟨[], ⟨none, 0, rfl, fun _ => ⟨rfl, rfl⟩, fun k hk => by simp at hk⟩, .inl ⟨by rw [hx], rfl⟩⟩
  · simp at hcs
    subst hcs
    have hz' : zs.length = cap := by simpa using hz
    have hlen : (zs.take len).length = len := by simp; omega
    refine ⟨(zs.take len).map (fun z => z.toNat.toUInt8), ⟨some x, cap, by rw [List.length_map, hlen], (fun h => by cases h), fun k hk => ?_⟩, .inr ⟨_, _, by rw [hx], by simp [lits]⟩⟩
    rw [List.length_map, hlen] at hk
    obtain ⟨b, off, rfl, hc⟩ := ints_at hcell (by omega)
    refine ⟨b, off, rfl, ?_, ?_⟩
    · have := hlt (.cell b (off + k)) (by rw [hx]; simp [MemPlace.row]; omega)
      exact this
    · rw [hc k (by omega)]
      have hk' : k < zs.length := by omega
      have hw := hwz zs[k] (List.getElem_mem hk')
      simp only [List.getElem_map, List.getElem_take]
      rw [u8_of_int hw]
      simp [hk']
/-- An act: its kind, index, sub-index, bytes, value, number. -/
structure A8 where
  kind : Int
  ix : Nat
  sb : Nat
  bv : Value
  bl : List UInt8
  v : Vl
  n : Nat
  hk : -9223372036854775808 ≤ kind ∧ kind < 9223372036854775808
  hix : ix < 65536
  hsb : sb < 256
  hn : n < 65536
def acC (a : A8) : List Value := [.int .i64 a.kind, .int .u16 a.ix, .int .u8 a.sb, a.bv, .int .i64 a.v.t, .int .u64 a.v.n, .string a.v.s, .int .u16 a.n]
def A8.arr (a : A8) : Array Value := (acC a).toArray
/-- What is known of an act that came in. -/
def Ga {H : Type} (W : World) (d : DataW H) (a : A8) : Prop := Bytes W a.bv a.bl ∧ ∃ d0 d1 d2 d3 d4 d5, d = .agg [d0, d1, d2, d3, d4, d5] ∧ ((d3 = .nil ∧ a.bl = []) ∨ ∃ e s, d3 = .slice e s ∧ e.length = a.bl.length)
theorem weights_mem_all {H : Type} {P : Program} {e : TypeId} {l : List (DataW H)} {k : Nat} (hk : k < l.length) {n : Nat} (h : n ∈ l[k].weights P e) : n ∈ DataW.weightsAll P e l := by
  induction l generalizing k with
  | nil => simp at hk
  | cons d r ih =>
    rw [DataW.weightsAll, List.mem_append]
    match k, hk with
    | 0, _ => left; simpa using h
    | k + 1, hk => right; exact ih (by simpa using hk) (by simpa using h)
end Go.Proofs.Ythalhidebkhclaa
