/- What came in at the laws of a slave, opened: acts, addresses, a frame. -/
import Derived.Test.YthbmbabndhpdkaaGnX
import Derived.Test.YthbmbabndhpdkaaLsI
namespace Go.Proofs.Ythbmbabndhpdkaa
open Go.ChangeShapes Go.WideShapes Go.ChangeAt Go.RowKit
set_option linter.unusedVariables false
set_option maxRecDepth 1000000
set_option linter.unusedSimpArgs false
theorem okWide_arr {w : World} {base : Nat} {t e : TypeId} {n : Nat} {v : Value} (ht : Try.prog.underlying t = some (.array n e)) (h : Value.okWide Try.prog w .any base t v) : ∃ cs, v = .agg cs ∧ cs.size = Try.prog.cellsOf t := by
  simp only [Value.okWide, ht] at h
  obtain ⟨cs, h1, h2, _⟩ := h
  exact ⟨cs, h1, h2⟩
theorem cells1u8L : Try.prog.cellsOf 5 = 1 := by kernel_rfl
theorem cells1u32L : Try.prog.cellsOf 22 = 1 := by kernel_rfl
theorem cells1intL : Try.prog.cellsOf 3 = 1 := by kernel_rfl
theorem cells1boolL : Try.prog.cellsOf 4 = 1 := by kernel_rfl
theorem cellsF8L : Try.prog.cellsOf 34 = 8 := by kernel_rfl
theorem cellsA4L : Try.prog.cellsOf 23 = 4 := by kernel_rfl
theorem cellsA19 : Try.prog.cellsOf 36 = 10 := by kernel_rfl
theorem list8L {l : List Value} (h : l.length = 8) : ∃ c0 c1 c2 c3 c4 c5 c6 c7, l = [c0, c1, c2, c3, c4, c5, c6, c7] := by
  match l, h with
  | [a, b, c, d, e, f, g, i], _ => exact ⟨a, b, c, d, e, f, g, i, rfl⟩
theorem list4L {l : List Value} (h : l.length = 4) : ∃ c0 c1 c2 c3, l = [c0, c1, c2, c3] := by
  match l, h with
  | [a, b, c, d], _ => exact ⟨a, b, c, d, rfl⟩
theorem list10L {l : List Value} (h : l.length = 10) : ∃ c0 c1 c2 c3 c4 c5 c6 c7 c8 c9, l = [c0, c1, c2, c3, c4, c5, c6, c7, c8, c9] := by
  match l, h with
  | [a, b, c, d, e, f, g, i, j, k], _ => exact ⟨a, b, c, d, e, f, g, i, j, k, rfl⟩
theorem trod_u8L {H : Type} {enc : TypeId × Value → H} {W : World} {n : Nat} {c : Value} {y : DataW H × List MemPlace} (h : DataW.trod enc Try.prog W 0 (fun _ => true) true n 5 [c] = some y) : ∃ b : UInt8, c = .int .u8 (b.toNat : Int) := by
  obtain ⟨z, e, _, hw⟩ := DataW.trod_int Try.underlying5 h
  simp at e
  subst e
  exact ⟨z.toNat.toUInt8, by rw [u8_of_int hw]⟩
theorem trod_u32L {H : Type} {enc : TypeId × Value → H} {W : World} {n : Nat} {c : Value} {y : DataW H × List MemPlace} (h : DataW.trod enc Try.prog W 0 (fun _ => true) true n 22 [c] = some y) : ∃ b : Nat, b < 4294967296 ∧ c = .int .u32 (b : Int) := by
  obtain ⟨z, e, _, hw⟩ := DataW.trod_int Try.underlying22 h
  simp at e
  subst e
  have := wf_u32_of hw
  exact ⟨z.toNat, by omega, by congr 1; omega⟩
theorem one_f8L {H : Type} {enc : TypeId × Value → H} {W : World} (n : Nat) (cs : List Value) (hc : cs.length = 8) (y : DataW H × List MemPlace) (h : DataW.trod enc Try.prog W 0 (fun _ => true) true n 34 cs = some y) : ∃ f : F8, cs = f.c := by
  obtain ⟨c0, c1, c2, c3, c4, c5, c6, c7, rfl⟩ := list8L hc
  obtain ⟨ys, m', _, _, _, hl8, hfi⟩ := DataW.trod_array Try.underlying34 h
  match ys, hl8 with
  | [z0, z1, z2, z3, z4, z5, z6, z7], _ =>
    have a0 := hfi 0 (by decide)
    have a1 := hfi 1 (by decide)
    have a2 := hfi 2 (by decide)
    have a3 := hfi 3 (by decide)
    have a4 := hfi 4 (by decide)
    have a5 := hfi 5 (by decide)
    have a6 := hfi 6 (by decide)
    have a7 := hfi 7 (by decide)
    simp [cells1u8L] at a0 a1 a2 a3 a4 a5 a6 a7
    obtain ⟨b0, rfl⟩ := trod_u8L a0
    obtain ⟨b1, rfl⟩ := trod_u8L a1
    obtain ⟨b2, rfl⟩ := trod_u8L a2
    obtain ⟨b3, rfl⟩ := trod_u8L a3
    obtain ⟨b4, rfl⟩ := trod_u8L a4
    obtain ⟨b5, rfl⟩ := trod_u8L a5
    obtain ⟨b6, rfl⟩ := trod_u8L a6
    obtain ⟨b7, rfl⟩ := trod_u8L a7
    exact ⟨⟨b0, b1, b2, b3, b4, b5, b6, b7⟩, rfl⟩
/-- An address whose numbers are in range. -/
structure A4k where
  a : A4
  ok : a.ok
def A4k.c (a : A4k) : List Value := [.int .u32 (a.a.x0 : Int), .int .u32 (a.a.x1 : Int), .int .u32 (a.a.x2 : Int), .int .u32 (a.a.x3 : Int)]
theorem one_a4L {H : Type} {enc : TypeId × Value → H} {W : World} (n : Nat) (cs : List Value) (y : DataW H × List MemPlace) (h : DataW.trod enc Try.prog W 0 (fun _ => true) true n 23 cs = some y) : ∃ f : A4k, cs = f.c := by
  obtain ⟨ys, m', _, _, hc, hl4, hfi⟩ := DataW.trod_array Try.underlying23 h
  rw [cellsA4L] at hc
  obtain ⟨c0, c1, c2, c3, rfl⟩ := list4L hc
  match ys, hl4 with
  | [z0, z1, z2, z3], _ =>
    have a0 := hfi 0 (by decide)
    have a1 := hfi 1 (by decide)
    have a2 := hfi 2 (by decide)
    have a3 := hfi 3 (by decide)
    simp [cells1u32L] at a0 a1 a2 a3
    obtain ⟨b0, k0, rfl⟩ := trod_u32L a0
    obtain ⟨b1, k1, rfl⟩ := trod_u32L a1
    obtain ⟨b2, k2, rfl⟩ := trod_u32L a2
    obtain ⟨b3, k3, rfl⟩ := trod_u32L a3
    exact ⟨⟨⟨b0, b1, b2, b3⟩, ⟨k0, k1, k2, k3⟩⟩, rfl⟩
theorem open_A4 {H : Type} {enc : TypeId × Value → H} {W : World} {base : Nat} {v : Value} {d : DataW H} {ps : List MemPlace}
    (hval : Value.okWide Try.prog W .any base 23 v) (h : DataW.Trod enc Try.prog W 0 (fun _ => true) true 23 v d ps) : ∃ a : A4k, v = .agg a.a.arr := by
  obtain ⟨cs, rfl, hsz⟩ := okWide_arr Try.underlying23 hval
  obtain ⟨fuel, hf⟩ := h
  obtain ⟨a, ha⟩ := one_a4L _ _ _ hf
  refine ⟨a, ?_⟩
  simp only [Value.cells] at ha
  show Value.agg cs = Value.agg a.c.toArray
  rw [← ha]
theorem open_F8 {H : Type} {enc : TypeId × Value → H} {W : World} {base : Nat} {v : Value} {d : DataW H} {ps : List MemPlace}
    (hval : Value.okWide Try.prog W .any base 34 v) (h : DataW.Trod enc Try.prog W 0 (fun _ => true) true 34 v d ps) : ∃ a : F8, v = .agg a.arr := by
  obtain ⟨cs, rfl, hsz⟩ := okWide_arr Try.underlying34 hval
  obtain ⟨fuel, hf⟩ := h
  obtain ⟨a, ha⟩ := one_f8L _ _ (by rw [cellsF8L] at hsz; simpa [Value.cells] using hsz) _ hf
  refine ⟨a, ?_⟩
  simp only [Value.cells] at ha
  show Value.agg cs = Value.agg a.c.toArray
  rw [← ha]
theorem open_A4s {H : Type} {enc : TypeId × Value → H} {W : World} {base : Nat} {v : Value} {d : DataW H} {ps : List MemPlace}
    (hval : Value.okWide Try.prog W .any base 40 v) (h : DataW.Trod enc Try.prog W 0 (fun _ => true) true 40 v d ps) (hlt : ∀ x ∈ ps, x.block < W.heap.size) :
    ∃ l, Wide 4 A4k.c W v l ∧ ((d = .nil ∧ l = []) ∨ ∃ e s, d = .slice e s ∧ e.length = l.length) :=
  open_wide Try.underlying40 cellsA4L (by decide) one_a4L hval h hlt
theorem by_A4 : 1 ≤ Try.prog.bytesOf 23 := of_decide_eq_true (by kernel_rfl)
theorem size_A4s {H : Type} {ts : List TypeId} {ds : List (DataW H)} {j : Nat} {d : DataW H} {l : List A4k} (h : (DataW.weightsEach Try.prog ts ds).all (· ≤ reachBytes) = true) (ht : ts[j]? = some 40) (hd : ds[j]? = some d) (e : (d = .nil ∧ l = []) ∨ ∃ e s, d = .slice e s ∧ e.length = l.length) : l.length ≤ 140737488351232 := by
  have := size_wide h ht hd Try.underlying40 rfl e
  have h1 := Nat.mul_le_mul_left l.length by_A4
  omega
/-- An act. -/
structure A19 where
  kind : Int
  q : F8
  fails : Bool
  h_kind : -9223372036854775808 ≤ kind ∧ kind < 9223372036854775808
def A19.c (a : A19) : List Value := [.int .i64 a.kind, .int .u8 (a.q.b0.toNat : Int), .int .u8 (a.q.b1.toNat : Int), .int .u8 (a.q.b2.toNat : Int), .int .u8 (a.q.b3.toNat : Int), .int .u8 (a.q.b4.toNat : Int), .int .u8 (a.q.b5.toNat : Int), .int .u8 (a.q.b6.toNat : Int), .int .u8 (a.q.b7.toNat : Int), .bool a.fails]
def A19.arr (a : A19) : Array Value := a.c.toArray
theorem one_A19 {H : Type} {enc : TypeId × Value → H} {W : World} (n : Nat) (cs : List Value) (y : DataW H × List MemPlace) (h : DataW.trod enc Try.prog W 0 (fun _ => true) true n 36 cs = some y) : ∃ a : A19, cs = a.c := by
  obtain ⟨xs, m, _, _, hn, hl, hfs⟩ := DataW.trod_struct Try.underlying36 h
  rw [cellsA19] at hn
  obtain ⟨c0, c1, c2, c3, c4, c5, c6, c7, c8, c9, rfl⟩ := list10L hn
  have g0 := hfs 0 _ rfl
  have g1 := hfs 1 _ rfl
  have g2 := hfs 2 _ rfl
  simp [cells1intL, cellsF8L, cells1boolL] at g0 g1 g2
  match xs, hl with
  | [y0, y1, y2], _ =>
    simp at g0 g1 g2
    obtain ⟨i0, e0, _, w0⟩ := DataW.trod_int Try.underlying3 g0
    obtain ⟨f, hf⟩ := one_f8L _ _ rfl _ g1
    obtain ⟨b, e2, _⟩ := DataW.trod_bool Try.underlying4 g2
    simp [F8.c] at e0 e2 hf
    obtain ⟨rfl, rfl, rfl, rfl, rfl, rfl, rfl, rfl⟩ := hf
    subst e0 e2
    exact ⟨⟨i0, f, b, wf_i64_of w0⟩, rfl⟩
theorem open_A19s {H : Type} {enc : TypeId × Value → H} {W : World} {base : Nat} {v : Value} {d : DataW H} {ps : List MemPlace}
    (hval : Value.okWide Try.prog W .any base 24 v) (h : DataW.Trod enc Try.prog W 0 (fun _ => true) true 24 v d ps) (hlt : ∀ x ∈ ps, x.block < W.heap.size) :
    ∃ l, Wide 10 A19.c W v l ∧ ((d = .nil ∧ l = []) ∨ ∃ e s, d = .slice e s ∧ e.length = l.length) :=
  open_wide Try.underlying24 cellsA19 (by decide) one_A19 hval h hlt
theorem by_A19 : 1 ≤ Try.prog.bytesOf 36 := of_decide_eq_true (by kernel_rfl)
theorem size_A19s {H : Type} {ts : List TypeId} {ds : List (DataW H)} {j : Nat} {d : DataW H} {l : List A19} (h : (DataW.weightsEach Try.prog ts ds).all (· ≤ reachBytes) = true) (ht : ts[j]? = some 24) (hd : ds[j]? = some d) (e : (d = .nil ∧ l = []) ∨ ∃ e s, d = .slice e s ∧ e.length = l.length) : l.length ≤ 140737488351232 := by
  have := size_wide h ht hd Try.underlying24 rfl e
  have h1 := Nat.mul_le_mul_left l.length by_A19
  omega
theorem A19.cells {w : World} {b o : Nat} {a : A19} (h : w.rangeAt b o a.c) : w.cell? ⟨b, o, none⟩ = some (.int .i64 a.kind) ∧ w.cell? ⟨b, o + 9, none⟩ = some (.bool a.fails) ∧ w.rangeAt b (o + 1) a.q.c := by
  refine ⟨h 0 _ rfl, h 9 _ rfl, fun j v hj => ?_⟩
  have hjl : j < 8 := (List.getElem?_eq_some_iff.1 hj).1
  have := h (1 + j) v (by
    obtain rfl | rfl | rfl | rfl | rfl | rfl | rfl | rfl : j = 0 ∨ j = 1 ∨ j = 2 ∨ j = 3 ∨ j = 4 ∨ j = 5 ∨ j = 6 ∨ j = 7 := by omega
    all_goals exact hj)
  rw [← Nat.add_assoc] at this
  exact this
theorem info_A19 : (Try.prog.info? 36).map (·.size) = some 10 := by kernel_rfl
theorem info_A4 : (Try.prog.info? 23).map (·.size) = some 4 := by kernel_rfl
theorem A19.load {w : World} {b o : Nat} {a : A19} (h : w.rangeAt b o a.c) : (loadVar 36 ⟨b, o, none⟩).run Try.prog w = .ok (.agg a.arr) w := run_loadVar_mid w b o 36 a.c _ h Try.underlying36 rfl info_A19
theorem A4k.load {w : World} {b o : Nat} {a : A4k} (h : w.rangeAt b o a.c) : (loadVar 23 ⟨b, o, none⟩).run Try.prog w = .ok (.agg a.a.arr) w := run_loadVar_mid w b o 23 a.c _ h Try.underlying23 rfl info_A4
theorem F8.mid {w : World} {b o : Nat} {f : F8} (h : w.rangeAt b o f.c) : (loadVar 34 ⟨b, o, none⟩).run Try.prog w = .ok (.agg f.arr) w := run_loadVar_mid w b o 34 f.c _ h Try.underlying34 rfl infoA8s
end Go.Proofs.Ythbmbabndhpdkaa
