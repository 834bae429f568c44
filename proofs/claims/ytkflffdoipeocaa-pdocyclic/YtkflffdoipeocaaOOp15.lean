/- What came in at the laws of process data, opened. -/
import Derived.Test.YtkflffdoipeocaaGnX
namespace Go.Proofs.Ytkflffdoipeocaa
open Go.ChangeShapes Go.WideShapes Go.ChangeAt Go.RowKit
set_option linter.unusedVariables false
set_option maxRecDepth 1000000

structure A15 where
  kind : Int
  on : Bool
  n : Nat
  h_kind : -9223372036854775808 ≤ kind ∧ kind < 9223372036854775808
  h_n : n < 256
def A15.c (a : A15) : List Value := [.int .i64 a.kind, .bool a.on, .int .u8 a.n]
def A15.arr (a : A15) : Array Value := #[.int .i64 a.kind, .bool a.on, .int .u8 a.n]
theorem cells_A15 : Try.prog.cellsOf 36 = 3 := by kernel_rfl
theorem c1_A15_0 : Try.prog.cellsOf 4 = 1 := by kernel_rfl
theorem c1_A15_1 : Try.prog.cellsOf 3 = 1 := by kernel_rfl
theorem c1_A15_2 : Try.prog.cellsOf 5 = 1 := by kernel_rfl
theorem list_A15 {l : List Value} (h : l.length = 3) : ∃ c0 c1 c2, l = [c0, c1, c2] := by
  match l, h with
  | [c0, c1, c2], _ => exact ⟨c0, c1, c2, rfl⟩
theorem one_A15 {H : Type} {enc : TypeId × Value → H} {W : World} (n : Nat) (cs : List Value) (y : DataW H × List MemPlace) (h : DataW.trod enc Try.prog W 0 (fun _ => true) true n 36 cs = some y) : ∃ a : A15, cs = a.c := by
  obtain ⟨xs, m, _, _, hn, hl, hfs⟩ := DataW.trod_struct Try.underlying36 h
  rw [cells_A15] at hn
  obtain ⟨c0, c1, c2, rfl⟩ := list_A15 hn
  have g0 := hfs 0 _ rfl
  have g1 := hfs 1 _ rfl
  have g2 := hfs 2 _ rfl
  simp [c1_A15_0, c1_A15_1, c1_A15_2] at g0 g1 g2
  match xs, hl with
  | [y0, y1, y2], _ =>
    simp at g0 g1 g2
    obtain ⟨z0, e0, _, w0⟩ := DataW.trod_int Try.underlying3 g0
    obtain ⟨z1, e1, _⟩ := DataW.trod_bool Try.underlying4 g1
    obtain ⟨z2, e2, _, w2⟩ := DataW.trod_int Try.underlying5 g2
    simp at e0 e1 e2
    subst e0 e1 e2
    have b2 := wf_u8_of w2
    have f2 : ((z2.toNat : Nat) : Int) = z2 := by omega
    refine ⟨⟨z0, z1, z2.toNat, wf_i64_of w0, by omega⟩, ?_⟩
    simp [A15.c, f2]
theorem open_A15 {H : Type} {enc : TypeId × Value → H} {W : World} {base : Nat} {v : Value} {d : DataW H} {ps : List MemPlace}
    (hval : Value.okWide Try.prog W .any base 36 v) (h : DataW.Trod enc Try.prog W 0 (fun _ => true) true 36 v d ps) : ∃ a : A15, v = .agg a.arr := by
  obtain ⟨cs, rfl, hsz⟩ := okWide_struct Try.underlying36 hval
  obtain ⟨fuel, hf⟩ := h
  obtain ⟨a, ha⟩ := one_A15 _ _ _ hf
  refine ⟨a, ?_⟩
  simp only [Value.cells] at ha
  show Value.agg cs = Value.agg a.c.toArray
  rw [← ha]
theorem open_A15s {H : Type} {enc : TypeId × Value → H} {W : World} {base : Nat} {v : Value} {d : DataW H} {ps : List MemPlace}
    (hval : Value.okWide Try.prog W .any base 25 v) (h : DataW.Trod enc Try.prog W 0 (fun _ => true) true 25 v d ps) (hlt : ∀ x ∈ ps, x.block < W.heap.size) :
    ∃ l, Wide 3 A15.c W v l ∧ ((d = .nil ∧ l = []) ∨ ∃ e s, d = .slice e s ∧ e.length = l.length) :=
  open_wide Try.underlying25 cells_A15 (by decide) one_A15 hval h hlt
theorem by_A15 : 1 ≤ Try.prog.bytesOf 36 := of_decide_eq_true (by kernel_rfl)
theorem size_A15s {H : Type} {ts : List TypeId} {ds : List (DataW H)} {j : Nat} {d : DataW H} {l : List A15} (h : (DataW.weightsEach Try.prog ts ds).all (· ≤ reachBytes) = true) (ht : ts[j]? = some 25) (hd : ds[j]? = some d) (e : (d = .nil ∧ l = []) ∨ ∃ e s, d = .slice e s ∧ e.length = l.length) : l.length ≤ 140737488351232 := by
  have := size_wide h ht hd Try.underlying25 rfl e
  have h1 := Nat.mul_le_mul_left l.length by_A15
  omega
theorem A15.cells {w : World} {b o : Nat} {a : A15} (h : w.rangeAt b o a.c) : w.cell? ⟨b, o, none⟩ = some (.int .i64 a.kind) ∧ w.cell? ⟨b, o + 1, none⟩ = some (.bool a.on) ∧ w.cell? ⟨b, o + 2, none⟩ = some (.int .u8 a.n) :=
  ⟨h 0 _ rfl, h 1 _ rfl, h 2 _ rfl⟩
theorem info_A15 : (Try.prog.info? 36).map (·.size) = some 3 := by kernel_rfl
theorem A15.ld {w : World} {b o : Nat} {a : A15} {ops : Array Oper} {rest : List Oper} {p : Oper} {f : Act} {Q : Exit → Act → World → Prop} (h : w.rangeAt b o a.c) (hgd : p.guard = none) (x : Operand) (ho : p.op = .load 36 x) (hx : f.eval x = .pointer (some ⟨b, o, none⟩))
    (hh : wpList Try.prog ops Q rest (f.put p.dst (.agg a.arr)) w) : wpList Try.prog ops Q (p :: rest) f w :=
  wpList_load_mid hgd 36 x ho b o hx a.c _ h Try.underlying36 rfl info_A15 hh
structure F15 where
  typ : Int
  inh : Nat
  each : Nat
  h_typ : -9223372036854775808 ≤ typ ∧ typ < 9223372036854775808
  h_inh : inh < 18446744073709551616
  h_each : each < 18446744073709551616
def F15.c (a : F15) : List Value := [.int .i64 a.typ, .int .u64 a.inh, .int .u64 a.each]
def F15.arr (a : F15) : Array Value := #[.int .i64 a.typ, .int .u64 a.inh, .int .u64 a.each]
theorem cells_F15 : Try.prog.cellsOf 24 = 3 := by kernel_rfl
theorem c1_F15_0 : Try.prog.cellsOf 3 = 1 := by kernel_rfl
theorem c1_F15_1 : Try.prog.cellsOf 22 = 1 := by kernel_rfl
theorem list_F15 {l : List Value} (h : l.length = 3) : ∃ c0 c1 c2, l = [c0, c1, c2] := by
  match l, h with
  | [c0, c1, c2], _ => exact ⟨c0, c1, c2, rfl⟩
theorem one_F15 {H : Type} {enc : TypeId × Value → H} {W : World} (n : Nat) (cs : List Value) (y : DataW H × List MemPlace) (h : DataW.trod enc Try.prog W 0 (fun _ => true) true n 24 cs = some y) : ∃ a : F15, cs = a.c := by
  obtain ⟨xs, m, _, _, hn, hl, hfs⟩ := DataW.trod_struct Try.underlying24 h
  rw [cells_F15] at hn
  obtain ⟨c0, c1, c2, rfl⟩ := list_F15 hn
  have g0 := hfs 0 _ rfl
  have g1 := hfs 1 _ rfl
  have g2 := hfs 2 _ rfl
  simp [c1_F15_0, c1_F15_1] at g0 g1 g2
  match xs, hl with
  | [y0, y1, y2], _ =>
    simp at g0 g1 g2
    obtain ⟨z0, e0, _, w0⟩ := DataW.trod_int Try.underlying3 g0
    obtain ⟨z1, e1, _, w1⟩ := DataW.trod_int Try.underlying22 g1
    obtain ⟨z2, e2, _, w2⟩ := DataW.trod_int Try.underlying22 g2
    simp at e0 e1 e2
    subst e0 e1 e2
    have b1 := wf_u64_of w1
    have f1 : ((z1.toNat : Nat) : Int) = z1 := by omega
    have b2 := wf_u64_of w2
    have f2 : ((z2.toNat : Nat) : Int) = z2 := by omega
    refine ⟨⟨z0, z1.toNat, z2.toNat, wf_i64_of w0, by omega, by omega⟩, ?_⟩
    simp [F15.c, f1, f2]
theorem open_F15 {H : Type} {enc : TypeId × Value → H} {W : World} {base : Nat} {v : Value} {d : DataW H} {ps : List MemPlace}
    (hval : Value.okWide Try.prog W .any base 24 v) (h : DataW.Trod enc Try.prog W 0 (fun _ => true) true 24 v d ps) : ∃ a : F15, v = .agg a.arr := by
  obtain ⟨cs, rfl, hsz⟩ := okWide_struct Try.underlying24 hval
  obtain ⟨fuel, hf⟩ := h
  obtain ⟨a, ha⟩ := one_F15 _ _ _ hf
  refine ⟨a, ?_⟩
  simp only [Value.cells] at ha
  show Value.agg cs = Value.agg a.c.toArray
  rw [← ha]
structure C15 where
  kind : Int
  on : Bool
  b : Value
  bL : List UInt8
def C15.c (a : C15) : List Value := [.int .i64 a.kind, .bool a.on, a.b]
def C15.arr (a : C15) : Array Value := #[.int .i64 a.kind, .bool a.on, a.b]
def C15.ok (W : World) (a : C15) : Prop := (-9223372036854775808 ≤ a.kind ∧ a.kind < 9223372036854775808) ∧ (Bytes W a.b a.bL ∧ a.bL.length ≤ 140737488351232)
def C15.gk {H : Type} (W : World) (d : DataW H) (a : C15) : Prop := ∃ d0 d1 d2, d = .agg [d0, d1, d2] ∧ (-9223372036854775808 ≤ a.kind ∧ a.kind < 9223372036854775808) ∧ GB W d2 a.b a.bL
theorem cells_C15 : Try.prog.cellsOf 48 = 3 := by kernel_rfl
theorem c1_C15_0 : Try.prog.cellsOf 4 = 1 := by kernel_rfl
theorem c1_C15_1 : Try.prog.cellsOf 46 = 1 := by kernel_rfl
theorem c1_C15_2 : Try.prog.cellsOf 3 = 1 := by kernel_rfl
theorem list_C15 {l : List Value} (h : l.length = 3) : ∃ c0 c1 c2, l = [c0, c1, c2] := by
  match l, h with
  | [c0, c1, c2], _ => exact ⟨c0, c1, c2, rfl⟩
theorem one_C15 {H : Type} {enc : TypeId × Value → H} {W : World} (n : Nat) (cs : List Value) (y : DataW H × List MemPlace) (h : DataW.trod enc Try.prog W 0 (fun _ => true) true n 48 cs = some y) (hlt : ∀ x ∈ y.2, x.block < W.heap.size) : ∃ a : C15, cs = a.c ∧ a.gk W y.1 := by
  obtain ⟨xs, m, _, hd, hn, hl, hfs⟩ := DataW.trod_struct Try.underlying48 h
  rw [cells_C15] at hn
  obtain ⟨c0, c1, c2, rfl⟩ := list_C15 hn
  have g0 := hfs 0 _ rfl
  have g1 := hfs 1 _ rfl
  have g2 := hfs 2 _ rfl
  simp [c1_C15_0, c1_C15_1, c1_C15_2] at g0 g1 g2
  match xs, hl with
  | [y0, y1, y2], _ =>
    simp at g0 g1 g2
    obtain ⟨z0, e0, _, w0⟩ := DataW.trod_int Try.underlying3 g0
    obtain ⟨z1, e1, _⟩ := DataW.trod_bool Try.underlying4 g1
    obtain ⟨l2, hB2, hl2⟩ := one_bytesN _ _ _ g2 (fun x hx => hlt x (by rw [hd]; simp [hx]))
    simp at e0 e1
    subst e0 e1
    refine ⟨⟨z0, z1, c2, l2⟩, by simp [C15.c], y0.1, y1.1, y2.1, by rw [hd]; simp, wf_i64_of w0, ⟨hB2, hl2⟩⟩
theorem open_C15s {H : Type} {enc : TypeId × Value → H} {W : World} {base : Nat} {v : Value} {d : DataW H} {ps : List MemPlace}
    (hval : Value.okWide Try.prog W .any base 42 v) (h : DataW.Trod enc Try.prog W 0 (fun _ => true) true 42 v d ps) (hlt : ∀ x ∈ ps, x.block < W.heap.size) :
    ∃ l : List C15, Wide 3 C15.c W v l ∧ ((d = .nil ∧ l = []) ∨ ∃ e s, d = .slice e s ∧ e.length = l.length ∧ ∀ k (h : k < l.length) (h2 : k < e.length), l[k].gk W e[k]) :=
  open_gen Try.underlying42 cells_C15 (by decide) one_C15 hval h hlt
theorem by_C15 : 1 ≤ Try.prog.bytesOf 48 := of_decide_eq_true (by kernel_rfl)
theorem size_C15s {H : Type} {W : World} {ts : List TypeId} {ds : List (DataW H)} {j : Nat} {d : DataW H} {l : List C15} (h : (DataW.weightsEach Try.prog ts ds).all (· ≤ reachBytes) = true) (ht : ts[j]? = some 42) (hd : ds[j]? = some d) (e : (d = .nil ∧ l = []) ∨ ∃ e s, d = .slice e s ∧ e.length = l.length ∧ ∀ k (h : k < l.length) (h2 : k < e.length), l[k].gk W e[k]) :
    l.length ≤ 140737488351232 ∧ ∀ a ∈ l, a.ok W := by
  have hr : reachBytes = 140737488351232 := by decide
  rcases e with ⟨_, rfl⟩ | ⟨e, s, rfl, h1, h2⟩
  · exact ⟨by simp, fun a ha => by simp at ha⟩
  · refine ⟨?_, fun a ha => ?_⟩
    · have hs := sized_slice h ht hd Try.underlying42
      have h3 := Nat.mul_le_mul_left (e.length + s.length) by_C15
      omega
    · obtain ⟨k, hk, rfl⟩ := List.getElem_of_mem ha
      obtain ⟨_, _, _, hg, r0, r2⟩ := h2 k hk (by omega)
      exact ⟨r0, ⟨r2.1, by
        rcases r2.weight with h0 | ⟨n, hn, hm⟩
        · rw [h0]; simp
        · have hm1 : n ∈ DataW.weights Try.prog 48 e[k] := by
            rw [hg]
            simp only [DataW.weights, Try.underlying48]
            exact DataW.weights_mem_each (j := 2) rfl rfl _ hm
          have hm2 : n ∈ DataW.weights Try.prog 42 (.slice e s) := by
            simp only [DataW.weights, Try.underlying42]
            exact List.mem_cons_of_mem _ (List.mem_append_left _ (weights_memN (by omega) hm1))
          have := List.all_eq_true.1 h _ (DataW.weights_mem_each ht hd _ hm2)
          simp at this
          omega⟩⟩
theorem C15.cells {w : World} {b o : Nat} {a : C15} (h : w.rangeAt b o a.c) : w.cell? ⟨b, o, none⟩ = some (.int .i64 a.kind) ∧ w.cell? ⟨b, o + 1, none⟩ = some (.bool a.on) ∧ w.cell? ⟨b, o + 2, none⟩ = some (a.b) :=
  ⟨h 0 _ rfl, h 1 _ rfl, h 2 _ rfl⟩
theorem info_C15 : (Try.prog.info? 48).map (·.size) = some 3 := by kernel_rfl
theorem C15.ld {w : World} {b o : Nat} {a : C15} {ops : Array Oper} {rest : List Oper} {p : Oper} {f : Act} {Q : Exit → Act → World → Prop} (h : w.rangeAt b o a.c) (hgd : p.guard = none) (x : Operand) (ho : p.op = .load 48 x) (hx : f.eval x = .pointer (some ⟨b, o, none⟩))
    (hh : wpList Try.prog ops Q rest (f.put p.dst (.agg a.arr)) w) : wpList Try.prog ops Q (p :: rest) f w :=
  wpList_load_mid hgd 48 x ho b o hx a.c _ h Try.underlying48 rfl info_C15 hh
end Go.Proofs.Ytkflffdoipeocaa
