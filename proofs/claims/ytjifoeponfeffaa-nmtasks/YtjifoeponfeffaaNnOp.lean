/- What came in at the laws of the nodes' states, opened. -/
import Derived.Test.YtjifoeponfeffaaGnX
namespace Go.Proofs.Ytjifoeponfeffaa
open Go.ChangeShapes Go.WideShapes Go.ChangeAt Go.RowKit
set_option linter.unusedVariables false
set_option maxRecDepth 1000000

structure Q17 where
  st : Int
  wh : Int
  cmd : Int
  node : Int
  h_st : -9223372036854775808 ≤ st ∧ st < 9223372036854775808
  h_wh : -9223372036854775808 ≤ wh ∧ wh < 9223372036854775808
  h_cmd : -9223372036854775808 ≤ cmd ∧ cmd < 9223372036854775808
  h_node : -9223372036854775808 ≤ node ∧ node < 9223372036854775808
def Q17.c (a : Q17) : List Value := [.int .i64 a.st, .int .i64 a.wh, .int .i64 a.cmd, .int .i64 a.node]
def Q17.arr (a : Q17) : Array Value := #[.int .i64 a.st, .int .i64 a.wh, .int .i64 a.cmd, .int .i64 a.node]
theorem cells_Q17 : Try.prog.cellsOf 43 = 4 := by kernel_rfl
theorem c1_Q17_0 : Try.prog.cellsOf 3 = 1 := by kernel_rfl
theorem list_Q17 {l : List Value} (h : l.length = 4) : ∃ c0 c1 c2 c3, l = [c0, c1, c2, c3] := by
  match l, h with
  | [c0, c1, c2, c3], _ => exact ⟨c0, c1, c2, c3, rfl⟩
theorem one_Q17 {H : Type} {enc : TypeId × Value → H} {W : World} (n : Nat) (cs : List Value) (y : DataW H × List MemPlace) (h : DataW.trod enc Try.prog W 0 (fun _ => true) true n 43 cs = some y) : ∃ a : Q17, cs = a.c := by
  obtain ⟨xs, m, _, _, hn, hl, hfs⟩ := DataW.trod_struct Try.underlying43 h
  rw [cells_Q17] at hn
  obtain ⟨c0, c1, c2, c3, rfl⟩ := list_Q17 hn
  have g0 := hfs 0 _ rfl
  have g1 := hfs 1 _ rfl
  have g2 := hfs 2 _ rfl
  have g3 := hfs 3 _ rfl
  simp [c1_Q17_0] at g0 g1 g2 g3
  match xs, hl with
  | [y0, y1, y2, y3], _ =>
    simp at g0 g1 g2 g3
    obtain ⟨z0, e0, _, w0⟩ := DataW.trod_int Try.underlying3 g0
    obtain ⟨z1, e1, _, w1⟩ := DataW.trod_int Try.underlying3 g1
    obtain ⟨z2, e2, _, w2⟩ := DataW.trod_int Try.underlying3 g2
    obtain ⟨z3, e3, _, w3⟩ := DataW.trod_int Try.underlying3 g3
    simp at e0 e1 e2 e3
    subst e0 e1 e2 e3
    refine ⟨⟨z0, z1, z2, z3, wf_i64_of w0, wf_i64_of w1, wf_i64_of w2, wf_i64_of w3⟩, ?_⟩
    simp [Q17.c]
theorem open_Q17 {H : Type} {enc : TypeId × Value → H} {W : World} {base : Nat} {v : Value} {d : DataW H} {ps : List MemPlace}
    (hval : Value.okWide Try.prog W .any base 43 v) (h : DataW.Trod enc Try.prog W 0 (fun _ => true) true 43 v d ps) : ∃ a : Q17, v = .agg a.arr := by
  obtain ⟨cs, rfl, hsz⟩ := okWide_struct Try.underlying43 hval
  obtain ⟨fuel, hf⟩ := h
  obtain ⟨a, ha⟩ := one_Q17 _ _ _ hf
  refine ⟨a, ?_⟩
  simp only [Value.cells] at ha
  show Value.agg cs = Value.agg a.c.toArray
  rw [← ha]
structure A17 where
  kind : Int
  n : Int
  b : Value
  bL : List UInt8
def A17.c (a : A17) : List Value := [.int .i64 a.kind, .int .i64 a.n, a.b]
def A17.arr (a : A17) : Array Value := #[.int .i64 a.kind, .int .i64 a.n, a.b]
def A17.ok (W : World) (a : A17) : Prop := (-9223372036854775808 ≤ a.kind ∧ a.kind < 9223372036854775808) ∧ (-9223372036854775808 ≤ a.n ∧ a.n < 9223372036854775808) ∧ (Bytes W a.b a.bL ∧ a.bL.length ≤ 140737488351232)
def A17.gk {H : Type} (W : World) (d : DataW H) (a : A17) : Prop := ∃ d0 d1 d2, d = .agg [d0, d1, d2] ∧ (-9223372036854775808 ≤ a.kind ∧ a.kind < 9223372036854775808) ∧ (-9223372036854775808 ≤ a.n ∧ a.n < 9223372036854775808) ∧ GB W d2 a.b a.bL
theorem cells_A17 : Try.prog.cellsOf 33 = 3 := by kernel_rfl
theorem c1_A17_0 : Try.prog.cellsOf 31 = 1 := by kernel_rfl
theorem c1_A17_1 : Try.prog.cellsOf 3 = 1 := by kernel_rfl
theorem list_A17 {l : List Value} (h : l.length = 3) : ∃ c0 c1 c2, l = [c0, c1, c2] := by
  match l, h with
  | [c0, c1, c2], _ => exact ⟨c0, c1, c2, rfl⟩
theorem one_A17 {H : Type} {enc : TypeId × Value → H} {W : World} (n : Nat) (cs : List Value) (y : DataW H × List MemPlace) (h : DataW.trod enc Try.prog W 0 (fun _ => true) true n 33 cs = some y) (hlt : ∀ x ∈ y.2, x.block < W.heap.size) : ∃ a : A17, cs = a.c ∧ a.gk W y.1 := by
  obtain ⟨xs, m, _, hd, hn, hl, hfs⟩ := DataW.trod_struct Try.underlying33 h
  rw [cells_A17] at hn
  obtain ⟨c0, c1, c2, rfl⟩ := list_A17 hn
  have g0 := hfs 0 _ rfl
  have g1 := hfs 1 _ rfl
  have g2 := hfs 2 _ rfl
  simp [c1_A17_0, c1_A17_1] at g0 g1 g2
  match xs, hl with
  | [y0, y1, y2], _ =>
    simp at g0 g1 g2
    obtain ⟨z0, e0, _, w0⟩ := DataW.trod_int Try.underlying3 g0
    obtain ⟨z1, e1, _, w1⟩ := DataW.trod_int Try.underlying3 g1
    obtain ⟨l2, hB2, hl2⟩ := one_bytesN _ _ _ g2 (fun x hx => hlt x (by rw [hd]; simp [hx]))
    simp at e0 e1
    subst e0 e1
    refine ⟨⟨z0, z1, c2, l2⟩, by simp [A17.c], y0.1, y1.1, y2.1, by rw [hd]; simp, wf_i64_of w0, wf_i64_of w1, ⟨hB2, hl2⟩⟩
theorem open_A17s {H : Type} {enc : TypeId × Value → H} {W : World} {base : Nat} {v : Value} {d : DataW H} {ps : List MemPlace}
    (hval : Value.okWide Try.prog W .any base 22 v) (h : DataW.Trod enc Try.prog W 0 (fun _ => true) true 22 v d ps) (hlt : ∀ x ∈ ps, x.block < W.heap.size) :
    ∃ l : List A17, Wide 3 A17.c W v l ∧ ((d = .nil ∧ l = []) ∨ ∃ e s, d = .slice e s ∧ e.length = l.length ∧ ∀ k (h : k < l.length) (h2 : k < e.length), l[k].gk W e[k]) :=
  open_gen Try.underlying22 cells_A17 (by decide) one_A17 hval h hlt
theorem by_A17 : 1 ≤ Try.prog.bytesOf 33 := of_decide_eq_true (by kernel_rfl)
theorem size_A17s {H : Type} {W : World} {ts : List TypeId} {ds : List (DataW H)} {j : Nat} {d : DataW H} {l : List A17} (h : (DataW.weightsEach Try.prog ts ds).all (· ≤ reachBytes) = true) (ht : ts[j]? = some 22) (hd : ds[j]? = some d) (e : (d = .nil ∧ l = []) ∨ ∃ e s, d = .slice e s ∧ e.length = l.length ∧ ∀ k (h : k < l.length) (h2 : k < e.length), l[k].gk W e[k]) :
    l.length ≤ 140737488351232 ∧ ∀ a ∈ l, a.ok W := by
  have hr : reachBytes = 140737488351232 := by decide
  rcases e with ⟨_, rfl⟩ | ⟨e, s, rfl, h1, h2⟩
  · exact ⟨by simp, fun a ha => by simp at ha⟩
  · refine ⟨?_, fun a ha => ?_⟩
    · have hs := sized_slice h ht hd Try.underlying22
      have h3 := Nat.mul_le_mul_left (e.length + s.length) by_A17
      omega
    · obtain ⟨k, hk, rfl⟩ := List.getElem_of_mem ha
      obtain ⟨_, _, _, hg, r0, r1, r2⟩ := h2 k hk (by omega)
      exact ⟨r0, r1, ⟨r2.1, by
        rcases r2.weight with h0 | ⟨n, hn, hm⟩
        · rw [h0]; simp
        · have hm1 : n ∈ DataW.weights Try.prog 33 e[k] := by
            rw [hg]
            simp only [DataW.weights, Try.underlying33]
            exact DataW.weights_mem_each (j := 2) rfl rfl _ hm
          have hm2 : n ∈ DataW.weights Try.prog 22 (.slice e s) := by
            simp only [DataW.weights, Try.underlying22]
            exact List.mem_cons_of_mem _ (List.mem_append_left _ (weights_memN (by omega) hm1))
          have := List.all_eq_true.1 h _ (DataW.weights_mem_each ht hd _ hm2)
          simp at this
          omega⟩⟩
theorem A17.cells {w : World} {b o : Nat} {a : A17} (h : w.rangeAt b o a.c) : w.cell? ⟨b, o, none⟩ = some (.int .i64 a.kind) ∧ w.cell? ⟨b, o + 1, none⟩ = some (.int .i64 a.n) ∧ w.cell? ⟨b, o + 2, none⟩ = some (a.b) :=
  ⟨h 0 _ rfl, h 1 _ rfl, h 2 _ rfl⟩
theorem info_A17 : (Try.prog.info? 33).map (·.size) = some 3 := by kernel_rfl
theorem A17.ld {w : World} {b o : Nat} {a : A17} {ops : Array Oper} {rest : List Oper} {p : Oper} {f : Act} {Q : Exit → Act → World → Prop} (h : w.rangeAt b o a.c) (hgd : p.guard = none) (x : Operand) (ho : p.op = .load 33 x) (hx : f.eval x = .pointer (some ⟨b, o, none⟩))
    (hh : wpList Try.prog ops Q rest (f.put p.dst (.agg a.arr)) w) : wpList Try.prog ops Q (p :: rest) f w :=
  wpList_load_mid hgd 33 x ho b o hx a.c _ h Try.underlying33 rfl info_A17 hh
end Go.Proofs.Ytjifoeponfeffaa
