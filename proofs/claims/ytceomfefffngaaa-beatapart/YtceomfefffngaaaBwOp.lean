/- What came in at the laws of beats, opened. -/
import Derived.Test.YtceomfefffngaaaGnX
namespace Go.Proofs.Ytceomfefffngaaa
open Go.ChangeShapes Go.WideShapes Go.ChangeAt Go.RowKit
set_option linter.unusedVariables false
set_option maxRecDepth 1000000

structure T18 where
  set : Bool
  tk : Nat
  st : Int
  h_tk : tk < 18446744073709551616
  h_st : -9223372036854775808 ≤ st ∧ st < 9223372036854775808
def T18.c (a : T18) : List Value := [.bool a.set, .int .u64 a.tk, .int .i64 a.st]
def T18.arr (a : T18) : Array Value := #[.bool a.set, .int .u64 a.tk, .int .i64 a.st]
theorem cells_T18 : Try.prog.cellsOf 30 = 3 := by kernel_rfl
theorem c1_T18_0 : Try.prog.cellsOf 4 = 1 := by kernel_rfl
theorem c1_T18_1 : Try.prog.cellsOf 3 = 1 := by kernel_rfl
theorem c1_T18_2 : Try.prog.cellsOf 22 = 1 := by kernel_rfl
theorem list_T18 {l : List Value} (h : l.length = 3) : ∃ c0 c1 c2, l = [c0, c1, c2] := by
  match l, h with
  | [c0, c1, c2], _ => exact ⟨c0, c1, c2, rfl⟩
theorem one_T18 {H : Type} {enc : TypeId × Value → H} {W : World} (n : Nat) (cs : List Value) (y : DataW H × List MemPlace) (h : DataW.trod enc Try.prog W 0 (fun _ => true) true n 30 cs = some y) : ∃ a : T18, cs = a.c := by
  obtain ⟨xs, m, _, _, hn, hl, hfs⟩ := DataW.trod_struct Try.underlying30 h
  rw [cells_T18] at hn
  obtain ⟨c0, c1, c2, rfl⟩ := list_T18 hn
  have g0 := hfs 0 _ rfl
  have g1 := hfs 1 _ rfl
  have g2 := hfs 2 _ rfl
  simp [c1_T18_0, c1_T18_1, c1_T18_2] at g0 g1 g2
  match xs, hl with
  | [y0, y1, y2], _ =>
    simp at g0 g1 g2
    obtain ⟨z0, e0, _⟩ := DataW.trod_bool Try.underlying4 g0
    obtain ⟨z1, e1, _, w1⟩ := DataW.trod_int Try.underlying22 g1
    obtain ⟨z2, e2, _, w2⟩ := DataW.trod_int Try.underlying3 g2
    simp at e0 e1 e2
    subst e0 e1 e2
    have b1 := wf_u64_of w1
    have f1 : ((z1.toNat : Nat) : Int) = z1 := by omega
    refine ⟨⟨z0, z1.toNat, z2, by omega, wf_i64_of w2⟩, ?_⟩
    simp [T18.c, f1]
theorem open_T18 {H : Type} {enc : TypeId × Value → H} {W : World} {base : Nat} {v : Value} {d : DataW H} {ps : List MemPlace}
    (hval : Value.okWide Try.prog W .any base 30 v) (h : DataW.Trod enc Try.prog W 0 (fun _ => true) true 30 v d ps) : ∃ a : T18, v = .agg a.arr := by
  obtain ⟨cs, rfl, hsz⟩ := okWide_struct Try.underlying30 hval
  obtain ⟨fuel, hf⟩ := h
  obtain ⟨a, ha⟩ := one_T18 _ _ _ hf
  refine ⟨a, ?_⟩
  simp only [Value.cells] at ha
  show Value.agg cs = Value.agg a.c.toArray
  rw [← ha]
theorem open_T18s {H : Type} {enc : TypeId × Value → H} {W : World} {base : Nat} {v : Value} {d : DataW H} {ps : List MemPlace}
    (hval : Value.okWide Try.prog W .any base 23 v) (h : DataW.Trod enc Try.prog W 0 (fun _ => true) true 23 v d ps) (hlt : ∀ x ∈ ps, x.block < W.heap.size) :
    ∃ l, Wide 3 T18.c W v l ∧ ((d = .nil ∧ l = []) ∨ ∃ e s, d = .slice e s ∧ e.length = l.length) :=
  open_wide Try.underlying23 cells_T18 (by decide) one_T18 hval h hlt
theorem by_T18 : 1 ≤ Try.prog.bytesOf 30 := of_decide_eq_true (by kernel_rfl)
theorem size_T18s {H : Type} {ts : List TypeId} {ds : List (DataW H)} {j : Nat} {d : DataW H} {l : List T18} (h : (DataW.weightsEach Try.prog ts ds).all (· ≤ reachBytes) = true) (ht : ts[j]? = some 23) (hd : ds[j]? = some d) (e : (d = .nil ∧ l = []) ∨ ∃ e s, d = .slice e s ∧ e.length = l.length) : l.length ≤ 140737488351232 := by
  have := size_wide h ht hd Try.underlying23 rfl e
  have h1 := Nat.mul_le_mul_left l.length by_T18
  omega
theorem T18.cells {w : World} {b o : Nat} {a : T18} (h : w.rangeAt b o a.c) : w.cell? ⟨b, o, none⟩ = some (.bool a.set) ∧ w.cell? ⟨b, o + 1, none⟩ = some (.int .u64 a.tk) ∧ w.cell? ⟨b, o + 2, none⟩ = some (.int .i64 a.st) :=
  ⟨h 0 _ rfl, h 1 _ rfl, h 2 _ rfl⟩
theorem info_T18 : (Try.prog.info? 30).map (·.size) = some 3 := by kernel_rfl
theorem T18.ld {w : World} {b o : Nat} {a : T18} {ops : Array Oper} {rest : List Oper} {p : Oper} {f : Act} {Q : Exit → Act → World → Prop} (h : w.rangeAt b o a.c) (hgd : p.guard = none) (x : Operand) (ho : p.op = .load 30 x) (hx : f.eval x = .pointer (some ⟨b, o, none⟩))
    (hh : wpList Try.prog ops Q rest (f.put p.dst (.agg a.arr)) w) : wpList Try.prog ops Q (p :: rest) f w :=
  wpList_load_mid hgd 30 x ho b o hx a.c _ h Try.underlying30 rfl info_T18 hh
structure Q18 where
  nd : Int
  tk : Nat
  h_nd : -9223372036854775808 ≤ nd ∧ nd < 9223372036854775808
  h_tk : tk < 18446744073709551616
def Q18.c (a : Q18) : List Value := [.int .i64 a.nd, .int .u64 a.tk]
def Q18.arr (a : Q18) : Array Value := #[.int .i64 a.nd, .int .u64 a.tk]
theorem cells_Q18 : Try.prog.cellsOf 59 = 2 := by kernel_rfl
theorem c1_Q18_0 : Try.prog.cellsOf 3 = 1 := by kernel_rfl
theorem c1_Q18_1 : Try.prog.cellsOf 22 = 1 := by kernel_rfl
theorem list_Q18 {l : List Value} (h : l.length = 2) : ∃ c0 c1, l = [c0, c1] := by
  match l, h with
  | [c0, c1], _ => exact ⟨c0, c1, rfl⟩
theorem one_Q18 {H : Type} {enc : TypeId × Value → H} {W : World} (n : Nat) (cs : List Value) (y : DataW H × List MemPlace) (h : DataW.trod enc Try.prog W 0 (fun _ => true) true n 59 cs = some y) : ∃ a : Q18, cs = a.c := by
  obtain ⟨xs, m, _, _, hn, hl, hfs⟩ := DataW.trod_struct Try.underlying59 h
  rw [cells_Q18] at hn
  obtain ⟨c0, c1, rfl⟩ := list_Q18 hn
  have g0 := hfs 0 _ rfl
  have g1 := hfs 1 _ rfl
  simp [c1_Q18_0, c1_Q18_1] at g0 g1
  match xs, hl with
  | [y0, y1], _ =>
    simp at g0 g1
    obtain ⟨z0, e0, _, w0⟩ := DataW.trod_int Try.underlying3 g0
    obtain ⟨z1, e1, _, w1⟩ := DataW.trod_int Try.underlying22 g1
    simp at e0 e1
    subst e0 e1
    have b1 := wf_u64_of w1
    have f1 : ((z1.toNat : Nat) : Int) = z1 := by omega
    refine ⟨⟨z0, z1.toNat, wf_i64_of w0, by omega⟩, ?_⟩
    simp [Q18.c, f1]
theorem open_Q18 {H : Type} {enc : TypeId × Value → H} {W : World} {base : Nat} {v : Value} {d : DataW H} {ps : List MemPlace}
    (hval : Value.okWide Try.prog W .any base 59 v) (h : DataW.Trod enc Try.prog W 0 (fun _ => true) true 59 v d ps) : ∃ a : Q18, v = .agg a.arr := by
  obtain ⟨cs, rfl, hsz⟩ := okWide_struct Try.underlying59 hval
  obtain ⟨fuel, hf⟩ := h
  obtain ⟨a, ha⟩ := one_Q18 _ _ _ hf
  refine ⟨a, ?_⟩
  simp only [Value.cells] at ha
  show Value.agg cs = Value.agg a.c.toArray
  rw [← ha]
theorem open_Q18s {H : Type} {enc : TypeId × Value → H} {W : World} {base : Nat} {v : Value} {d : DataW H} {ps : List MemPlace}
    (hval : Value.okWide Try.prog W .any base 36 v) (h : DataW.Trod enc Try.prog W 0 (fun _ => true) true 36 v d ps) (hlt : ∀ x ∈ ps, x.block < W.heap.size) :
    ∃ l, Wide 2 Q18.c W v l ∧ ((d = .nil ∧ l = []) ∨ ∃ e s, d = .slice e s ∧ e.length = l.length) :=
  open_wide Try.underlying36 cells_Q18 (by decide) one_Q18 hval h hlt
theorem by_Q18 : 1 ≤ Try.prog.bytesOf 59 := of_decide_eq_true (by kernel_rfl)
theorem size_Q18s {H : Type} {ts : List TypeId} {ds : List (DataW H)} {j : Nat} {d : DataW H} {l : List Q18} (h : (DataW.weightsEach Try.prog ts ds).all (· ≤ reachBytes) = true) (ht : ts[j]? = some 36) (hd : ds[j]? = some d) (e : (d = .nil ∧ l = []) ∨ ∃ e s, d = .slice e s ∧ e.length = l.length) : l.length ≤ 140737488351232 := by
  have := size_wide h ht hd Try.underlying36 rfl e
  have h1 := Nat.mul_le_mul_left l.length by_Q18
  omega
theorem Q18.cells {w : World} {b o : Nat} {a : Q18} (h : w.rangeAt b o a.c) : w.cell? ⟨b, o, none⟩ = some (.int .i64 a.nd) ∧ w.cell? ⟨b, o + 1, none⟩ = some (.int .u64 a.tk) :=
  ⟨h 0 _ rfl, h 1 _ rfl⟩
theorem info_Q18 : (Try.prog.info? 59).map (·.size) = some 2 := by kernel_rfl
theorem Q18.ld {w : World} {b o : Nat} {a : Q18} {ops : Array Oper} {rest : List Oper} {p : Oper} {f : Act} {Q : Exit → Act → World → Prop} (h : w.rangeAt b o a.c) (hgd : p.guard = none) (x : Operand) (ho : p.op = .load 59 x) (hx : f.eval x = .pointer (some ⟨b, o, none⟩))
    (hh : wpList Try.prog ops Q rest (f.put p.dst (.agg a.arr)) w) : wpList Try.prog ops Q (p :: rest) f w :=
  wpList_load_mid hgd 59 x ho b o hx a.c _ h Try.underlying59 rfl info_Q18 hh
structure A18 where
  tk : Bool
  nd : Int
  b : Value
  bL : List UInt8
def A18.c (a : A18) : List Value := [.bool a.tk, .int .i64 a.nd, a.b]
def A18.arr (a : A18) : Array Value := #[.bool a.tk, .int .i64 a.nd, a.b]
def A18.ok (W : World) (a : A18) : Prop := (-9223372036854775808 ≤ a.nd ∧ a.nd < 9223372036854775808) ∧ (Bytes W a.b a.bL ∧ a.bL.length ≤ 140737488351232)
def A18.gk {H : Type} (W : World) (d : DataW H) (a : A18) : Prop := ∃ d0 d1 d2, d = .agg [d0, d1, d2] ∧ (-9223372036854775808 ≤ a.nd ∧ a.nd < 9223372036854775808) ∧ GB W d2 a.b a.bL
theorem cells_A18 : Try.prog.cellsOf 49 = 3 := by kernel_rfl
theorem c1_A18_0 : Try.prog.cellsOf 4 = 1 := by kernel_rfl
theorem c1_A18_1 : Try.prog.cellsOf 32 = 1 := by kernel_rfl
theorem c1_A18_2 : Try.prog.cellsOf 3 = 1 := by kernel_rfl
theorem list_A18 {l : List Value} (h : l.length = 3) : ∃ c0 c1 c2, l = [c0, c1, c2] := by
  match l, h with
  | [c0, c1, c2], _ => exact ⟨c0, c1, c2, rfl⟩
theorem one_A18 {H : Type} {enc : TypeId × Value → H} {W : World} (n : Nat) (cs : List Value) (y : DataW H × List MemPlace) (h : DataW.trod enc Try.prog W 0 (fun _ => true) true n 49 cs = some y) (hlt : ∀ x ∈ y.2, x.block < W.heap.size) : ∃ a : A18, cs = a.c ∧ a.gk W y.1 := by
  obtain ⟨xs, m, _, hd, hn, hl, hfs⟩ := DataW.trod_struct Try.underlying49 h
  rw [cells_A18] at hn
  obtain ⟨c0, c1, c2, rfl⟩ := list_A18 hn
  have g0 := hfs 0 _ rfl
  have g1 := hfs 1 _ rfl
  have g2 := hfs 2 _ rfl
  simp [c1_A18_0, c1_A18_1, c1_A18_2] at g0 g1 g2
  match xs, hl with
  | [y0, y1, y2], _ =>
    simp at g0 g1 g2
    obtain ⟨z0, e0, _⟩ := DataW.trod_bool Try.underlying4 g0
    obtain ⟨z1, e1, _, w1⟩ := DataW.trod_int Try.underlying3 g1
    obtain ⟨l2, hB2, hl2⟩ := one_bytesN _ _ _ g2 (fun x hx => hlt x (by rw [hd]; simp [hx]))
    simp at e0 e1
    subst e0 e1
    refine ⟨⟨z0, z1, c2, l2⟩, by simp [A18.c], y0.1, y1.1, y2.1, by rw [hd]; simp, wf_i64_of w1, ⟨hB2, hl2⟩⟩
theorem open_A18s {H : Type} {enc : TypeId × Value → H} {W : World} {base : Nat} {v : Value} {d : DataW H} {ps : List MemPlace}
    (hval : Value.okWide Try.prog W .any base 37 v) (h : DataW.Trod enc Try.prog W 0 (fun _ => true) true 37 v d ps) (hlt : ∀ x ∈ ps, x.block < W.heap.size) :
    ∃ l : List A18, Wide 3 A18.c W v l ∧ ((d = .nil ∧ l = []) ∨ ∃ e s, d = .slice e s ∧ e.length = l.length ∧ ∀ k (h : k < l.length) (h2 : k < e.length), l[k].gk W e[k]) :=
  open_gen Try.underlying37 cells_A18 (by decide) one_A18 hval h hlt
theorem by_A18 : 1 ≤ Try.prog.bytesOf 49 := of_decide_eq_true (by kernel_rfl)
theorem size_A18s {H : Type} {W : World} {ts : List TypeId} {ds : List (DataW H)} {j : Nat} {d : DataW H} {l : List A18} (h : (DataW.weightsEach Try.prog ts ds).all (· ≤ reachBytes) = true) (ht : ts[j]? = some 37) (hd : ds[j]? = some d) (e : (d = .nil ∧ l = []) ∨ ∃ e s, d = .slice e s ∧ e.length = l.length ∧ ∀ k (h : k < l.length) (h2 : k < e.length), l[k].gk W e[k]) :
    l.length ≤ 140737488351232 ∧ ∀ a ∈ l, a.ok W := by
  have hr : reachBytes = 140737488351232 := by decide
  rcases e with ⟨_, rfl⟩ | ⟨e, s, rfl, h1, h2⟩
  · exact ⟨by simp, fun a ha => by simp at ha⟩
  · refine ⟨?_, fun a ha => ?_⟩
    · have hs := sized_slice h ht hd Try.underlying37
      have h3 := Nat.mul_le_mul_left (e.length + s.length) by_A18
      omega
    · obtain ⟨k, hk, rfl⟩ := List.getElem_of_mem ha
      obtain ⟨_, _, _, hg, r1, r2⟩ := h2 k hk (by omega)
      exact ⟨r1, ⟨r2.1, by
        rcases r2.weight with h0 | ⟨n, hn, hm⟩
        · rw [h0]; simp
        · have hm1 : n ∈ DataW.weights Try.prog 49 e[k] := by
            rw [hg]
            simp only [DataW.weights, Try.underlying49]
            exact DataW.weights_mem_each (j := 2) rfl rfl _ hm
          have hm2 : n ∈ DataW.weights Try.prog 37 (.slice e s) := by
            simp only [DataW.weights, Try.underlying37]
            exact List.mem_cons_of_mem _ (List.mem_append_left _ (weights_memN (by omega) hm1))
          have := List.all_eq_true.1 h _ (DataW.weights_mem_each ht hd _ hm2)
          simp at this
          omega⟩⟩
theorem A18.cells {w : World} {b o : Nat} {a : A18} (h : w.rangeAt b o a.c) : w.cell? ⟨b, o, none⟩ = some (.bool a.tk) ∧ w.cell? ⟨b, o + 1, none⟩ = some (.int .i64 a.nd) ∧ w.cell? ⟨b, o + 2, none⟩ = some (a.b) :=
  ⟨h 0 _ rfl, h 1 _ rfl, h 2 _ rfl⟩
theorem info_A18 : (Try.prog.info? 49).map (·.size) = some 3 := by kernel_rfl
theorem A18.ld {w : World} {b o : Nat} {a : A18} {ops : Array Oper} {rest : List Oper} {p : Oper} {f : Act} {Q : Exit → Act → World → Prop} (h : w.rangeAt b o a.c) (hgd : p.guard = none) (x : Operand) (ho : p.op = .load 49 x) (hx : f.eval x = .pointer (some ⟨b, o, none⟩))
    (hh : wpList Try.prog ops Q rest (f.put p.dst (.agg a.arr)) w) : wpList Try.prog ops Q (p :: rest) f w :=
  wpList_load_mid hgd 49 x ho b o hx a.c _ h Try.underlying49 rfl info_A18 hh
end Go.Proofs.Ytceomfefffngaaa
