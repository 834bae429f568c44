/- What came in at the laws of the beat, opened. -/
import Derived.Test.YtnmjeomhmmfgmaaOpX
namespace Go.Proofs.Ytnmjeomhmmfgmaa
open Go.ChangeShapes Go.WideShapes Go.ChangeAt Go.RowKit
set_option linter.unusedVariables false
set_option maxRecDepth 1000000

structure A14 where
  kind : Int
  n : Nat
  on : Bool
  h_kind : -9223372036854775808 ≤ kind ∧ kind < 9223372036854775808
  h_n : n < 18446744073709551616
def A14.c (a : A14) : List Value := [.int .i64 a.kind, .int .u64 a.n, .bool a.on]
def A14.arr (a : A14) : Array Value := #[.int .i64 a.kind, .int .u64 a.n, .bool a.on]
theorem cells_A14 : Try.prog.cellsOf 34 = 3 := by kernel_rfl
theorem c1_A14_0 : Try.prog.cellsOf 4 = 1 := by kernel_rfl
theorem c1_A14_1 : Try.prog.cellsOf 3 = 1 := by kernel_rfl
theorem c1_A14_2 : Try.prog.cellsOf 22 = 1 := by kernel_rfl
theorem list_A14 {l : List Value} (h : l.length = 3) : ∃ c0 c1 c2, l = [c0, c1, c2] := by
  match l, h with
  | [c0, c1, c2], _ => exact ⟨c0, c1, c2, rfl⟩
theorem one_A14 {H : Type} {enc : TypeId × Value → H} {W : World} (n : Nat) (cs : List Value) (y : DataW H × List MemPlace) (h : DataW.trod enc Try.prog W 0 (fun _ => true) true n 34 cs = some y) : ∃ a : A14, cs = a.c := by
  obtain ⟨xs, m, _, _, hn, hl, hfs⟩ := DataW.trod_struct Try.underlying34 h
  rw [cells_A14] at hn
  obtain ⟨c0, c1, c2, rfl⟩ := list_A14 hn
  have g0 := hfs 0 _ rfl
  have g1 := hfs 1 _ rfl
  have g2 := hfs 2 _ rfl
  simp [c1_A14_0, c1_A14_1, c1_A14_2] at g0 g1 g2
  match xs, hl with
  | [y0, y1, y2], _ =>
    simp at g0 g1 g2
    obtain ⟨z0, e0, _, w0⟩ := DataW.trod_int Try.underlying3 g0
    obtain ⟨z1, e1, _, w1⟩ := DataW.trod_int Try.underlying22 g1
    obtain ⟨z2, e2, _⟩ := DataW.trod_bool Try.underlying4 g2
    simp at e0 e1 e2
    subst e0 e1 e2
    have b1 := wf_u64_of w1
    have f1 : ((z1.toNat : Nat) : Int) = z1 := by omega
    refine ⟨⟨z0, z1.toNat, z2, wf_i64_of w0, by omega⟩, ?_⟩
    simp [A14.c, f1]
theorem open_A14 {H : Type} {enc : TypeId × Value → H} {W : World} {base : Nat} {v : Value} {d : DataW H} {ps : List MemPlace}
    (hval : Value.okWide Try.prog W .any base 34 v) (h : DataW.Trod enc Try.prog W 0 (fun _ => true) true 34 v d ps) : ∃ a : A14, v = .agg a.arr := by
  obtain ⟨cs, rfl, hsz⟩ := okWide_struct Try.underlying34 hval
  obtain ⟨fuel, hf⟩ := h
  obtain ⟨a, ha⟩ := one_A14 _ _ _ hf
  refine ⟨a, ?_⟩
  simp only [Value.cells] at ha
  show Value.agg cs = Value.agg a.c.toArray
  rw [← ha]
theorem open_A14s {H : Type} {enc : TypeId × Value → H} {W : World} {base : Nat} {v : Value} {d : DataW H} {ps : List MemPlace}
    (hval : Value.okWide Try.prog W .any base 23 v) (h : DataW.Trod enc Try.prog W 0 (fun _ => true) true 23 v d ps) (hlt : ∀ x ∈ ps, x.block < W.heap.size) :
    ∃ l, Wide 3 A14.c W v l ∧ ((d = .nil ∧ l = []) ∨ ∃ e s, d = .slice e s ∧ e.length = l.length) :=
  open_wide Try.underlying23 cells_A14 (by decide) one_A14 hval h hlt
theorem by_A14 : 1 ≤ Try.prog.bytesOf 34 := of_decide_eq_true (by kernel_rfl)
theorem size_A14s {H : Type} {ts : List TypeId} {ds : List (DataW H)} {j : Nat} {d : DataW H} {l : List A14} (h : (DataW.weightsEach Try.prog ts ds).all (· ≤ reachBytes) = true) (ht : ts[j]? = some 23) (hd : ds[j]? = some d) (e : (d = .nil ∧ l = []) ∨ ∃ e s, d = .slice e s ∧ e.length = l.length) : l.length ≤ 140737488351232 := by
  have := size_wide h ht hd Try.underlying23 rfl e
  have h1 := Nat.mul_le_mul_left l.length by_A14
  omega
theorem A14.cells {w : World} {b o : Nat} {a : A14} (h : w.rangeAt b o a.c) : w.cell? ⟨b, o, none⟩ = some (.int .i64 a.kind) ∧ w.cell? ⟨b, o + 1, none⟩ = some (.int .u64 a.n) ∧ w.cell? ⟨b, o + 2, none⟩ = some (.bool a.on) :=
  ⟨h 0 _ rfl, h 1 _ rfl, h 2 _ rfl⟩
theorem info_A14 : (Try.prog.info? 34).map (·.size) = some 3 := by kernel_rfl
theorem A14.ld {w : World} {b o : Nat} {a : A14} {ops : Array Oper} {rest : List Oper} {p : Oper} {f : Act} {Q : Exit → Act → World → Prop} (h : w.rangeAt b o a.c) (hgd : p.guard = none) (x : Operand) (ho : p.op = .load 34 x) (hx : f.eval x = .pointer (some ⟨b, o, none⟩))
    (hh : wpList Try.prog ops Q rest (f.put p.dst (.agg a.arr)) w) : wpList Try.prog ops Q (p :: rest) f w :=
  wpList_load_mid hgd 34 x ho b o hx a.c _ h Try.underlying34 rfl info_A14 hh
structure T14 where
  ctr : Int
  ticks : Bool
  n : Nat
  h_ctr : -9223372036854775808 ≤ ctr ∧ ctr < 9223372036854775808
  h_n : n < 18446744073709551616
def T14.c (a : T14) : List Value := [.int .i64 a.ctr, .bool a.ticks, .int .u64 a.n]
def T14.arr (a : T14) : Array Value := #[.int .i64 a.ctr, .bool a.ticks, .int .u64 a.n]
theorem cells_T14 : Try.prog.cellsOf 50 = 3 := by kernel_rfl
theorem c1_T14_0 : Try.prog.cellsOf 4 = 1 := by kernel_rfl
theorem c1_T14_1 : Try.prog.cellsOf 3 = 1 := by kernel_rfl
theorem c1_T14_2 : Try.prog.cellsOf 22 = 1 := by kernel_rfl
theorem list_T14 {l : List Value} (h : l.length = 3) : ∃ c0 c1 c2, l = [c0, c1, c2] := by
  match l, h with
  | [c0, c1, c2], _ => exact ⟨c0, c1, c2, rfl⟩
theorem one_T14 {H : Type} {enc : TypeId × Value → H} {W : World} (n : Nat) (cs : List Value) (y : DataW H × List MemPlace) (h : DataW.trod enc Try.prog W 0 (fun _ => true) true n 50 cs = some y) : ∃ a : T14, cs = a.c := by
  obtain ⟨xs, m, _, _, hn, hl, hfs⟩ := DataW.trod_struct Try.underlying50 h
  rw [cells_T14] at hn
  obtain ⟨c0, c1, c2, rfl⟩ := list_T14 hn
  have g0 := hfs 0 _ rfl
  have g1 := hfs 1 _ rfl
  have g2 := hfs 2 _ rfl
  simp [c1_T14_0, c1_T14_1, c1_T14_2] at g0 g1 g2
  match xs, hl with
  | [y0, y1, y2], _ =>
    simp at g0 g1 g2
    obtain ⟨z0, e0, _, w0⟩ := DataW.trod_int Try.underlying3 g0
    obtain ⟨z1, e1, _⟩ := DataW.trod_bool Try.underlying4 g1
    obtain ⟨z2, e2, _, w2⟩ := DataW.trod_int Try.underlying22 g2
    simp at e0 e1 e2
    subst e0 e1 e2
    have b2 := wf_u64_of w2
    have f2 : ((z2.toNat : Nat) : Int) = z2 := by omega
    refine ⟨⟨z0, z1, z2.toNat, wf_i64_of w0, by omega⟩, ?_⟩
    simp [T14.c, f2]
theorem open_T14 {H : Type} {enc : TypeId × Value → H} {W : World} {base : Nat} {v : Value} {d : DataW H} {ps : List MemPlace}
    (hval : Value.okWide Try.prog W .any base 50 v) (h : DataW.Trod enc Try.prog W 0 (fun _ => true) true 50 v d ps) : ∃ a : T14, v = .agg a.arr := by
  obtain ⟨cs, rfl, hsz⟩ := okWide_struct Try.underlying50 hval
  obtain ⟨fuel, hf⟩ := h
  obtain ⟨a, ha⟩ := one_T14 _ _ _ hf
  refine ⟨a, ?_⟩
  simp only [Value.cells] at ha
  show Value.agg cs = Value.agg a.c.toArray
  rw [← ha]
theorem open_T14s {H : Type} {enc : TypeId × Value → H} {W : World} {base : Nat} {v : Value} {d : DataW H} {ps : List MemPlace}
    (hval : Value.okWide Try.prog W .any base 42 v) (h : DataW.Trod enc Try.prog W 0 (fun _ => true) true 42 v d ps) (hlt : ∀ x ∈ ps, x.block < W.heap.size) :
    ∃ l, Wide 3 T14.c W v l ∧ ((d = .nil ∧ l = []) ∨ ∃ e s, d = .slice e s ∧ e.length = l.length) :=
  open_wide Try.underlying42 cells_T14 (by decide) one_T14 hval h hlt
theorem by_T14 : 1 ≤ Try.prog.bytesOf 50 := of_decide_eq_true (by kernel_rfl)
theorem size_T14s {H : Type} {ts : List TypeId} {ds : List (DataW H)} {j : Nat} {d : DataW H} {l : List T14} (h : (DataW.weightsEach Try.prog ts ds).all (· ≤ reachBytes) = true) (ht : ts[j]? = some 42) (hd : ds[j]? = some d) (e : (d = .nil ∧ l = []) ∨ ∃ e s, d = .slice e s ∧ e.length = l.length) : l.length ≤ 140737488351232 := by
  have := size_wide h ht hd Try.underlying42 rfl e
  have h1 := Nat.mul_le_mul_left l.length by_T14
  omega
theorem T14.cells {w : World} {b o : Nat} {a : T14} (h : w.rangeAt b o a.c) : w.cell? ⟨b, o, none⟩ = some (.int .i64 a.ctr) ∧ w.cell? ⟨b, o + 1, none⟩ = some (.bool a.ticks) ∧ w.cell? ⟨b, o + 2, none⟩ = some (.int .u64 a.n) :=
  ⟨h 0 _ rfl, h 1 _ rfl, h 2 _ rfl⟩
theorem info_T14 : (Try.prog.info? 50).map (·.size) = some 3 := by kernel_rfl
theorem T14.ld {w : World} {b o : Nat} {a : T14} {ops : Array Oper} {rest : List Oper} {p : Oper} {f : Act} {Q : Exit → Act → World → Prop} (h : w.rangeAt b o a.c) (hgd : p.guard = none) (x : Operand) (ho : p.op = .load 50 x) (hx : f.eval x = .pointer (some ⟨b, o, none⟩))
    (hh : wpList Try.prog ops Q rest (f.put p.dst (.agg a.arr)) w) : wpList Try.prog ops Q (p :: rest) f w :=
  wpList_load_mid hgd 50 x ho b o hx a.c _ h Try.underlying50 rfl info_T14 hh
structure F14 where
  per : Nat
  ov : Nat
  h_per : per < 256
  h_ov : ov < 256
def F14.c (a : F14) : List Value := [.int .u8 a.per, .int .u8 a.ov]
def F14.arr (a : F14) : Array Value := #[.int .u8 a.per, .int .u8 a.ov]
theorem cells_F14 : Try.prog.cellsOf 56 = 2 := by kernel_rfl
theorem c1_F14_0 : Try.prog.cellsOf 5 = 1 := by kernel_rfl
theorem list_F14 {l : List Value} (h : l.length = 2) : ∃ c0 c1, l = [c0, c1] := by
  match l, h with
  | [c0, c1], _ => exact ⟨c0, c1, rfl⟩
theorem one_F14 {H : Type} {enc : TypeId × Value → H} {W : World} (n : Nat) (cs : List Value) (y : DataW H × List MemPlace) (h : DataW.trod enc Try.prog W 0 (fun _ => true) true n 56 cs = some y) : ∃ a : F14, cs = a.c := by
  obtain ⟨xs, m, _, _, hn, hl, hfs⟩ := DataW.trod_struct Try.underlying56 h
  rw [cells_F14] at hn
  obtain ⟨c0, c1, rfl⟩ := list_F14 hn
  have g0 := hfs 0 _ rfl
  have g1 := hfs 1 _ rfl
  simp [c1_F14_0] at g0 g1
  match xs, hl with
  | [y0, y1], _ =>
    simp at g0 g1
    obtain ⟨z0, e0, _, w0⟩ := DataW.trod_int Try.underlying5 g0
    obtain ⟨z1, e1, _, w1⟩ := DataW.trod_int Try.underlying5 g1
    simp at e0 e1
    subst e0 e1
    have b0 := wf_u8_of w0
    have f0 : ((z0.toNat : Nat) : Int) = z0 := by omega
    have b1 := wf_u8_of w1
    have f1 : ((z1.toNat : Nat) : Int) = z1 := by omega
    refine ⟨⟨z0.toNat, z1.toNat, by omega, by omega⟩, ?_⟩
    simp [F14.c, f0, f1]
theorem open_F14 {H : Type} {enc : TypeId × Value → H} {W : World} {base : Nat} {v : Value} {d : DataW H} {ps : List MemPlace}
    (hval : Value.okWide Try.prog W .any base 56 v) (h : DataW.Trod enc Try.prog W 0 (fun _ => true) true 56 v d ps) : ∃ a : F14, v = .agg a.arr := by
  obtain ⟨cs, rfl, hsz⟩ := okWide_struct Try.underlying56 hval
  obtain ⟨fuel, hf⟩ := h
  obtain ⟨a, ha⟩ := one_F14 _ _ _ hf
  refine ⟨a, ?_⟩
  simp only [Value.cells] at ha
  show Value.agg cs = Value.agg a.c.toArray
  rw [← ha]
structure G14 where
  n : Nat
  frm : Nat
  lost : Nat
  h_n : n < 256
  h_frm : frm < 256
  h_lost : lost < 256
def G14.c (a : G14) : List Value := [.int .u8 a.n, .int .u8 a.frm, .int .u8 a.lost]
def G14.arr (a : G14) : Array Value := #[.int .u8 a.n, .int .u8 a.frm, .int .u8 a.lost]
theorem cells_G14 : Try.prog.cellsOf 58 = 3 := by kernel_rfl
theorem c1_G14_0 : Try.prog.cellsOf 5 = 1 := by kernel_rfl
theorem list_G14 {l : List Value} (h : l.length = 3) : ∃ c0 c1 c2, l = [c0, c1, c2] := by
  match l, h with
  | [c0, c1, c2], _ => exact ⟨c0, c1, c2, rfl⟩
theorem one_G14 {H : Type} {enc : TypeId × Value → H} {W : World} (n : Nat) (cs : List Value) (y : DataW H × List MemPlace) (h : DataW.trod enc Try.prog W 0 (fun _ => true) true n 58 cs = some y) : ∃ a : G14, cs = a.c := by
  obtain ⟨xs, m, _, _, hn, hl, hfs⟩ := DataW.trod_struct Try.underlying58 h
  rw [cells_G14] at hn
  obtain ⟨c0, c1, c2, rfl⟩ := list_G14 hn
  have g0 := hfs 0 _ rfl
  have g1 := hfs 1 _ rfl
  have g2 := hfs 2 _ rfl
  simp [c1_G14_0] at g0 g1 g2
  match xs, hl with
  | [y0, y1, y2], _ =>
    simp at g0 g1 g2
    obtain ⟨z0, e0, _, w0⟩ := DataW.trod_int Try.underlying5 g0
    obtain ⟨z1, e1, _, w1⟩ := DataW.trod_int Try.underlying5 g1
    obtain ⟨z2, e2, _, w2⟩ := DataW.trod_int Try.underlying5 g2
    simp at e0 e1 e2
    subst e0 e1 e2
    have b0 := wf_u8_of w0
    have f0 : ((z0.toNat : Nat) : Int) = z0 := by omega
    have b1 := wf_u8_of w1
    have f1 : ((z1.toNat : Nat) : Int) = z1 := by omega
    have b2 := wf_u8_of w2
    have f2 : ((z2.toNat : Nat) : Int) = z2 := by omega
    refine ⟨⟨z0.toNat, z1.toNat, z2.toNat, by omega, by omega, by omega⟩, ?_⟩
    simp [G14.c, f0, f1, f2]
theorem open_G14 {H : Type} {enc : TypeId × Value → H} {W : World} {base : Nat} {v : Value} {d : DataW H} {ps : List MemPlace}
    (hval : Value.okWide Try.prog W .any base 58 v) (h : DataW.Trod enc Try.prog W 0 (fun _ => true) true 58 v d ps) : ∃ a : G14, v = .agg a.arr := by
  obtain ⟨cs, rfl, hsz⟩ := okWide_struct Try.underlying58 hval
  obtain ⟨fuel, hf⟩ := h
  obtain ⟨a, ha⟩ := one_G14 _ _ _ hf
  refine ⟨a, ?_⟩
  simp only [Value.cells] at ha
  show Value.agg cs = Value.agg a.c.toArray
  rw [← ha]
end Go.Proofs.Ytnmjeomhmmfgmaa
