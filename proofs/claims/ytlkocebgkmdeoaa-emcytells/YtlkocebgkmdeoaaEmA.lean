/- Errors in memory; how they are opened. -/
import Derived.Test.YtlkocebgkmdeoaaEmM
import Derived.Test.YtlkocebgkmdeoaaWrX
namespace Go.Proofs.Ytlkocebgkmdeoaa
open Go.ChangeShapes Go.WideShapes Go.ChangeAt Go.RowKit
set_option linter.unusedVariables false
set_option maxRecDepth 1000000
set_option linter.unusedSimpArgs false
def DT : Dec Tr := ⟨Tr.cs, 7, by decide, fun _ => rfl, fun a u hu => by simp [Tr.cs] at hu; rcases hu with rfl | rfl | rfl | rfl | rfl | rfl | rfl <;> rfl⟩
def DF : Dec Tr := ⟨Tr.fs, 8, by decide, fun _ => rfl, fun a u hu => by simp [Tr.fs] at hu; rcases hu with rfl | rfl | rfl | rfl | rfl | rfl | rfl | rfl <;> rfl⟩
theorem infoT : (Try.prog.info? 37).map (fun i => (i.zero, i.size, i.bytes)) = some (some (.agg #[.int .u16 0, .int .u8 0, .int .u8 0, .int .u8 0, .int .u8 0, .int .u8 0, .int .u8 0]), 7, 8) := by kernel_rfl
theorem info8F : (Try.prog.info? 42).map (fun i => (i.zero, i.size, i.bytes)) = some (some (.agg #[.int .u8 0, .int .u8 0, .int .u8 0, .int .u8 0, .int .u8 0, .int .u8 0, .int .u8 0, .int .u8 0]), 8, 8) := by kernel_rfl
theorem sizeT : (Try.prog.info? 37).map (·.size) = some 7 := by kernel_rfl
theorem size8F : (Try.prog.info? 42).map (·.size) = some 8 := by kernel_rfl
theorem cells_Tr : Try.prog.cellsOf 37 = 7 := by kernel_rfl
theorem c1_u16 : Try.prog.cellsOf 34 = 1 := by kernel_rfl
theorem c1_u8 : Try.prog.cellsOf 5 = 1 := by kernel_rfl
theorem c1_int : Try.prog.cellsOf 3 = 1 := by kernel_rfl
theorem c5_arr5 : Try.prog.cellsOf 35 = 5 := by kernel_rfl
theorem list7 {l : List Value} (h : l.length = 7) : ∃ c0 c1 c2 c3 c4 c5 c6, l = [c0, c1, c2, c3, c4, c5, c6] := by
  match l, h with
  | [c0, c1, c2, c3, c4, c5, c6], _ => exact ⟨c0, c1, c2, c3, c4, c5, c6, rfl⟩
theorem list8 {l : List Value} (h : l.length = 8) : ∃ c0 c1 c2 c3 c4 c5 c6 c7, l = [c0, c1, c2, c3, c4, c5, c6, c7] := by
  match l, h with
  | [c0, c1, c2, c3, c4, c5, c6, c7], _ => exact ⟨c0, c1, c2, c3, c4, c5, c6, c7, rfl⟩
theorem one_Tr {H : Type} {enc : TypeId × Value → H} {W : World} (n : Nat) (cs : List Value) (y : DataW H × List MemPlace) (h : DataW.trod enc Try.prog W 0 (fun _ => true) true n 37 cs = some y) : ∃ a : Tr, cs = a.cs := by
  obtain ⟨xs, m, _, _, hn, hl, hfs⟩ := DataW.trod_struct Try.underlying37 h
  rw [cells_Tr] at hn
  obtain ⟨c0, c1, c2, c3, c4, c5, c6, rfl⟩ := list7 hn
  have g0 := hfs 0 _ rfl
  have g1 := hfs 1 _ rfl
  have g2 := hfs 2 _ rfl
  simp [c1_u16, c1_u8, c5_arr5] at g0 g1 g2
  match xs, hl with
  | [y0, y1, y2], _ =>
    simp at g0 g1 g2
    obtain ⟨z0, e0, _, w0⟩ := DataW.trod_int Try.underlying34 g0
    obtain ⟨z1, e1, _, w1⟩ := DataW.trod_int Try.underlying5 g1
    obtain ⟨ys, m', _, _, _, hl5, hfi⟩ := DataW.trod_array Try.underlying35 g2
    match ys, hl5 with
    | [q0, q1, q2, q3, q4], _ =>
      have a0 := hfi 0 (by decide)
      have a1 := hfi 1 (by decide)
      have a2 := hfi 2 (by decide)
      have a3 := hfi 3 (by decide)
      have a4 := hfi 4 (by decide)
      simp [c1_u8] at a0 a1 a2 a3 a4
      obtain ⟨k0, f0, _, _⟩ := DataW.trod_int Try.underlying5 a0
      obtain ⟨k1, f1, _, _⟩ := DataW.trod_int Try.underlying5 a1
      obtain ⟨k2, f2, _, _⟩ := DataW.trod_int Try.underlying5 a2
      obtain ⟨k3, f3, _, _⟩ := DataW.trod_int Try.underlying5 a3
      obtain ⟨k4, f4, _, _⟩ := DataW.trod_int Try.underlying5 a4
      simp at e0 e1 f0 f1 f2 f3 f4
      subst e0 e1 f0 f1 f2 f3 f4
      have b0 := wf_u16_of w0
      have b1 := wf_u8_of w1
      have h0 : ((z0.toNat : Nat) : Int) = z0 := by omega
      have h1 : ((z1.toNat : Nat) : Int) = z1 := by omega
      refine ⟨⟨z0.toNat, z1.toNat, k0, k1, k2, k3, k4, by omega, by omega⟩, ?_⟩
      simp [Tr.cs, h0, h1]
theorem open_Trs {H : Type} {enc : TypeId × Value → H} {W : World} {base : Nat} {v : Value} {d : DataW H} {ps : List MemPlace}
    (hval : Value.okWide Try.prog W .any base 30 v) (h : DataW.Trod enc Try.prog W 0 (fun _ => true) true 30 v d ps) (hlt : ∀ x ∈ ps, x.block < W.heap.size) :
    ∃ l, Wide 7 Tr.cs W v l ∧ ((d = .nil ∧ l = []) ∨ ∃ e s, d = .slice e s ∧ e.length = l.length) :=
  open_wide Try.underlying30 cells_Tr (by decide) one_Tr hval h hlt
theorem bytes_Tr : Try.prog.bytesOf 37 = 8 := by kernel_rfl
theorem size_Trs {H : Type} {ts : List TypeId} {ds : List (DataW H)} {j : Nat} {d : DataW H} {l : List Tr} (h : (DataW.weightsEach Try.prog ts ds).all (· ≤ reachBytes) = true) (ht : ts[j]? = some 30) (hd : ds[j]? = some d) (e : (d = .nil ∧ l = []) ∨ ∃ e s, d = .slice e s ∧ e.length = l.length) : l.length ≤ 17592186043904 := by
  have := size_wide h ht hd Try.underlying30 bytes_Tr e
  omega
/-- A call of the statement. -/
structure A16 where
  k : Int
  x : Tr
  hk : -9223372036854775808 ≤ k ∧ k < 9223372036854775808
def A16.c (a : A16) : List Value := .int .i64 a.k :: a.x.cs
def A16.arr (a : A16) : Array Value := #[.int .i64 a.k, .int .u16 a.x.c, .int .u8 a.x.r, .int .u8 a.x.x0, .int .u8 a.x.x1, .int .u8 a.x.x2, .int .u8 a.x.x3, .int .u8 a.x.x4]
theorem cells_A16 : Try.prog.cellsOf 39 = 8 := by kernel_rfl
theorem one_A16 {H : Type} {enc : TypeId × Value → H} {W : World} (n : Nat) (cs : List Value) (y : DataW H × List MemPlace) (h : DataW.trod enc Try.prog W 0 (fun _ => true) true n 39 cs = some y) : ∃ a : A16, cs = a.c := by
  obtain ⟨xs, m, _, _, hn, hl, hfs⟩ := DataW.trod_struct Try.underlying39 h
  rw [cells_A16] at hn
  obtain ⟨c0, c1, c2, c3, c4, c5, c6, c7, rfl⟩ := list8 hn
  have g0 := hfs 0 _ rfl
  have g1 := hfs 1 _ rfl
  simp [c1_int, cells_Tr] at g0 g1
  match xs, hl with
  | [y0, y1], _ =>
    simp at g0 g1
    obtain ⟨z0, e0, _, w0⟩ := DataW.trod_int Try.underlying3 g0
    obtain ⟨a, ha⟩ := one_Tr _ _ _ g1
    simp at e0
    subst e0
    exact ⟨⟨z0, a, wf_i64_of w0⟩, by simp only [A16.c]; rw [ha]⟩
theorem open_A16s {H : Type} {enc : TypeId × Value → H} {W : World} {base : Nat} {v : Value} {d : DataW H} {ps : List MemPlace}
    (hval : Value.okWide Try.prog W .any base 23 v) (h : DataW.Trod enc Try.prog W 0 (fun _ => true) true 23 v d ps) (hlt : ∀ x ∈ ps, x.block < W.heap.size) :
    ∃ l, Wide 8 A16.c W v l ∧ ((d = .nil ∧ l = []) ∨ ∃ e s, d = .slice e s ∧ e.length = l.length) :=
  open_wide Try.underlying23 cells_A16 (by decide) one_A16 hval h hlt
theorem bytes_A16 : Try.prog.bytesOf 39 = 16 := by kernel_rfl
theorem size_A16s {H : Type} {ts : List TypeId} {ds : List (DataW H)} {j : Nat} {d : DataW H} {l : List A16} (h : (DataW.weightsEach Try.prog ts ds).all (· ≤ reachBytes) = true) (ht : ts[j]? = some 23) (hd : ds[j]? = some d) (e : (d = .nil ∧ l = []) ∨ ∃ e s, d = .slice e s ∧ e.length = l.length) : l.length ≤ 8796093021952 := by
  have := size_wide h ht hd Try.underlying23 bytes_A16 e
  omega
theorem Tr.ld {w : World} {b o : Nat} {a : Tr} {ops : Array Oper} {rest : List Oper} {p : Oper} {f : Act} {Q : Exit → Act → World → Prop} (h : w.rangeAt b o a.cs) (hgd : p.guard = none) (x : Operand) (ho : p.op = .load 37 x) (hx : f.eval x = .pointer (some ⟨b, o, none⟩))
    (hh : wpList Try.prog ops Q rest (f.put p.dst (.agg a.arr)) w) : wpList Try.prog ops Q (p :: rest) f w :=
  wpList_load_mid hgd 37 x ho b o hx a.cs _ h Try.underlying37 rfl sizeT hh
end Go.Proofs.Ytlkocebgkmdeoaa
