/- Slices of senders and of flips that came in, opened. -/
import Derived.Test.YtjblekemmcmblaaOpenFs
import Derived.Test.YtjblekemmcmblaaRnd2
namespace Go.Proofs.Ytjblekemmcmblaa
open Go.ChangeShapes Go.WideShapes Go.ChangeAt Go.RowKit Go.Proofs.Bits
set_option linter.unusedVariables false
set_option maxRecDepth 1000000

theorem cellsSe : Try.prog.cellsOf 40 = 14 := by kernel_rfl
theorem cellsFl : Try.prog.cellsOf 57 = 2 := by kernel_rfl
theorem bytesSe : Try.prog.bytesOf 40 = 32 := by kernel_rfl
theorem bytesFl : Try.prog.bytesOf 57 = 16 := by kernel_rfl
theorem list14 {l : List Value} (h : l.length = 14) : ∃ a b r, l = a :: b :: r ∧ r.length = 12 := by
  match l, h with
  | a :: b :: r, h => exact ⟨a, b, r, rfl, by simpa using h⟩
theorem list2 {l : List Value} (h : l.length = 2) : ∃ a b, l = [a, b] := by
  match l, h with
  | [a, b], _ => exact ⟨a, b, rfl⟩
theorem one_sender {H : Type} {enc : TypeId × Value → H} {W : World} (n : Nat) (cs : List Value) (y : DataW H × List MemPlace) (h : DataW.trod enc Try.prog W 0 (fun _ => true) true n 40 cs = some y) : ∃ s : Se, cs = s.cells := by
  obtain ⟨xs, m, _, _, hn, hl, hfs⟩ := DataW.trod_struct Try.underlying40 h
  rw [cellsSe] at hn
  obtain ⟨a, b, r, rfl, hr⟩ := list14 hn
  have g0 := hfs 0 _ rfl
  have g1 := hfs 1 _ rfl
  have g2 := hfs 2 _ rfl
  simp [cells1bool, cellsF12] at g0 g1 g2
  match xs, hl with
  | [y0, y1, y2], _ =>
    simp at g0 g1 g2
    rw [List.take_of_length_le (by omega)] at g2
    obtain ⟨x, e0, _⟩ := DataW.trod_bool Try.underlying4 g0
    obtain ⟨z, e1, _⟩ := DataW.trod_bool Try.underlying4 g1
    obtain ⟨f, rfl⟩ := one_frame _ _ _ g2
    simp at e0 e1
    subst e0 e1
    exact ⟨⟨x, z, f⟩, rfl⟩
theorem one_flip {H : Type} {enc : TypeId × Value → H} {W : World} (n : Nat) (cs : List Value) (y : DataW H × List MemPlace) (h : DataW.trod enc Try.prog W 0 (fun _ => true) true n 57 cs = some y) : ∃ f : Fl, cs = f.cells := by
  obtain ⟨xs, m, _, _, hn, hl, hfs⟩ := DataW.trod_struct Try.underlying57 h
  rw [cellsFl] at hn
  obtain ⟨a, b, rfl⟩ := list2 hn
  have g0 := hfs 0 _ rfl
  have g1 := hfs 1 _ rfl
  simp [cells1int] at g0 g1
  match xs, hl with
  | [y0, y1], _ =>
    simp at g0 g1
    obtain ⟨x, e0, _, w0⟩ := DataW.trod_int Try.underlying3 g0
    obtain ⟨z, e1, _, w1⟩ := DataW.trod_int Try.underlying3 g1
    simp at e0 e1
    subst e0 e1
    exact ⟨⟨x, z, wf_i64_of w0, wf_i64_of w1⟩, rfl⟩
theorem open_senders {H : Type} {enc : TypeId × Value → H} {W : World} {base : Nat} {v : Value} {d : DataW H} {ps : List MemPlace}
    (hval : Value.okWide Try.prog W .any base 22 v) (h : DataW.Trod enc Try.prog W 0 (fun _ => true) true 22 v d ps) (hlt : ∀ x ∈ ps, x.block < W.heap.size) :
    ∃ l, Senders W v l ∧ ((d = .nil ∧ l = []) ∨ ∃ e s, d = .slice e s ∧ e.length = l.length) :=
  open_wide Try.underlying22 cellsSe (by decide) one_sender hval h hlt
theorem size_senders {H : Type} {ts : List TypeId} {ds : List (DataW H)} {j : Nat} {d : DataW H} {l : List Se} (h : (DataW.weightsEach Try.prog ts ds).all (· ≤ reachBytes) = true) (ht : ts[j]? = some 22) (hd : ds[j]? = some d) (e : (d = .nil ∧ l = []) ∨ ∃ e s, d = .slice e s ∧ e.length = l.length) : l.length * 32 ≤ 140737488351232 :=
  size_wide h ht hd Try.underlying22 bytesSe e
theorem open_flips {H : Type} {enc : TypeId × Value → H} {W : World} {base : Nat} {v : Value} {d : DataW H} {ps : List MemPlace}
    (hval : Value.okWide Try.prog W .any base 23 v) (h : DataW.Trod enc Try.prog W 0 (fun _ => true) true 23 v d ps) (hlt : ∀ x ∈ ps, x.block < W.heap.size) :
    ∃ l, Flips W v l ∧ ((d = .nil ∧ l = []) ∨ ∃ e s, d = .slice e s ∧ e.length = l.length) :=
  open_wide Try.underlying23 cellsFl (by decide) one_flip hval h hlt
theorem size_flips {H : Type} {ts : List TypeId} {ds : List (DataW H)} {j : Nat} {d : DataW H} {l : List Fl} (h : (DataW.weightsEach Try.prog ts ds).all (· ≤ reachBytes) = true) (ht : ts[j]? = some 23) (hd : ds[j]? = some d) (e : (d = .nil ∧ l = []) ∨ ∃ e s, d = .slice e s ∧ e.length = l.length) : l.length * 16 ≤ 140737488351232 :=
  size_wide h ht hd Try.underlying23 bytesFl e
end Go.Proofs.Ytjblekemmcmblaa
