/- A watcher that the call made, in a world of its own. -/
import Derived.Test.YtceomfefffngaaaBwH
namespace Go.Proofs.Ytceomfefffngaaa
open Go.RowKit
set_option linter.unusedVariables false
set_option maxRecDepth 1000000
set_option linter.unusedSimpArgs false
structure Lw (w : World) (p g : Nat) (v : Value) (l : List Wt) (x : World) : Prop where
  wa : Wa g v l x
  ok : OkW l
  hv : ∀ k, v.ownBlock = some k → p ≤ k
  hg : p ≤ g
  bl : Below p w x
  sz : p ≤ x.heap.size
section
variable {p g : Nat} {v : Value} {l : List Wt} {w x y : World}
theorem Lw.below (h : Lw w p g v l x) (t : Below x.heap.size x y) : Lw w p g v l y :=
  ⟨h.wa.below t, h.ok, h.hv, h.hg, below_low h.bl t h.sz, Nat.le_trans h.sz t.size⟩
theorem Lw.alloc (h : Lw w p g v l x) (o : Obj) : Lw w p g v l (x.alloc o) := h.below ((Below.refl _ _).alloc (Nat.le_refl _) _)
theorem Lw.drawn (h : Lw w p g v l x) (n : Nat) : Lw w p g v l (x.drewN n) := ⟨h.wa.drawn n, h.ok, h.hv, h.hg, below_drawn h.bl n, h.sz⟩
theorem Lw.grown (h : Lw w p g v l x) {r : Option Nat} (t : x.grownBy y r) (h0 : ∀ k, r = some k → p ≤ k) (h1 : r ≠ some g) (h2 : ∀ k, v.ownBlock = some k → r ≠ some k) : Lw w p g v l y :=
  ⟨h.wa.grown t h1 h2, h.ok, h.hv, h.hg, below_of_grown h.bl t h.sz h0, Nat.le_trans h.sz t.size⟩
theorem Lw.lt (h : Lw w p g v l x) : g < x.heap.size := h.wa.blk.lt
theorem Lw.take (h : Lw w p g v l x) (nd : Int) (bv : Value) (b : List UInt8) (hB : Bytes x bv b) : Calls Try.prog 15 #[.pointer (some ⟨g, 0, none⟩), .int .i64 nd, bv] x fun e y =>
    ∃ ao cap, e = .returned (.tuple #[.slice ao (saysW l nd b).length cap, .bool (okW l nd b)]) ∧ Nw x.heap.size (.slice ao (saysW l nd b).length cap) (saysW l nd b) y ∧ Lw w p g v (takeW l nd b) y ∧ x.grownBy y v.ownBlock := by
  refine (take_any h.wa h.ok nd bv b hB).mono ?_
  rintro e y ⟨r, rfl, nv, rfl, N, W, G⟩
  obtain ⟨ao, cap, rfl⟩ := N.shape
  exact ⟨ao, cap, rfl, N, ⟨W, h.ok.take nd b, h.hv, h.hg, below_of_grown h.bl G h.sz h.hv, Nat.le_trans h.sz G.size⟩, G⟩
theorem Lw.tick (h : Lw w p g v l x) : Calls Try.prog 17 #[.pointer (some ⟨g, 0, none⟩)] x fun e y =>
    ∃ ao cap, e = .returned (.slice ao (tellsW l).length cap) ∧ Nw x.heap.size (.slice ao (tellsW l).length cap) (tellsW l) y ∧ Lw w p g v (tickW l) y ∧ x.grownBy y v.ownBlock := by
  refine (tick_any h.wa h.ok).mono ?_
  rintro e y ⟨nv, rfl, N, W, G⟩
  obtain ⟨ao, cap, rfl⟩ := N.shape
  exact ⟨ao, cap, rfl, N, ⟨W, h.ok.tick, h.hv, h.hg, below_of_grown h.bl G h.sz h.hv, Nat.le_trans h.sz G.size⟩, G⟩
theorem Lw.state (h : Lw w p g v l x) (nd : Int) : Calls Try.prog 27 #[.pointer (some ⟨g, 0, none⟩), .int .i64 nd] x fun e y =>
    e = .returned (.tuple #[.int .i64 (stW l nd), .bool (isW l nd)]) ∧ Lw w p g v l y ∧ Below x.heap.size x y := by
  refine (state_any h.wa h.ok nd).mono ?_
  rintro e y ⟨rfl, B⟩
  exact ⟨rfl, h.below B, B⟩
theorem Lw.lost (h : Lw w p g v l x) : Calls Try.prog 21 #[.pointer (some ⟨g, 0, none⟩)] x fun e y =>
    ∃ ao cap, e = .returned (.slice ao (lostW l).length cap) ∧ Ir x.heap.size (.slice ao (lostW l).length cap) ((lostW l).mergeSort fun x y => decide (x ≤ y)) y ∧ Lw w p g v l y ∧ Below x.heap.size x y := by
  refine (lost_any h.wa h.ok).mono ?_
  rintro e y ⟨nv, rfl, N, B⟩
  obtain ⟨ao, cap, rfl⟩ := own_shape5 N
  rw [List.length_mergeSort] at N ⊢
  exact ⟨ao, cap, rfl, N, h.below B, B⟩
/-- A watcher of one node. -/
theorem Lw.one (n : Int) (t : Nat) (h1 : 1 ≤ n) (h2 : n ≤ 127) (h3 : 1 ≤ t) (h4 : t ≤ 4294967296) (w x : World) (p : Nat) (hb : Below p w x) (hp : p ≤ x.heap.size) (q : Value) (hQ : Wide 2 Wq.qs x q [⟨n, t⟩]) :
    Calls Try.prog 13 #[q] x fun e y => ∃ v, e = .returned (.tuple #[.pointer (some ⟨x.heap.size, 0, none⟩), .int .i64 0]) ∧ Lw w p x.heap.size v [⟨n, t, 0, 0, 0⟩] y ∧ (∀ k, v.ownBlock = some k → x.heap.size ≤ k) ∧ Below x.heap.size x y := by
  refine (neww_any q [⟨n, t⟩] x hQ (by simp)).mono ?_
  rintro e y ⟨r, rfl, hr, b2⟩
  obtain ⟨h0, hO⟩ := one_ok n t h1 h2 h3 h4
  unfold NwW at hr
  rw [if_pos h0] at hr
  obtain ⟨v, rfl, W2, hv⟩ := hr
  exact ⟨v, rfl, ⟨W2, hO, fun k hk => Nat.le_trans hp (hv k hk), hp, below_low hb b2 hp, Nat.le_trans hp b2.size⟩, hv, b2⟩
end
end Go.Proofs.Ytceomfefffngaaa
