/- A teller in memory; find, Register. -/
import Derived.Test.YtlkocebgkmdeoaaEmA
import Derived.Test.YtlkocebgkmdeoaaProg
import Derived.WalkSmall
import Derived.Deep.QuietTactic
import Derived.BigQuiet
import Derived.Deep.WholeRow
import Derived.Below
import Derived.Deep.RegionWith
import Derived.Deep.Cut
namespace Go.Proofs.Ytlkocebgkmdeoaa
open Go.RowKit
set_option linter.unusedVariables false
set_option maxRecDepth 1000000
set_option linter.unusedSimpArgs false
theorem ret_int {k : IntKind} {a b : Int} (h : a = b) : Ending.returned (.int k a) = .returned (.int k b) := by rw [h]
theorem ret_bool {a b : Bool} (h : a = b) : Ending.returned (.bool a) = .returned (.bool b) := by rw [h]
/-- Blocks that P does not have stand; nothing else is changed. -/
structure Kq (P : Nat → Prop) (w x : World) : Prop where
  os : x.os = w.os
  tape : x.tape = w.tape
  output : x.output = w.output
  size : w.heap.size ≤ x.heap.size
  block : ∀ k, k < w.heap.size → ¬ P k → x.heap[k]? = w.heap[k]?
section
variable {P Q : Nat → Prop} {a w x y : World}
theorem Kq.refl (P : Nat → Prop) (w : World) : Kq P w w := ⟨rfl, rfl, rfl, Nat.le_refl _, fun _ _ _ => rfl⟩
theorem Kq.trans (h : Kq P w x) (g : Kq P x y) : Kq P w y :=
  ⟨g.os.trans h.os, g.tape.trans h.tape, g.output.trans h.output, Nat.le_trans h.size g.size, fun k hk hn => (g.block k (Nat.lt_of_lt_of_le hk h.size) hn).trans (h.block k hk hn)⟩
theorem Kq.mono (h : Kq P w x) (hs : ∀ k, P k → Q k) : Kq Q w x := ⟨h.os, h.tape, h.output, h.size, fun k hk hn => h.block k hk (fun hp => hn (hs k hp))⟩
theorem Kq.of_below (h : Below w.heap.size w x) : Kq P w x := ⟨h.os, h.tape, h.output, h.size, fun k hk _ => h.block k hk⟩
theorem Kq.below {B : Nat} (h : Kq P w x) (hb : Below B a w) (hB : B ≤ w.heap.size) (hl : ∀ k, P k → B ≤ k) : Below B a x :=
  ⟨h.os.trans hb.os, h.tape.trans hb.tape, h.output.trans hb.output, Nat.le_trans hb.size h.size, fun k hk => (h.block k (by omega) (fun hm => by have := hl k hm; omega)).trans (hb.block k hk)⟩
theorem Kq.setCell (h : Kq P w x) (p : Addr) (hp : P p.block) (v : Value) : Kq P w (x.setCell p v) :=
  ⟨h.os, h.tape, h.output, by simpa [World.setCell] using h.size, fun k hk hn => (Below.heap_setCell x p v k (fun e => hn (e ▸ hp))).trans (h.block k hk hn)⟩
theorem Kq.alloc (h : Kq P w x) (o : Obj) : Kq P w (x.alloc o) := ⟨h.os, h.tape, h.output, Nat.le_trans h.size (by simp), fun k hk hn => (Below.heap_alloc _ _ _ (Nat.lt_of_lt_of_le hk h.size)).trans (h.block k hk hn)⟩
theorem Kq.drawn (h : Kq P w x) (n : Nat) : Kq P w (x.drewN n) := ⟨h.os, h.tape, h.output, h.size, h.block⟩
theorem Kq.grown {r : Option Nat} (h : Kq P w x) (g : x.grownBy y r) (hr : ∀ k, r = some k → P k) : Kq P w y :=
  ⟨g.os.trans h.os, g.tape.trans h.tape, g.output.trans h.output, Nat.le_trans h.size g.size, fun k hk hn => (g.block k (Nat.lt_of_lt_of_le hk h.size) (fun e => hn (hr k e.symm))).trans (h.block k hk hn)⟩
theorem below_drawn {B : Nat} (h : Below B w x) (m : Nat) : Below B w (x.drewN m) := ⟨h.os, h.tape, h.output, h.size, h.block⟩
theorem own_kq {B : Nat} {e : TypeId} {c n : Nat} {v : Value} {xs : List Value} (h : w.ownsRow B e c v n xs) (t : Kq P w x) (h1 : ∀ k, v.ownBlock = some k → ¬ P k) : x.ownsRow B e c v n xs := by
  refine ⟨h.1, ?_⟩
  rcases h.2 with hn | ⟨g, cap, cur, hv, hb, hg, rest⟩
  · exact .inl hn
  · subst hv
    exact .inr ⟨g, cap, cur, rfl, hb, (t.block g (Array.getElem?_eq_some_iff.1 hg).1 (h1 g rfl)).trans hg, rest⟩
theorem own_belowE {B : Nat} {e : TypeId} {c n : Nat} {v : Value} {xs : List Value} (h : w.ownsRow B e c v n xs) (t : Below w.heap.size w x) : x.ownsRow B e c v n xs := own_kq (P := fun _ => False) h (.of_below t) (fun _ _ h => h)
theorem own_lt2 {B : Nat} {e : TypeId} {c n : Nat} {v : Value} {xs : List Value} (h : w.ownsRow B e c v n xs) {k : Nat} (hk : v.ownBlock = some k) : B ≤ k ∧ k < w.heap.size := by
  obtain ⟨h1, cur, h2⟩ := own_of h hk
  exact ⟨h1, (Array.getElem?_eq_some_iff.1 h2).1⟩
end
/-- A block of cells. -/
def Bc (T : TypeId) (g : Nat) (cs : Array Value) (w : World) : Prop := w.heap[g]? = some (.cells cs T (0, 0))
section
variable {T : TypeId} {g : Nat} {cs : Array Value} {w : World}
theorem Bc.lt (h : Bc T g cs w) : g < w.heap.size := (Array.getElem?_eq_some_iff.1 h).1
theorem Bc.drawn (h : Bc T g cs w) (n : Nat) : Bc T g cs (w.drewN n) := h
theorem Bc.cell (h : Bc T g cs w) (k : Nat) : w.cell? ⟨g, k, none⟩ = cs[k]? := Lib.cell_of_heap h k
theorem Bc.frozen (h : Bc T g cs w) (k : Nat) : w.frozen? ⟨g, k, none⟩ = false := Lib.frozen_of_heap h k
theorem Bc.set (h : Bc T g cs w) (k : Nat) (v : Value) : Bc T g (cs.setIfInBounds k v) (w.setCell ⟨g, k, none⟩ v) := by
  unfold Bc at *
  simp [World.setCell, Array.getElem?_modify, h]
theorem Bc.kq {P : Nat → Prop} {w' : World} (h : Bc T g cs w) (t : Kq P w w') (h1 : ¬ P g) : Bc T g cs w' := (t.block g h.lt h1).trans h
theorem Bc.below {w' : World} (h : Bc T g cs w) (t : Below w.heap.size w w') : Bc T g cs w' := (t.block g h.lt).trans h
theorem Bc.alloc (h : Bc T g cs w) (o : Obj) : Bc T g cs (w.alloc o) := (Below.heap_alloc w o g h.lt).trans h
end
/-- The program's teller in block g; its blocks are P's. -/
structure Ptv (g : Nat) (P : Nat → Prop) (s : Te) (vn vp vw : Value) (w : World) : Prop where
  blk : Bc 55 g #[.int .i64 s.hist, .int .u64 s.inh, vn, vp, vw, .int .u64 s.quiet] w
  rn : w.ownsRow 0 37 7 vn s.now.length (flatW DT s.now)
  rp : w.ownsRow 0 37 7 vp s.past.length (flatW DT s.past)
  rw : w.ownsRow 0 42 8 vw s.waits.length (flatW DF s.waits)
  pg : P g
  bn : ∀ k, vn.ownBlock = some k → P k ∧ k ≠ g ∧ vp.ownBlock ≠ some k ∧ vw.ownBlock ≠ some k
  bp : ∀ k, vp.ownBlock = some k → P k ∧ k ≠ g ∧ vw.ownBlock ≠ some k
  bw : ∀ k, vw.ownBlock = some k → P k ∧ k ≠ g
  ok : s.Ok
def Pt (g : Nat) (P : Nat → Prop) (s : Te) (w : World) : Prop := ∃ vn vp vw, Ptv g P s vn vp vw w
section
variable {g : Nat} {P Q : Nat → Prop} {s : Te} {vn vp vw : Value} {w x : World}
theorem Ptv.cells (h : Ptv g P s vn vp vw w) : w.cell? ⟨g, 0, none⟩ = some (.int .i64 s.hist) ∧ w.cell? ⟨g, 1, none⟩ = some (.int .u64 s.inh) ∧ w.cell? ⟨g, 2, none⟩ = some vn ∧ w.cell? ⟨g, 3, none⟩ = some vp ∧ w.cell? ⟨g, 4, none⟩ = some vw ∧ w.cell? ⟨g, 5, none⟩ = some (.int .u64 s.quiet) ∧ ∀ k, w.frozen? ⟨g, k, none⟩ = false :=
  ⟨h.blk.cell 0, h.blk.cell 1, h.blk.cell 2, h.blk.cell 3, h.blk.cell 4, h.blk.cell 5, fun k => h.blk.frozen k⟩
theorem Ptv.kq (h : Ptv g P s vn vp vw w) (t : Kq Q w x) (hd : ∀ k, P k → k < w.heap.size → ¬ Q k) : Ptv g P s vn vp vw x :=
  ⟨h.blk.kq t (hd g h.pg h.blk.lt), own_kq h.rn t (fun k e => hd k (h.bn k e).1 (own_lt2 h.rn e).2), own_kq h.rp t (fun k e => hd k (h.bp k e).1 (own_lt2 h.rp e).2), own_kq h.rw t (fun k e => hd k (h.bw k e).1 (own_lt2 h.rw e).2), h.pg, h.bn, h.bp, h.bw, h.ok⟩
theorem Ptv.below (h : Ptv g P s vn vp vw w) (t : Below w.heap.size w x) : Ptv g P s vn vp vw x := h.kq (Q := fun _ => False) (.of_below t) (fun _ _ _ h => h)
theorem Pt.kq (h : Pt g P s w) (t : Kq Q w x) (hd : ∀ k, P k → k < w.heap.size → ¬ Q k) : Pt g P s x := by
  obtain ⟨vn, vp, vw, h⟩ := h
  exact ⟨vn, vp, vw, h.kq t hd⟩
theorem Pt.below (h : Pt g P s w) (t : Below w.heap.size w x) : Pt g P s x := h.kq (Q := fun _ => False) (.of_below t) (fun _ _ _ h => h)
theorem Pt.wide (h : Pt g P s w) (hR : ∀ k, k < w.heap.size → P k → Q k) : Pt g Q s w := by
  obtain ⟨vn, vp, vw, h⟩ := h
  exact ⟨vn, vp, vw, h.blk, h.rn, h.rp, h.rw, hR g h.blk.lt h.pg, fun k e => ⟨hR k (own_lt2 h.rn e).2 (h.bn k e).1, (h.bn k e).2⟩, fun k e => ⟨hR k (own_lt2 h.rp e).2 (h.bp k e).1, (h.bp k e).2⟩, fun k e => ⟨hR k (own_lt2 h.rw e).2 (h.bw k e).1, (h.bw k e).2⟩, h.ok⟩
theorem Ptv.now (h : Ptv g P s vn vp vw w) : Wide 7 Tr.cs w vn s.now := wide_of_own DT h.rn
end
theorem find1_any (x : Tr) (q c : Nat) (w : World) (hq : w.cell? ⟨q, 0, none⟩ = some (.int .u16 c)) (hlt : q < w.heap.size) : Calls Try.prog 35 #[.agg x.arr, .pointer (some ⟨q, 0, none⟩)] w fun e w' => e = .returned (.bool (decide (x.c = c))) ∧ Below w.heap.size w w' := by
  obtain ⟨p, hp⟩ : ∃ p, w.heap.size = p := ⟨_, rfl⟩
  obtain ⟨W, hW⟩ : ∃ x', w.alloc (.cells x.arr 37) = x' := ⟨_, rfl⟩
  have B : Bc 37 p x.arr W := by rw [← hW, ← hp]; exact heap_alloc_new w _
  have hb : Below w.heap.size w W := by rw [← hW]; exact (Below.refl _ _).alloc (Nat.le_refl _) _
  have HB := hidOf2 hb
  have c0 : W.cell? ⟨p, 0, none⟩ = some (.int .u16 x.c) := B.cell 0
  have c1 : W.cell? ⟨q, 0, none⟩ = some (.int .u16 c) := (hb.cell (p := ⟨q, 0, none⟩) hlt).trans hq
  have hd : decide (x.c = c) = ((x.c : Int) == (c : Int)) := by
    rw [Bool.eq_iff_iff]
    simp only [decide_eq_true_eq, beq_iff_eq]
    omega
  rw [hd]
  rw [hp] at HB
  generalize x.c = X at *
  generalize x.arr = A at *
  clear B hb hd hlt hq
  go_enter Try.func35, Try.ntmps35
  go_wp2
  go_ret
  exact ⟨rfl, by rw [hp]; exact HB.out⟩
end Go.Proofs.Ytlkocebgkmdeoaa
