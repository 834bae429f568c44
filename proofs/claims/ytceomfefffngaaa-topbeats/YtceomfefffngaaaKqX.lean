/- What stands while some blocks may change; rows of structs some cells of which are set; for any small seat. -/
import Derived.Test.YtceomfefffngaaaTwX
import Derived.Test.YtceomfefffngaaaWrX
namespace Go.Proofs.Ytceomfefffngaaa
open Go.RowKit
set_option linter.unusedVariables false
set_option maxRecDepth 1000000
set_option linter.unusedSimpArgs false
/-- Blocks that P does not have stand; nothing else is changed. -/
structure Kq (P : Nat → Prop) (w x : World) : Prop where
  os : x.os = w.os
  tape : x.tape = w.tape
  output : x.output = w.output
  size : w.heap.size ≤ x.heap.size
  block : ∀ k, k < w.heap.size → ¬ P k → x.heap[k]? = w.heap[k]?
section
variable {P Q : Nat → Prop} {a w x y : World}
theorem Kq.refl (P : Nat → Prop) (w : World) : Kq P w w := ⟨rfl, rfl, rfl, Nat.le_refl _, fun _ _ _ => rfl⟩
theorem Kq.trans (h : Kq P w x) (g : Kq P x y) : Kq P w y :=
  ⟨g.os.trans h.os, g.tape.trans h.tape, g.output.trans h.output, Nat.le_trans h.size g.size, fun k hk hn => (g.block k (Nat.lt_of_lt_of_le hk h.size) hn).trans (h.block k hk hn)⟩
theorem Kq.mono (h : Kq P w x) (hs : ∀ k, P k → Q k) : Kq Q w x := ⟨h.os, h.tape, h.output, h.size, fun k hk hn => h.block k hk (fun hp => hn (hs k hp))⟩
theorem Kq.of_below (h : Below w.heap.size w x) : Kq P w x := ⟨h.os, h.tape, h.output, h.size, fun k hk _ => h.block k hk⟩
theorem Kq.below {B : Nat} (h : Kq P w x) (hb : Below B a w) (hB : B ≤ w.heap.size) (hl : ∀ k, P k → B ≤ k) : Below B a x :=
  ⟨h.os.trans hb.os, h.tape.trans hb.tape, h.output.trans hb.output, Nat.le_trans hb.size h.size, fun k hk => (h.block k (by omega) (fun hm => by have := hl k hm; omega)).trans (hb.block k hk)⟩
theorem Kq.setCell (h : Kq P w x) (p : Addr) (hp : P p.block) (v : Value) : Kq P w (x.setCell p v) :=
  ⟨h.os, h.tape, h.output, by simpa [World.setCell] using h.size, fun k hk hn => (Below.heap_setCell x p v k (fun e => hn (e ▸ hp))).trans (h.block k hk hn)⟩
theorem Kq.alloc (h : Kq P w x) (o : Obj) : Kq P w (x.alloc o) := ⟨h.os, h.tape, h.output, Nat.le_trans h.size (by simp), fun k hk hn => (Below.heap_alloc _ _ _ (Nat.lt_of_lt_of_le hk h.size)).trans (h.block k hk hn)⟩
theorem Kq.drawn (h : Kq P w x) (n : Nat) : Kq P w (x.drewN n) := ⟨h.os, h.tape, h.output, h.size, h.block⟩
theorem Kq.grown {r : Option Nat} (h : Kq P w x) (g : x.grownBy y r) (hr : ∀ k, r = some k → P k ∨ w.heap.size ≤ k) : Kq P w y :=
  ⟨g.os.trans h.os, g.tape.trans h.tape, g.output.trans h.output, Nat.le_trans h.size g.size, fun k hk hn => (g.block k (Nat.lt_of_lt_of_le hk h.size) (fun e => by
    rcases hr k e.symm with h1 | h1
    · exact hn h1
    · omega)).trans (h.block k hk hn)⟩
theorem own_kq {B : Nat} {e : TypeId} {c n : Nat} {v : Value} {xs : List Value} (h : w.ownsRow B e c v n xs) (t : Kq P w x) (h1 : ∀ k, v.ownBlock = some k → ¬ P k) : x.ownsRow B e c v n xs := by
  refine ⟨h.1, ?_⟩
  rcases h.2 with hn | ⟨g, cap, cur, hv, hb, hg, rest⟩
  · exact .inl hn
  · subst hv
    exact .inr ⟨g, cap, cur, rfl, hb, (t.block g (Array.getElem?_eq_some_iff.1 hg).1 (h1 g rfl)).trans hg, rest⟩
theorem own_belowE {B : Nat} {e : TypeId} {c n : Nat} {v : Value} {xs : List Value} (h : w.ownsRow B e c v n xs) (t : Below w.heap.size w x) : x.ownsRow B e c v n xs := own_kq (P := fun _ => False) h (.of_below t) (fun _ _ h => h)
theorem own_lt2 {B : Nat} {e : TypeId} {c n : Nat} {v : Value} {xs : List Value} (h : w.ownsRow B e c v n xs) {k : Nat} (hk : v.ownBlock = some k) : B ≤ k ∧ k < w.heap.size := by
  obtain ⟨h1, cur, h2⟩ := own_of h hk
  exact ⟨h1, (Array.getElem?_eq_some_iff.1 h2).1⟩
theorem RT.kq {T c : Nat} {α : Type} {dec : α → List Value} {v : Value} {l : List α} (h : RT T c dec w v l) (t : Kq P w x) (hp : ∀ k A fr, v.ownBlock = some k → w.heap[k]? = some (.cells A T fr) → ¬ P k) : RT T c dec x v l :=
  h.same t.size (fun b A fr e h1 => t.block b (Array.getElem?_eq_some_iff.1 h1).1 (hp b A fr e h1))
theorem Bc.kq {T : TypeId} {g : Nat} {cs : Array Value} (h : Bc T g cs w) (t : Kq P w x) (h1 : ¬ P g) : Bc T g cs x := (t.block g h.lt h1).trans h
end
def setMn (A : Array Value) : Nat → List Value → Array Value
  | _, [] => A
  | o, v :: r => setMn (A.setIfInBounds o v) (o + 1) r
theorem heap_setCn (q : Nat) (T : TypeId) (z : Nat × Nat) : ∀ (vs : List Value) (o : Nat) (A : Array Value) (w : World), w.heap[q]? = some (.cells A T z) → (w.setCells q o vs).heap[q]? = some (.cells (setMn A o vs) T z)
  | [], _, _, _, h => h
  | v :: r, o, A, w, h => heap_setCn q T z r (o + 1) _ _ (by simp [World.setCell, Array.getElem?_modify, h])
theorem heap_cn_other {q k : Nat} (hk : k ≠ q) : ∀ (vs : List Value) (o : Nat) (w : World), (w.setCells q o vs).heap[k]? = w.heap[k]?
  | [], _, _ => rfl
  | v :: r, o, w => (heap_cn_other hk r (o + 1) _).trans (Below.heap_setCell w ⟨q, o, none⟩ v k hk)
theorem setMn_size : ∀ (vs : List Value) (o : Nat) (A : Array Value), (setMn A o vs).size = A.size
  | [], _, _ => rfl
  | v :: r, o, A => by rw [setMn, setMn_size r, Array.size_setIfInBounds]
theorem setMn_get : ∀ (vs : List Value) (o : Nat) (A : Array Value) (k : Nat), (setMn A o vs)[k]? = if o ≤ k ∧ k < o + vs.length ∧ k < A.size then vs[k - o]? else A[k]?
  | [], o, A, k => by rw [setMn, if_neg (by simp; omega)]
  | v :: r, o, A, k => by
    rw [setMn, setMn_get r, Array.size_setIfInBounds]
    by_cases h1 : o + 1 ≤ k ∧ k < o + 1 + r.length ∧ k < A.size
    · rw [if_pos h1, if_pos (by simp; omega)]
      rw [show k - o = (k - (o + 1)) + 1 by omega, List.getElem?_cons_succ]
    · rw [if_neg h1, Array.getElem?_setIfInBounds]
      by_cases h2 : o = k
      · subst h2
        by_cases h3 : o < A.size
        · rw [if_pos rfl, if_pos h3, if_pos (by simp; omega)]; simp
        · rw [if_pos rfl, if_neg h3, if_neg (by omega)]
          symm; rw [Array.getElem?_eq_none (by omega)]
      · rw [if_neg h2, if_neg (by simp; omega)]
theorem cn_same (b : Nat) : ∀ (vs : List Value) (o : Nat) (w : World), (w.setCells b o vs).os = w.os ∧ (w.setCells b o vs).tape = w.tape ∧ (w.setCells b o vs).output = w.output ∧ (w.setCells b o vs).heap.size = w.heap.size
  | [], _, _ => ⟨rfl, rfl, rfl, rfl⟩
  | v :: r, o, w => by
    rw [World.setCells]
    obtain ⟨h1, h2, h3, h4⟩ := cn_same b r (o + 1) (w.setCell ⟨b, o, none⟩ v)
    exact ⟨h1, h2, h3, h4.trans (by simp [World.setCell])⟩
theorem grown_cn {w x : World} {b : Nat} (h : w.grownBy x (some b)) (o : Nat) (vs : List Value) : w.grownBy (x.setCells b o vs) (some b) := by
  obtain ⟨a1, a2, a3, a4⟩ := cn_same b vs o x
  refine ⟨a1.trans h.os, a2.trans h.tape, a3.trans h.output, by rw [a4]; exact h.size, fun k hk hn => ?_⟩
  rw [heap_cn_other (fun e => hn (by rw [e]))]
  exact h.block k hk hn
/-- One element of a row of one's own becomes another one: by cells that are set in it. -/
theorem own_setW {α : Type} (D : Dec α) {x : World} {B : Nat} {e : TypeId} {g n c : Nat} {l : List α} (h : x.ownsRow B e D.c (.slice (some ⟨g, 0, none⟩) n c) l.length (flatW D l)) {k j : Nat} (hk : k < l.length) (vs : List Value) (a : α)
    (hd : ∀ i, i < D.c → (D.dec a)[i]? = if j ≤ i ∧ i < j + vs.length then vs[i - j]? else (D.dec l[k])[i]?) (hj : j + vs.length ≤ D.c) :
    (x.setCells g (k * D.c + j) vs).ownsRow B e D.c (.slice (some ⟨g, 0, none⟩) n c) (l.set k a).length (flatW D (l.set k a)) := by
  rcases h.2 with ⟨hv, _⟩ | ⟨g', cap, cur, hv, hB, hcur, h1, h2, h3, h4⟩
  · cases hv
  · injection hv with e1 e2 e3
    injection e1 with e1
    injection e1 with e1 _ _
    subst e1 e2 e3
    refine ⟨by rw [flatW_len, List.length_set], .inr ⟨g, c, setMn cur (k * D.c + j) vs, by rw [List.length_set], hB, heap_setCn g e (0, 0) vs _ _ _ hcur, by rw [List.length_set]; exact h1, h2, by rw [setMn_size]; exact h3, ?_⟩⟩
    rw [List.length_set]
    have hsz : l.length * D.c ≤ cur.size := by rw [h3]; exact Nat.mul_le_mul_right _ h1
    apply List.ext_getElem?
    intro i
    rw [List.getElem?_take]
    by_cases hi : i < l.length * D.c
    · rw [if_pos hi, Array.getElem?_toList, setMn_get]
      have hdm := Nat.div_add_mod i D.c
      rw [Nat.mul_comm] at hdm
      have hq : i / D.c < l.length := Nat.div_lt_of_lt_mul (by rw [Nat.mul_comm]; exact hi)
      have hr : i % D.c < D.c := Nat.mod_lt _ D.pos
      have g1 := flatW_get D (l.set k a) (i / D.c) (i % D.c) (by simpa using hq) hr
      have g2 := flatW_get D l (i / D.c) (i % D.c) hq hr
      rw [hdm] at g1 g2
      rw [g1]
      have hcu : cur[i]? = (flatW D l)[i]? := by
        rw [← h4, List.getElem?_take, if_pos hi]
        simp
      rw [hcu, g2]
      by_cases hqk : i / D.c = k
      · have e5 : (l.set k a)[i / D.c]'(by simpa using hq) = a := by simp [hqk]
        have e6 : l[i / D.c] = l[k] := by simp [hqk]
        rw [e5, e6, hd _ hr]
        rw [hqk] at hdm
        by_cases hc : j ≤ i % D.c ∧ i % D.c < j + vs.length
        · rw [if_pos hc, if_pos (by omega)]
          congr 1
          omega
        · rw [if_neg hc, if_neg (by omega)]
      · have e5 : (l.set k a)[i / D.c]'(by simpa using hq) = l[i / D.c] := by rw [List.getElem_set_ne (fun h => hqk h.symm)]
        rw [e5, if_neg]
        intro hc
        apply hqk
        rcases Nat.lt_trichotomy (i / D.c) k with hlt | heq | hgt
        · have := Nat.mul_le_mul_right D.c hlt
          rw [Nat.succ_mul] at this
          omega
        · exact heq
        · have := Nat.mul_le_mul_right D.c hgt
          rw [Nat.succ_mul] at this
          omega
    · rw [if_neg hi, List.getElem?_eq_none (by rw [flatW_len, List.length_set]; omega)]
theorem own_thereW {α : Type} (D : Dec α) {x : World} {B : Nat} {e : TypeId} {g n c : Nat} {l : List α} (h : x.ownsRow B e D.c (.slice (some ⟨g, 0, none⟩) n c) l.length (flatW D l)) {k : Nat} (hk : k < l.length) : x.there g (k * D.c) D.c := by
  rcases h.2 with ⟨hv, _⟩ | ⟨g', cap, cur, hv, hB, hcur, h1, h2, h3, h4⟩
  · cases hv
  · injection hv with e1 e2 e3
    injection e1 with e1
    injection e1 with e1 _ _
    subst e1 e2 e3
    intro j hj
    refine ⟨?_, Lib.frozen_of_heap hcur _⟩
    have : (k + 1) * D.c ≤ c * D.c := Nat.mul_le_mul_right _ (by omega)
    rw [Nat.succ_mul] at this
    rw [Lib.cell_of_heap hcur, Array.getElem?_eq_getElem (by omega)]
    rfl
/-- The cells of one element. -/
theorem own_getW {α : Type} (D : Dec α) {x : World} {B : Nat} {e : TypeId} {g n c : Nat} {l : List α} (h : x.ownsRow B e D.c (.slice (some ⟨g, 0, none⟩) n c) l.length (flatW D l)) {k : Nat} (hk : k < l.length) : x.rangeAt g (k * D.c) (D.dec l[k]) := by
  obtain ⟨b, off, cap, e1, _, hr⟩ := Wide.at0 (wide_of_own D h) k hk
  injection e1 with e1 _ _
  injection e1 with e1
  injection e1 with e1 e2 _
  subst e1 e2
  rw [Nat.zero_add] at hr
  exact hr
end Go.Proofs.Ytceomfefffngaaa
