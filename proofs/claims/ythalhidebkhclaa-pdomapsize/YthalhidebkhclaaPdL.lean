/- Contracts: Unpack, where it is refused. -/
import Derived.Test.YthalhidebkhclaaPdK
namespace Go.Proofs.Ythalhidebkhclaa
open Go.RowKit Go.Shelf Go.Proofs.Ty
set_option linter.unusedVariables false
set_option maxRecDepth 1000000
set_option linter.unusedSimpArgs false
attribute [local go_sem] Oper.semAt_some
/-- The bytes of slot k. -/
def pcL (L : List Sl) (l : List UInt8) (k : Nat) : List UInt8 := (l.drop (off L k)).take (off L (k + 1) - off L k)
/-- What is there when the first k are written. -/
def wrN (its : List Im) (L : List Sl) (l : List UInt8) : Nat → List Im
  | 0 => its
  | k + 1 => wrt (wrN its L l k) (L.getD k Sl.nul).ix (L.getD k Sl.nul).sb (pcL L l k)
/-- Two boxes: the dictionary's, and the result's. -/
structure Up (w : World) (q D : Nat) (c : Int) (W : World) : Prop where
  b0 : W.heap[q]? = some (.cells #[.pointer (some ⟨D, 0, none⟩)] 31 (0, 0))
  b1 : W.heap[q + 1]? = some (.cells #[.int .i64 c] 29 (0, 0))
  old : Below w.heap.size w W
theorem Up.start (w : World) (D : Nat) : Up w w.heap.size D 0 ((w.alloc (.cells #[.pointer (some ⟨D, 0, none⟩)] 31)).alloc (.cells #[.int .i64 0] 29)) := by
  have b1 : Below w.heap.size w (w.alloc (.cells #[.pointer (some ⟨D, 0, none⟩)] 31)) := (Below.refl _ w).alloc (Nat.le_refl _) _
  refine ⟨?_, ?_, b1.alloc b1.size _⟩
  · exact (Lib.alloc_old _ _ _ (by rw [size_alloc]; omega)).trans (heap_alloc_new w _)
  · have := heap_alloc_new (w.alloc (.cells #[.pointer (some ⟨D, 0, none⟩)] 31)) (.cells #[.int .i64 0] 29)
    rwa [size_alloc] at this
theorem Up.below {w A W : World} {q D : Nat} {c : Int} (h : Up w q D c A) (hb : Below A.heap.size A W) : Up w q D c W :=
  ⟨(hb.block q (Array.getElem?_eq_some_iff.1 h.b0).1).trans h.b0, (hb.block _ (Array.getElem?_eq_some_iff.1 h.b1).1).trans h.b1, h.old.trans (hb.mono h.old.size)⟩
theorem Up.set {w W : World} {q D : Nat} {c : Int} (h : Up w q D c W) (hq : w.heap.size ≤ q) (d : Int) : Up w q D d (W.setCell ⟨q + 1, 0, none⟩ (.int .i64 d)) := by
  refine ⟨(Below.heap_setCell W ⟨q + 1, 0, none⟩ _ q (by show q ≠ q + 1; omega)).trans h.b0, ?_, (Kp.cell1 W (q + 1) 0 _).below h.old h.old.size (fun b hb => by simp at hb; omega)⟩
  simp only [World.setCell, Array.getElem?_modify, h.b1]
  simp
theorem Up.c {w W : World} {q D : Nat} {c : Int} (h : Up w q D c W) : W.cell? ⟨q + 1, 0, none⟩ = some (.int .i64 c) := Lib.cell_of_heap h.b1 0
set_option maxRecDepth 100000 in
set_option maxHeartbeats 8000000 in
theorem pdUnpack_bad {D R : Nat} {its : List Im} {w : World} (h : Dct D R its w) (v : Value) (L : List Sl) (hWd : Wide 3 slC w v L) (hL : L.length ≤ 8796093022000) (vb : Value) (l : List UInt8) (hB : Bytes w vb l) (hc : ckC its true L ≠ 0) :
    Calls Try.prog 8 #[.pointer (some ⟨D, 0, none⟩), v, vb] w fun e w' => e = .returned (.int .i64 1) ∧ Below w.heap.size w w' := by
  obtain ⟨ao, cap, hv⟩ := hWd.shape
  obtain ⟨ab, cb, rfl, _⟩ := hB
  obtain ⟨N, hN⟩ : ∃ N, L.length = N := ⟨_, rfl⟩
  rw [hN] at hv
  subst hv
  obtain ⟨q, hq⟩ : ∃ q, w.heap.size = q := ⟨_, rfl⟩
  have HU0 := Up.start w D
  obtain ⟨w1, hw1⟩ : ∃ x, w.alloc (.cells #[.pointer (some ⟨D, 0, none⟩)] 31) = x := ⟨_, rfl⟩
  obtain ⟨w2, hw2⟩ : ∃ x, w1.alloc (.cells #[.int .i64 0] 29) = x := ⟨_, rfl⟩
  rw [hw1, hw2, hq] at HU0
  have s1 : w1.heap.size = q + 1 := by rw [← hw1, size_alloc, hq]
  have b1 : Below w.heap.size w w2 := HU0.old
  have c1 : w2.cell? ⟨q, 0, none⟩ = some (.pointer (some ⟨D, 0, none⟩)) := Lib.cell_of_heap HU0.b0 0
  have hCk := pdCheck_any (h.below b1) (.slice ao N cap) L (hWd.same b1.size (fun b _ hl => b1.block b hl)) hL true
  obtain ⟨cc, hcc⟩ : ∃ c, ckC its true L = c := ⟨_, rfl⟩
  rw [hcc] at hCk hc
  have d1 : ((cc : Int) != 0) = true := by simp; omega
  have HU := hidOf HU0
  clear hcc h hWd b1 hN HU0
  refine (callsIn_wide (n := 4)).1 ?_
  refine callsIn_of_wp_marks Try.func8 rfl trivial ?_ rfl
  simp only [Try.ntmps8, List.size_toArray, List.length_cons, List.length_nil, Nat.reduceAdd, Nat.reduceSub, Array.replicate_succ, Array.replicate_zero, List.push_toArray, List.append_toArray, List.nil_append, List.cons_append]
  gi_wp2_with (refine ⟨trivial, ?_⟩; gi_at_call 18; refine (callsIn_wide.2 hCk).mono ?_; rintro e X3 ⟨rfl, b3⟩; have HU3 := hidOf (HU.out.below b3); have c3 := HU3.out.c; have f3 : X3.frozen? ⟨q + 1, 0, none⟩ = false := Lib.frozen_of_heap HU3.out.b1 0; clear b3)
  have hr := HU3.out.set (by omega) 1
  have c9 := hr.c
  exact ⟨.int .i64 1, by simp [results, Try.results8, asAddr, go_sem, run_underlying Try.underlying29, c9], rfl, hr.old⟩
set_option maxRecDepth 100000 in
set_option maxHeartbeats 8000000 in
theorem pdUnpack_short {D R : Nat} {its : List Im} {w : World} (h : Dct D R its w) (v : Value) (L : List Sl) (hWd : Wide 3 slC w v L) (hL : L.length ≤ 8796093022000) (vb : Value) (l : List UInt8) (hB : Bytes w vb l) (hl : l.length < 9223372036854775808) (hc : ckC its true L = 0) (hs : l.length < szC L) :
    Calls Try.prog 8 #[.pointer (some ⟨D, 0, none⟩), v, vb] w fun e w' => e = .returned (.int .i64 3) ∧ Below w.heap.size w w' := by
  obtain ⟨ao, cap, hv⟩ := hWd.shape
  obtain ⟨ab, cb, rfl, _⟩ := hB
  obtain ⟨N, hN⟩ : ∃ N, L.length = N := ⟨_, rfl⟩
  rw [hN] at hv
  subst hv
  obtain ⟨q, hq⟩ : ∃ q, w.heap.size = q := ⟨_, rfl⟩
  have HU0 := Up.start w D
  obtain ⟨w1, hw1⟩ : ∃ x, w.alloc (.cells #[.pointer (some ⟨D, 0, none⟩)] 31) = x := ⟨_, rfl⟩
  obtain ⟨w2, hw2⟩ : ∃ x, w1.alloc (.cells #[.int .i64 0] 29) = x := ⟨_, rfl⟩
  rw [hw1, hw2, hq] at HU0
  have s1 : w1.heap.size = q + 1 := by rw [← hw1, size_alloc, hq]
  have b1 : Below w.heap.size w w2 := HU0.old
  have c1 : w2.cell? ⟨q, 0, none⟩ = some (.pointer (some ⟨D, 0, none⟩)) := Lib.cell_of_heap HU0.b0 0
  have hCk := pdCheck_any (h.below b1) (.slice ao N cap) L (hWd.same b1.size (fun b _ hl => b1.block b hl)) hL true
  rw [hc] at hCk
  have HSZ : Hid (∀ X, Below w.heap.size w X → Calls Try.prog 14 #[.slice ao N cap] X fun e w' => e = .returned (.int .i64 (szC L : Nat)) ∧ Below X.heap.size X w') := fun X hX => pdSize_any (.slice ao N cap) L (hWd.same hX.size (fun b _ hl => hX.block b hl)) hL
  have HU := hidOf HU0
  obtain ⟨m, hm1⟩ : ∃ m, szC L = m := ⟨_, rfl⟩
  obtain ⟨n, hn1⟩ : ∃ n, l.length = n := ⟨_, rfl⟩
  rw [hm1, hn1] at hs
  have HM := hidOf hm1
  have d2 : decide ((n : Int) < (m : Int)) = true := by simp; omega
  rw [hn1]
  clear h hWd b1 hN HU0 hc hm1 hn1 hl
  refine (callsIn_wide (n := 4)).1 ?_
  refine callsIn_of_wp_marks Try.func8 rfl trivial ?_ rfl
  simp only [Try.ntmps8, List.size_toArray, List.length_cons, List.length_nil, Nat.reduceAdd, Nat.reduceSub, Array.replicate_succ, Array.replicate_zero, List.push_toArray, List.append_toArray, List.nil_append, List.cons_append]
  gi_wp2_with (refine ⟨trivial, ?_⟩; first | (gi_at_call 18; refine (callsIn_wide.2 hCk).mono ?_; rintro e X3 ⟨rfl, b3⟩; have HU3 := hidOf (HU.out.below b3); have hS3 := HSZ.out X3 HU3.out.old; clear b3) | (gi_at_call 14; refine (callsIn_wide.2 hS3).mono ?_; rw [HM.out]; rintro e X4 ⟨rfl, b4⟩; have HU4 := hidOf (HU3.out.below b4); have c3 := HU4.out.c; have f3 : X4.frozen? ⟨q + 1, 0, none⟩ = false := Lib.frozen_of_heap HU4.out.b1 0; clear b4))
  have hr := HU4.out.set (by omega) 3
  have c9 := hr.c
  exact ⟨.int .i64 3, by simp [results, Try.results8, asAddr, go_sem, run_underlying Try.underlying29, c9], rfl, hr.old⟩
end Go.Proofs.Ythalhidebkhclaa
