/- The law BeatApart returns true whatever comes in. -/
import Derived.Test.YtceomfefffngaaaBwJ
namespace Go.Proofs.Ytceomfefffngaaa
open Go.RowKit
set_option linter.unusedVariables false
set_option maxRecDepth 1000000
set_option linter.unusedSimpArgs false
def Q18.q (a : Q18) : Wq := ⟨a.nd, a.tk⟩
theorem wide_wq {w : World} {v : Value} {l : List Q18} (h : Wide 2 Q18.c w v l) : Wide 2 Wq.qs w v (l.map Q18.q) := by
  obtain ⟨ao, cap, rfl, h0, hc⟩ := h
  refine ⟨ao, cap, by simp, by simpa using h0, fun k hk => ?_⟩
  obtain ⟨b, off, h1, h2, h3⟩ := hc k (by simpa using hk)
  exact ⟨b, off, h1, h2, by simpa [Q18.q, Wq.qs, Q18.c] using h3⟩
theorem by_Q18w : 16 ≤ Try.prog.bytesOf 59 := of_decide_eq_true (by kernel_rfl)
theorem size_Q18w {H : Type} {ts : List TypeId} {ds : List (DataW H)} {j : Nat} {d : DataW H} {l : List Q18} (h : (DataW.weightsEach Try.prog ts ds).all (· ≤ reachBytes) = true) (ht : ts[j]? = some 36) (hd : ds[j]? = some d) (e : (d = .nil ∧ l = []) ∨ ∃ e s, d = .slice e s ∧ e.length = l.length) : l.length ≤ 8796093021952 := by
  have := size_wide h ht hd Try.underlying36 rfl e
  have h1 := Nat.mul_le_mul_left l.length by_Q18w
  omega
theorem infoWq : (Try.prog.info? 59).map (fun i => (i.zero, i.size, i.bytes)) = some (some (.agg #[.int .i64 0, .int .u64 0]), 2, 16) := by kernel_rfl
theorem Ne.ld {w : World} {b o : Nat} {a : Ne} {ops : Array Oper} {rest : List Oper} {p : Oper} {f : Act} {Q : Exit → Act → World → Prop} (h : w.rangeAt b o a.cs) (hgd : p.guard = none) (x : Operand) (ho : p.op = .load 55 x) (hx : f.eval x = .pointer (some ⟨b, o, none⟩))
    (hh : wpList Try.prog ops Q rest (f.put p.dst (.agg a.arr)) w) : wpList Try.prog ops Q (p :: rest) f w :=
  wpList_load_mid hgd 55 x ho b o hx a.cs _ h Try.underlying55 rfl infoN1 hh
theorem exec_idxN {a : Act} {o : Oper} {s i : Operand} {b off n c k : Nat} (ho : o.op = .indexAddr 47 s i) (hs : a.eval s = .slice (some ⟨b, off, none⟩) n c) (hi : a.eval i = .int .i64 (k : Int)) (hk : k < n) (w : World) : (execOp a.eval o).run Try.prog w = .ok (.value (.pointer (some ⟨b, off + k * 3, none⟩))) w := by
  have h1 : (0 : Int) ≤ (k : Int) := by omega
  have h2 : (k : Int) < (n : Int) := by omega
  obtain ⟨i0, hi0, hz1⟩ : ∃ i0, Try.prog.info? 55 = some i0 ∧ i0.size = 3 := by
    have hsz := infoN1
    cases hh : Try.prog.info? 55 with
    | none => rw [hh] at hsz; cases hsz
    | some i0 => rw [hh] at hsz; exact ⟨i0, rfl, by simpa using hsz⟩
  unfold execOp
  simp only [ho, hs, hi]
  simp [go_sem, run_underlying Try.underlying47, sizeOf, typeInfo, hi0, hz1, h1, h2, Addr.add_mid]
theorem exec_eqI {a : Act} {o : Oper} {x y : Operand} {m n : Int} (ho : o.op = .binOp .eql 3 x y 3) (hx : a.eval x = .int .i64 m) (hy : a.eval y = .int .i64 n) (w : World) : (execOp a.eval o).run Try.prog w = .ok (.value (.bool (m == n))) w := by
  unfold execOp
  simp only [ho, hx, hy]
  simp [go_sem, run_underlying Try.underlying3]
theorem says_len (l : List Wt) (n : Int) (b : List UInt8) : (saysW l n b).length ≤ 1 := by
  unfold saysW
  split
  · split
    · split
      · unfold Wt.says
        repeat' split
        all_goals simp
      · simp
    · simp
  · simp
theorem bs0U {o : Oper} {a : Act} {w : World} {K : Act → World → Prop} {Q : Exit → Act → World → Prop} (ho : o.op = .buildSlice 32 0 #[])
    (h : K (a.put o.dst (.slice (some ⟨w.heap.size, 0, none⟩) 0 0)) (w.alloc (.cells #[] 5))) : o.wp Try.prog a w K Q := wp_bs0g Try.underlying32 info5 ho h
/-- Two watchers and a node of its own in one world. -/
structure RB (w : World) (p g : Nat) (v : Value) (g2 : Nat) (v2 : Value) (xb : Nat) (X : Int) (T : Nat) (l : List Wt) (y : Wt) (x : World) : Prop where
  a : Lw w p g v l x
  b : Lw w p g2 v2 [y] x
  c : Bc 59 xb #[.int .i64 X, .int .u64 T] x
structure DA (p g : Nat) (v : Value) (g2 : Nat) (v2 : Value) (xb : Nat) : Prop where
  h1 : v.ownBlock ≠ some g2
  h2 : ∀ k, v2.ownBlock = some k → v.ownBlock ≠ some k
  h3 : v2.ownBlock ≠ some g
  h4 : v.ownBlock ≠ some xb
  h5 : v2.ownBlock ≠ some xb
section
variable {w x wr X1 : World} {p g g2 xb : Nat} {v v2 : Value} {X : Int} {T : Nat} {l : List Wt} {y : Wt}
theorem RB.below (h : RB w p g v g2 v2 xb X T l y x) {z : World} (t : Below x.heap.size x z) : RB w p g v g2 v2 xb X T l y z := ⟨h.a.below t, h.b.below t, h.c.below t⟩
theorem RB.drawn (h : RB w p g v g2 v2 xb X T l y x) (n : Nat) : RB w p g v g2 v2 xb X T l y (x.drewN n) := ⟨h.a.drawn n, h.b.drawn n, h.c⟩
theorem RB.one (D : DA p g v g2 v2 xb) (h : RB w p g v g2 v2 xb X T l y x) {z : World} {l' : List Wt} (a : Lw w p g v l' z) (t : x.grownBy z v.ownBlock) : RB w p g v g2 v2 xb X T l' y z :=
  ⟨a, h.b.grown t h.a.hv D.h1 D.h2, h.c.grown18 t D.h4⟩
theorem RB.two (D : DA p g v g2 v2 xb) (h : RB w p g v g2 v2 xb X T l y x) {z : World} {y' : Wt} (b : Lw w p g2 v2 [y'] z) (t : x.grownBy z v2.ownBlock) : RB w p g v g2 v2 xb X T l y' z :=
  ⟨h.a.grown t h.b.hv D.h3 (fun k hk e => D.h2 k e hk), b, h.c.grown18 t D.h5⟩
theorem Lw.keep (h : Lw w p g v l x) {z : World} (t : x.grownBy z v.ownBlock) {B : Nat} {nv : Value} {ns : List Ne} (hN : Nw B nv ns x) : Nw B nv ns z :=
  hN.grown t (fun k hk e => (hN.apart h.wa).2 k e hk)
theorem RB.tick1 (D : DA p g v g2 v2 xb) (h : RB w p g v g2 v2 xb X T l y x) : Calls Try.prog 17 #[.pointer (some ⟨g, 0, none⟩)] x fun e z => ∃ ao cap, e = .returned (.slice ao (tellsW l).length cap) ∧ Nw x.heap.size (.slice ao (tellsW l).length cap) (tellsW l) z ∧ RB w p g v g2 v2 xb X T (tickW l) y z := by
  refine h.a.tick.mono ?_
  rintro e z ⟨ao, cap, rfl, N, L, G⟩
  exact ⟨ao, cap, rfl, N, h.one D L G⟩
theorem RB.tick2 (D : DA p g v g2 v2 xb) (h : RB w p g v g2 v2 xb X T l y x) {B : Nat} {nv : Value} {ns : List Ne} (hN : Nw B nv ns x) : Calls Try.prog 17 #[.pointer (some ⟨g2, 0, none⟩)] x fun e z => ∃ ao cap, e = .returned (.slice ao (tellsW [y]).length cap) ∧ Nw x.heap.size (.slice ao (tellsW [y]).length cap) (tellsW [y]) z ∧ RB w p g v g2 v2 xb X T l y.tick z ∧ Nw B nv ns z := by
  refine h.b.tick.mono ?_
  rintro e z ⟨ao, cap, rfl, N, L, G⟩
  rw [(one_tick y).1] at L
  exact ⟨ao, cap, rfl, N, h.two D L G, h.b.keep G hN⟩
theorem RB.took1 (D : DA p g v g2 v2 xb) (h : RB w p g v g2 v2 xb X T l y wr) {e0 : Nat} (hX : wr.alloc (.cells #[] 5) = X1) (he : wr.heap.size = e0) (nd : Int) (bl : List UInt8) :
    ∀ v1 w2, w2.ownsRow e0 5 1 v1 bl.length (Lib.byteCells bl) → X1.grownBy w2 (some e0) → Calls Try.prog 15 #[.pointer (some ⟨g, 0, none⟩), .int .i64 nd, v1] w2 fun e z =>
      ∃ ao cap, e = .returned (.tuple #[.slice ao (saysW l nd bl).length cap, .bool (okW l nd bl)]) ∧ Nw e0 (.slice ao (saysW l nd bl).length cap) (saysW l nd bl) z ∧ RB w p g v g2 v2 xb X T (takeW l nd bl) y z := by
  intro v1 w2 ho hg
  refine (h.a.took hX he nd bl v1 w2 ho hg).mono ?_
  rintro e z ⟨ao, cap, rfl, N, L, G⟩
  rw [he] at N
  exact ⟨ao, cap, rfl, N, h.one D L G⟩
theorem RB.took2 (D : DA p g v g2 v2 xb) (h : RB w p g v g2 v2 xb X T l y wr) {e0 : Nat} (hX : wr.alloc (.cells #[] 5) = X1) (he : wr.heap.size = e0) (hn : y.nd = X) (bl : List UInt8) {B : Nat} {nv : Value} {ns : List Ne} (hN : Nw B nv ns wr) :
    ∀ v1 w2, w2.ownsRow e0 5 1 v1 bl.length (Lib.byteCells bl) → X1.grownBy w2 (some e0) → Calls Try.prog 15 #[.pointer (some ⟨g2, 0, none⟩), .int .i64 X, v1] w2 fun e z =>
      ∃ ao cap, e = .returned (.tuple #[.slice ao (saysW [y] X bl).length cap, .bool (okW [y] X bl)]) ∧ Nw e0 (.slice ao (saysW [y] X bl).length cap) (saysW [y] X bl) z ∧ RB w p g v g2 v2 xb X T l (tk1 y bl) z ∧ Nw B nv ns z := by
  intro v1 w2 ho hg
  refine (h.b.took hX he X bl v1 w2 ho hg).mono ?_
  rintro e z ⟨ao, cap, rfl, N, L, G⟩
  rw [he] at N
  subst hn
  rw [takeW_one] at L
  exact ⟨ao, cap, rfl, N, h.two D L G, h.b.keep G hN⟩
end
theorem bapa_bad (v : Value) (L : List Wq) (va : Value) (of : Int) (hL : L.length ≤ 8796093021952) (w : World) (hB : Wide 2 Wq.qs w v L) (hc : chkW [] L ≠ 0) :
    Calls Try.prog 6 #[v, va, .int .u8 of] w fun e w' => e = .returned (.bool true) ∧ Below w.heap.size w w' := by
  have HL := fun x => lives18_any x
  obtain ⟨p, hp⟩ : ∃ p, w.heap.size = p := ⟨_, rfl⟩
  obtain ⟨X0, hX0⟩ : ∃ X, w.alloc (.cells #[] 59) = X := ⟨_, rfl⟩
  have b0 : Below p w X0 := by rw [← hX0, ← hp]; exact (Below.refl _ _).alloc (Nat.le_refl _) _
  have HO : Hid (X0.ownsRow p 59 DQ.c (.slice (some ⟨p, 0, none⟩) 0 0) ([] : List Wq).length (flatW DQ [])) := by rw [← hX0, ← hp]; exact own_empty_e _ _ _
  have HB2 : Hid (Wide 2 Wq.qs X0 v L) := hB.same b0.size (fun k _ hk => b0.block k (by omega))
  have hps : p ≤ X0.heap.size := by have := b0.size; omega
  have HB0 := hidOf2 b0
  obtain ⟨ao, cap, rfl⟩ := hB.shape
  have HN := fun (v' : Value) (x : World) (_ : Below p w x) (h : x.ownsRow p 59 DQ.c v' ([] ++ L).length (flatW DQ ([] ++ L))) => neww_none hc x v' (wide_of_own DQ (by simpa using h)) (by omega)
  rw [hp]
  have d0 : (chkW [] L != 0) = true := by simp [hc]
  generalize chkW [] L = c at *
  clear hB hc b0
  go_enter Try.func6, Try.ntmps6
  go_upto_region 2 with (first | (at_builtin; refine wpList_app DQ 36 59 _ 16 Try.underlying36 infoWq rfl rfl _ _ rfl p _ [] rfl (by exact HO.out) _ L rfl (by exact HB2.out) (by simp only [List.length_nil, maxLen]; omega) (by simp only [List.length_nil]; omega) hps ?_; intro v1 w1 a1 a2; have B1 := hidOf2 (HB0.out.grown a2 hps (fun j hj => by have hj : some p = some j := hj; injection hj; omega)); have hN := HN v1 w1 B1.out a1; clear a1 a2) | (go_at_call 13; refine hN.mono ?_; rintro e y1 ⟨rfl, b1⟩))
  have B2 : Below p w y1 := below_low B1.out b1 (by have := B1.out.size; omega)
  have hsz : p ≤ y1.heap.size := by have := B1.out.size; have := b1.size; omega
  clear hN b1 HO HB2 hX0 HN
  go_wp2_with (go_at_call 10; refine (HL _).mono ?_; rintro e w2 ⟨rfl, b2⟩)
  go_ret
  exact ⟨rfl, below_low B2 b2 hsz⟩
theorem bapa_nil (v va : Value) (of : Int) (w : World) (hB : Wide 2 Wq.qs w v []) :
    Calls Try.prog 6 #[v, va, .int .u8 of] w fun e w' => e = .returned (.bool true) ∧ Below w.heap.size w w' := by
  obtain ⟨L, hL0⟩ : ∃ L : List Wq, L = [] := ⟨_, rfl⟩
  rw [← hL0] at hB
  have hL : L.length ≤ 8796093021952 := by rw [hL0]; simp
  have hc : chkW [] L = 0 := by rw [hL0]; rfl
  have HL := fun x => lives18_any x
  obtain ⟨p, hp⟩ : ∃ p, w.heap.size = p := ⟨_, rfl⟩
  obtain ⟨X0, hX0⟩ : ∃ X, w.alloc (.cells #[] 59) = X := ⟨_, rfl⟩
  have b0 : Below p w X0 := by rw [← hX0, ← hp]; exact (Below.refl _ _).alloc (Nat.le_refl _) _
  have HO : Hid (X0.ownsRow p 59 DQ.c (.slice (some ⟨p, 0, none⟩) 0 0) ([] : List Wq).length (flatW DQ [])) := by rw [← hX0, ← hp]; exact own_empty_e _ _ _
  have HB2 : Hid (Wide 2 Wq.qs X0 v L) := hB.same b0.size (fun k _ hk => b0.block k (by omega))
  have hps : p ≤ X0.heap.size := by have := b0.size; omega
  have HB0 := hidOf2 b0
  obtain ⟨ao, cap, rfl⟩ := hB.shape
  have HN := fun (v' : Value) (x : World) (hb : Below p w x) (h : x.ownsRow p 59 DQ.c v' ([] ++ L).length (flatW DQ ([] ++ L))) => Lw.new hc w x p hb (by have := hb.size; omega) v' (wide_of_own DQ (by simpa using h)) (by omega)
  rw [hp]
  clear hB b0
  go_enter Try.func6, Try.ntmps6
  go_upto_region 2 with (first | (at_builtin; refine wpList_app DQ 36 59 _ 16 Try.underlying36 infoWq rfl rfl _ _ rfl p _ [] rfl (by exact HO.out) _ L rfl (by exact HB2.out) (by simp only [List.length_nil, maxLen]; omega) (by simp only [List.length_nil]; omega) hps ?_; intro v1 w1 a1 a2; have B1 := hidOf2 (HB0.out.grown a2 hps (fun j hj => by have hj : some p = some j := hj; injection hj; omega)); have hN := HN v1 w1 B1.out a1; clear a1 a2) | (go_at_call 13; refine hN.mono ?_; rintro e y1 ⟨v3, rfl, W1, _, b1⟩))
  have HB9 := hidOf2 W1.bl
  have hsz := W1.sz
  clear hN b1 HO HB2 hX0 HN W1
  subst hL0
  go_wp2_with (go_at_call 10; refine (HL _).mono ?_; rintro e w2 ⟨rfl, b2⟩)
  go_ret
  exact ⟨rfl, below_low HB9.out b2 hsz⟩
set_option maxHeartbeats 16000000 in
theorem bapa_ok (v : Value) (L : List Wq) (va : Value) (A : List A18) (of : Nat) (hof : of < 256) (hL : L.length ≤ 8796093021952) (w : World) (hB : Wide 2 Wq.qs w v L) (hbA : Wide 3 A18.c w va A) (hA : A.length ≤ 140737488351232 ∧ ∀ a ∈ A, a.ok w) (hc : chkW [] L = 0) (hne : L ≠ []) :
    Calls Try.prog 6 #[v, va, .int .u8 of] w fun e w' => e = .returned (.bool true) ∧ Below w.heap.size w w' := by
  have HL := fun x => lives18_any x
  obtain ⟨p, hp⟩ : ∃ p, w.heap.size = p := ⟨_, rfl⟩
  obtain ⟨X0, hX0⟩ : ∃ X, w.alloc (.cells #[] 59) = X := ⟨_, rfl⟩
  have b0 : Below p w X0 := by rw [← hX0, ← hp]; exact (Below.refl _ _).alloc (Nat.le_refl _) _
  have HO : Hid (X0.ownsRow p 59 DQ.c (.slice (some ⟨p, 0, none⟩) 0 0) ([] : List Wq).length (flatW DQ [])) := by rw [← hX0, ← hp]; exact own_empty_e _ _ _
  have HB2 : Hid (Wide 2 Wq.qs X0 v L) := hB.same b0.size (fun k _ hk => b0.block k (by omega))
  have hps : p ≤ X0.heap.size := by have := b0.size; omega
  have HB0 := hidOf2 b0
  have HN := fun (v' : Value) (x : World) (hb : Below p w x) (h : x.ownsRow p 59 DQ.c v' ([] ++ L).length (flatW DQ ([] ++ L))) => Lw.new hc w x p hb (by have := hb.size; omega) v' (wide_of_own DQ (by simpa using h)) (by omega)
  rw [hp]
  obtain ⟨ao, cap, rfl, _, hw2⟩ := hB
  obtain ⟨aa, ca, rfl, _, hwA⟩ := hbA
  have HC : Hid (∀ (wr : World), Below p w wr → ∀ k (hk : k < A.length), ∃ b off, aa = some ⟨b, off, none⟩ ∧ b < p ∧ wr.rangeAt b (off + k * 3) (A18.c A[k])) := fun wr hb k hk => by have := Wide.at hwA (by rw [hp]; exact hb) k hk; rwa [hp] at this
  have HOK : Hid (∀ k (hk : k < A.length), A[k].ok w) := fun k hk => hA.2 _ (List.getElem_mem hk)
  have hA1 := hA.1
  obtain ⟨N, hN0⟩ : ∃ N, L.length = N := ⟨_, rfl⟩
  have hN1 : 0 < N := by rw [← hN0]; exact List.length_pos_iff.2 hne
  obtain ⟨R, hR0⟩ : ∃ R : Nat, of % N = R := ⟨_, rfl⟩
  have hRN : R < N := by rw [← hR0]; exact Nat.mod_lt _ hN1
  have hrem : (of : Int).tmod (N : Int) = (R : Int) := by rw [← hR0]; rfl
  have hN2 : ((N : Int) == 0) = false := by simp; omega
  have hRL : R < L.length := by omega
  obtain ⟨q, hq⟩ : ∃ q, L[R] = q := ⟨_, rfl⟩
  obtain ⟨X, T⟩ := q
  have HR : Hid (∀ wr : World, Below p w wr → ∃ b off, ao = some ⟨b, off, none⟩ ∧ b < p ∧ wr.rangeAt b (off + R * 2) [.int .i64 X, .int .u64 T]) := fun wr hb => by
    obtain ⟨b, off, h1, h2, h3⟩ := Wide.at hw2 (by rw [hp]; exact hb) R hRL
    rw [hq] at h3
    rw [hp] at h2
    exact ⟨b, off, h1, h2, h3⟩
  have HAT : Hid ((L.map Wt.of)[R]? = some ⟨X, T, 0, 0, 0⟩) := by
    show _ = _
    rw [List.getElem?_map, List.getElem?_eq_getElem hRL, hq]; rfl
  have hbnd : 1 ≤ X ∧ X ≤ 127 ∧ 1 ≤ T ∧ T ≤ 4294967296 := by
    have hO := chkW_good hc
    have hm := hO.ok ⟨X, T, 0, 0, 0⟩ (List.mem_of_getElem? HAT.out)
    exact ⟨hm.n0, hm.n1, hm.t0, hm.t1⟩
  have hdN : ((N : Int) != 0) = true := by simp; omega
  rw [hN0] at HB2 hL ⊢
  clear hw2 hwA b0 hA hne hc hq hRL hR0
  go_enter Try.func6, Try.ntmps6
  go_upto_region 2 with (first | (at_builtin; refine wpList_app DQ 36 59 _ 16 Try.underlying36 infoWq rfl rfl _ _ rfl p _ [] rfl (by exact HO.out) _ L rfl (by exact HB2.out) (by simp only [List.length_nil, maxLen]; omega) (by simp only [List.length_nil]; omega) hps ?_; intro v1 w1 a1 a2; have B1 := hidOf2 (HB0.out.grown a2 hps (fun j hj => by have hj : some p = some j := hj; injection hj; omega)); have hN := HN v1 w1 B1.out a1; clear a1 a2) | (go_at_call 13; refine hN.mono ?_; rintro e y1 ⟨v3, rfl, W1, hv3, b1⟩))
  obtain ⟨g, hg⟩ : ∃ g, w1.heap.size = g := ⟨_, rfl⟩
  rw [hg] at W1 hv3 ⊢
  obtain ⟨bq, oq, rfl, hbq, hRq⟩ := HR.out y1 W1.bl
  clear hN b1 HO HB2 hX0 HN HR HB0 B1 hps hv3
  go_upto_region 4 with fail
  obtain ⟨xb, hxb⟩ : ∃ xb, y1.heap.size = xb := ⟨_, rfl⟩
  obtain ⟨Y1, hY1⟩ : ∃ x, y1.alloc (.cells #[.int .i64 X, .int .u64 T] 59) = x := ⟨_, rfl⟩
  have C1 : Bc 59 xb #[.int .i64 X, .int .u64 T] Y1 := by rw [← hY1, ← hxb]; exact heap_alloc_new y1 _
  have BY1 : Below y1.heap.size y1 Y1 := by rw [← hY1]; exact (Below.refl _ _).alloc (Nat.le_refl _) _
  have W2 := W1.below BY1
  have hvx : ∀ k, v3.ownBlock = some k → k < xb := fun k hk => by have := W1.own_lt hk; omega
  have hgx : g < xb := by have := W1.lt; omega
  have hxs : Hid (Y1.heap.size = xb + 1) := by show _ = _; rw [← hY1, ← hxb]; simp
  clear W1 BY1
  go_upto_region 5 with (refine Wq.ld hRq rfl _ rfl rfl ?_)
  have c0 : Y1.cell? ⟨xb, 0, none⟩ = some (.int .i64 X) := C1.cell 0
  have c1 : Y1.cell? ⟨xb, 1, none⟩ = some (.int .u64 T) := C1.cell 1
  obtain ⟨Y2, hY2⟩ : ∃ x, Y1.alloc (.cells #[.int .i64 X, .int .u64 T] 59) = x := ⟨_, rfl⟩
  have BY2 : Below Y1.heap.size Y1 Y2 := by rw [← hY2]; exact (Below.refl _ _).alloc (Nat.le_refl _) _
  have W3 := W2.below BY2
  have C3 := C1.below BY2
  have hN3 := Lw.one X T hbnd.1 hbnd.2.1 hbnd.2.2.1 hbnd.2.2.2 w Y2 p W3.bl W3.sz (.slice (some ⟨Y1.heap.size, 0, none⟩) 1 1) (by rw [← hY2]; exact wide_q Y1 ⟨X, T⟩)
  have hys : Hid (Y2.heap.size = xb + 2) := by show _ = _; have := hxs.out; rw [← hY2]; simp; omega
  have hpx : p ≤ xb := by have := W2.sz; have := W2.hg; omega
  clear hY1 W2 C1 BY2 hRq
  go_upto_region 6 with (go_at_call 13; with_reducible refine hN3.mono ?_; rintro e y3 ⟨v4, rfl, W4, hv4, b4⟩)
  have hys2 := hys.out
  have D : DA p g v3 Y2.heap.size v4 xb := ⟨fun e => by have := hvx _ e; omega, fun k h1 h2 => by have := hvx _ h2; have := hv4 _ h1; omega, fun e => by have := hv4 _ e; omega, fun e => by have := hvx _ e; omega, fun e => by have := hv4 _ e; omega⟩
  have I0 : RB w p g v3 Y2.heap.size v4 xb X T (L.map Wt.of) ⟨X, T, 0, 0, 0⟩ y3 := ⟨W3.below b4, W4, C3.below b4⟩
  obtain ⟨g2, hg2⟩ : ∃ g2, Y2.heap.size = g2 := ⟨_, rfl⟩
  rw [hg2] at D I0 ⊢
  have HI : Hid (RB w p g v3 g2 v4 xb X T (L.map Wt.of) ⟨X, T, 0, 0, 0⟩ y3) := I0
  have HD := hidOf2 D
  clear hys2 hN3 W3 W4 hv4 b4 C3 hvx D I0 hY2 hys hxs c0 c1 hg2 hg hxb hbnd
  obtain ⟨M, hM⟩ : ∃ M, A.length = M := ⟨_, rfl⟩
  have HM := hidOf2 hM
  rw [hM] at hA1 ⊢
  clear hM
  go_wp2_with fail
  go_loopw [12] (fun s12 x => ∃ k l y, k ≤ M ∧ s12 = .int .i64 (k : Nat) ∧ RB w p g v3 g2 v4 xb X T l y x ∧ l[R]? = some y ∧ y.nd = X) (fun s12 _ => M - (intOf s12).toNat)
  case atStart => exact ⟨0, _, _, by omega, rfl, HI.out, HAT.out, rfl⟩
  case round =>
    clear HI HAT
    obtain ⟨k, l, y, hk, rfl, hJ, hat, hnd⟩ := hrel
    have D := HD.out
    have hsp := hJ.a.sz
    by_cases hkl : k < M
    · have hd : decide ((k : Int) < (M : Int)) = true := by simp; omega
      have hkA : k < A.length := by rw [HM.out]; exact hkl
      obtain ⟨b, off, rfl, hb, hRa⟩ := HC.out wr hJ.a.bl k hkA
      have HX : Hid (∀ z, Below p w z → z.rangeAt b (off + k * 3) (A18.c A[k])) := fun z hz => by
        obtain ⟨b', off', e, _, h9⟩ := HC.out z hz k hkA
        injection e with e; injection e with e1 e2; subst e1; subst e2
        exact h9
      have ha := HOK.out k hkA
      generalize A[k] = a at *
      obtain ⟨tk, n, bv, bl⟩ := a
      obtain ⟨hnb, hbv, hbl⟩ := ha
      simp only at hnb hbv hbl
      have HBy : Hid (∀ x, Below p w x → Bytes x bv bl) := fun x hx => hbv.below (by rw [hp]; exact hx)
      obtain ⟨ab, cb, hbv2, _⟩ := hbv
      subst hbv2
      have HK : Hid (∀ z, Below p w z → z.cell? ⟨b, off + k * 3 + 1, none⟩ = some (.int .i64 n) ∧ z.cell? ⟨b, off + k * 3 + 2, none⟩ = some (.slice ab bl.length cb)) := fun z hz => ⟨(A18.cells (HX.out z hz)).2.1, (A18.cells (HX.out z hz)).2.2⟩
      have r0 := (A18.cells hRa).1
      simp only at r0
      have hlR : R < l.length := (List.getElem?_eq_some_iff.1 hat).1
      have hlx : l[R] = y := (List.getElem?_eq_some_iff.1 hat).2
      have hO := hJ.a.ok
      have hln := hO.len
      have hln2 := tellsW_le l
      clear hRa HX
      cases tk
      · -- a tick
        have hT1 := hJ.tick1 D
        go_upto_region 13 with fail
        go_upto_region 17 with (first | (go_at_call 17; with_reducible refine hT1.mono ?_; rintro e z1 ⟨a1, c1, rfl, N1, J1⟩; have hT2 := J1.tick2 D N1) | (go_at_call 17; with_reducible refine hT2.mono ?_; rintro e z2 ⟨a2, c2, rfl, N2, J2, N1'⟩))
        have HT : Hid (∃ L1 Y, RB w p g v3 g2 v4 xb X T L1 Y z2 ∧ L1[R]? = some Y ∧ Y.nd = X) := ⟨tickW l, y.tick, J2, by rw [tickW_get l R hlR, hlx], by rw [Wt.tick_nd]; exact hnd⟩
        have HMM : Hid (mineF X (tellsW l) = tellsW [y]) := by show _ = _; rw [(one_tick y).2, ← hnd]; exact mine_tells l hO.nd y (by rw [← hlx]; exact List.getElem_mem hlR)
        have hlen : (tellsW l).length ≤ 1000 := by omega
        have HN1 := hidOf2 (N1')
        have HN2 := hidOf2 (N2)
        clear hT1 hT2 J1 J2 N1 N1' N2 hln2 hJ hO hat hlx hnd hlR D hln r0 HK HBy HC HOK
        generalize tellsW l = ll at *
        generalize tellsW [y] = bb at *
        obtain ⟨P, hP⟩ : ∃ P, z2.heap.size = P := ⟨_, rfl⟩
        obtain ⟨x1, hx1⟩ : ∃ z, z2.alloc (.cells #[] 55) = z := ⟨_, rfl⟩
        have HM0 : Hid (Nw P (.slice (some ⟨P, 0, none⟩) 0 0) [] x1) := by rw [← hx1, ← hP]; exact own_empty_e _ _ _
        have BX1 : Hid (Below P z2 x1) := by rw [← hx1, ← hP]; exact (Below.refl _ _).alloc (Nat.le_refl _) _
        obtain ⟨a9, c9, h9, _, hc9⟩ := wide_of_own DN HN1.out
        injection h9 with h91 h92 h93
        subst h91; subst h93
        clear h92
        have HA9 : Hid (∀ (z : World), Below P z2 z → ∀ j (hj : j < ll.length), ∃ b5 o5, a1 = some ⟨b5, o5, none⟩ ∧ b5 < P ∧ z.rangeAt b5 (o5 + j * 3) (Ne.cs ll[j])) := fun z hz j hj => by
          have := Wide.at hc9 (by rw [hP]; exact hz) j hj
          rwa [hP] at this
        have HXC : Hid (∀ (z : World), Below P z2 z → z.cell? ⟨xb, 0, none⟩ = some (.int .i64 X)) := fun z hz => by
          obtain ⟨L1, Y, hRB, _⟩ := HT.out
          exact (hRB.c.below (by rw [hP]; exact hz)).cell 0
        have HP := hidOf2 hP
        obtain ⟨NN, hNN⟩ : ∃ NN, ll.length = NN := ⟨_, rfl⟩
        have HNN := hidOf2 hNN
        rw [hNN] at hlen ⊢
        clear hc9 hNN
        go_upto_region 18 with (refine BigFrame.wpList_want rfl fun K hK => wp_bs0g Try.underlying47 infoN rfl (hK _ _ ?_))
        go_wp2_with fail
        go_loopw [15, 16] (fun m s16 z => ∃ j, j ≤ NN ∧ s16 = .int .i64 (j : Nat) ∧ Nw P m (mineF X (ll.take j)) z ∧ Below P z2 z) (fun _ s16 _ => NN - (intOf s16).toNat)
        case atStart => exact ⟨0, by omega, rfl, HM0.out, BX1.out⟩
        case round =>
          clear HM0 BX1 hx1
          obtain ⟨j, hj, rfl, hNm, hbz⟩ := hrel
          by_cases hjN : j < NN
          · have hd3 : decide ((j : Int) < (NN : Int)) = true := by simp; omega
            have hjl : j < ll.length := by rw [HNN.out]; exact hjN
            obtain ⟨zd, hzd⟩ : ∃ z, wr.drew = z := ⟨_, rfl⟩
            have HB5 : Hid (Below P z2 zd) := by rw [← hzd]; exact below_drawn hbz 1
            have HN5 : Hid (Nw P u15 (mineF X (ll.take j)) zd) := by rw [← hzd]; exact hNm.drawn 1
            obtain ⟨b5, o5, rfl, hb5, hRb⟩ := HA9.out _ HB5.out j hjl
            have hxc := HXC.out _ HB5.out
            have E1 := hidOf2 (mine_next X ll j hjl)
            have hml : (mineF X (ll.take j)).length ≤ 1000 := by
              have h1 : (mineF X (ll.take j)).length ≤ (ll.take j).length := List.length_filter_le _ _
              rw [List.length_take] at h1
              omega
            generalize ll[j] = zz at *
            obtain ⟨zn, zw, zs⟩ := zz
            have n0 := hRb 0 _ rfl
            rw [Nat.add_zero] at n0
            simp only at n0
            have s0 := And.intro n0 hxc
            clear n0 hxc hNm hbz
            go_upto_region 21 with fail
            refine wp_region_held (S := fun z : World => z.cell? ⟨b5, o5 + j * 3, none⟩ = some (.int .i64 zn) ∧ z.cell? ⟨xb, 0, none⟩ = some (.int .i64 X)) (by kernel_rfl) ?_
            rw [← hzd] at s0
            change wpAnyH _ _ _ _ _ _ _ _ wr.drew
            refine wpAnyH_take (i := 0) (v := (.slice (some ⟨b5, o5, none⟩) NN c1)) rfl (by kernel_rfl) (by kernel_rfl) (by kernel_rfl) (fun _ _ _ h => h) (.inl ⟨rfl, fun _ hS => rfl⟩) s0 ?_
            simp only [List.getElem_toArray, List.getElem_cons_succ, List.getElem_cons_zero, Act.put, List.setIfInBounds_toArray, List.set_cons_succ, List.set_cons_zero]
            refine wpAnyH_take (i := 1) (v := (.int .i64 (j : Nat))) rfl (by kernel_rfl) (by kernel_rfl) (by kernel_rfl) (fun _ _ _ h => h) (.inl ⟨rfl, fun _ hS => rfl⟩) s0 ?_
            simp only [List.getElem_toArray, List.getElem_cons_succ, List.getElem_cons_zero, Act.put, List.setIfInBounds_toArray, List.set_cons_succ, List.set_cons_zero]
            refine wpAnyH_take (i := 2) (v := (.pointer (some ⟨b5, o5 + j * 3, none⟩))) rfl (by kernel_rfl) (by kernel_rfl) (by kernel_rfl) (fun _ _ _ h => h) (.inl ⟨rfl, fun _ hS => exec_idxN rfl rfl rfl hjN _⟩) s0 ?_
            simp only [List.getElem_toArray, List.getElem_cons_succ, List.getElem_cons_zero, Act.put, List.setIfInBounds_toArray, List.set_cons_succ, List.set_cons_zero]
            refine wpAnyH_take (i := 3) (v := (.pointer (some ⟨b5, o5 + j * 3, none⟩))) rfl (by kernel_rfl) (by kernel_rfl) (by kernel_rfl) (fun _ _ _ h => h) (.inl ⟨rfl, fun _ hS => by simp [execOp, go_sem, Act.eval]⟩) s0 ?_
            simp only [List.getElem_toArray, List.getElem_cons_succ, List.getElem_cons_zero, Act.put, List.setIfInBounds_toArray, List.set_cons_succ, List.set_cons_zero]
            refine wpAnyH_take (i := 4) (v := (.int .i64 zn)) rfl (by kernel_rfl) (by kernel_rfl) (by kernel_rfl) (fun _ _ _ h => h) (.inl ⟨rfl, fun _ hS => exec_load rfl rfl (load_int _ _ _ _ hS.1)⟩) s0 ?_
            simp only [List.getElem_toArray, List.getElem_cons_succ, List.getElem_cons_zero, Act.put, List.setIfInBounds_toArray, List.set_cons_succ, List.set_cons_zero]
            refine wpAnyH_take (i := 5) (v := (.pointer (some ⟨xb, 0, none⟩))) rfl (by kernel_rfl) (by kernel_rfl) (by kernel_rfl) (fun _ _ _ h => h) (.inl ⟨rfl, fun _ hS => by simp [execOp, go_sem, Act.eval]⟩) s0 ?_
            simp only [List.getElem_toArray, List.getElem_cons_succ, List.getElem_cons_zero, Act.put, List.setIfInBounds_toArray, List.set_cons_succ, List.set_cons_zero]
            refine wpAnyH_take (i := 6) (v := (.int .i64 X)) rfl (by kernel_rfl) (by kernel_rfl) (by kernel_rfl) (fun _ _ _ h => h) (.inl ⟨rfl, fun _ hS => exec_load rfl rfl (load_int _ _ _ _ hS.2)⟩) s0 ?_
            simp only [List.getElem_toArray, List.getElem_cons_succ, List.getElem_cons_zero, Act.put, List.setIfInBounds_toArray, List.set_cons_succ, List.set_cons_zero]
            refine wpAnyH_take (i := 7) (v := (.bool (zn == X))) rfl (by kernel_rfl) (by kernel_rfl) (by kernel_rfl) (fun _ _ _ h => h) (.inl ⟨rfl, fun _ hS => exec_eqI rfl rfl rfl _⟩) s0 ?_
            simp only [List.getElem_toArray, List.getElem_cons_succ, List.getElem_cons_zero, Act.put, List.setIfInBounds_toArray, List.set_cons_succ, List.set_cons_zero]
            refine wpAnyH_done (by kernel_rfl) ?_ _
            rw [hzd]
            clear s0 hzd
            by_cases hzx : zn = X
            · have dq : (zn == X) = true := by simp [hzx]
              have E2 : Hid (mineF X (ll.take (j + 1)) = mineF X (ll.take j) ++ [⟨zn, zw, zs⟩]) := by show _ = _; rw [E1.out, if_pos hzx]
              rw [dq]
              clear hzx dq
              go_upto_region 22 with fail
              obtain ⟨X2, hX2⟩ : ∃ x, zd.alloc (.cells #[.int .i64 zn, .int .i64 zw, .int .i64 zs] 55) = x := ⟨_, rfl⟩
              have BX2 : Below zd.heap.size zd X2 := by rw [← hX2]; exact (Below.refl _ _).alloc (Nat.le_refl _) _
              have HX2 : Hid (Wide 3 Ne.cs X2 (.slice (some ⟨zd.heap.size, 0, none⟩) 1 1) [⟨zn, zw, zs⟩]) := by rw [← hX2]; exact wide_ne zd ⟨zn, zw, zs⟩
              have HN6 := hidOf2 (HN5.out.below BX2)
              have HB6 := hidOf2 (HB5.out.trans (BX2.mono (by have := HB5.out.size; omega)))
              have hpP : P ≤ X2.heap.size := by have := HB6.out.size; omega
              obtain ⟨q1, hq1⟩ : ∃ q1, zd.heap.size = q1 := ⟨_, rfl⟩
              rw [hq1] at HX2
              clear BX2
              go_wp2_with (first | (refine Ne.ld (a := ⟨zn, zw, zs⟩) hRb rfl _ rfl rfl ?_; clear hRb; unfold Ne.arr; simp only) | (at_builtin; refine wpList_app DN 47 55 _ 24 Try.underlying47 infoN rfl rfl _ _ rfl P u15 (mineF X (ll.take j)) rfl (by exact HN6.out) _ [⟨zn, zw, zs⟩] rfl (by exact HX2.out) (by simp only [List.length_cons, List.length_nil, maxLen]; omega) (by simp only [List.length_cons, List.length_nil]; omega) hpP ?_; intro v' w' a1' a2'; have HN7 := hidOf2 a1'; have HB7 := hidOf2 (HB6.out.grown a2' hpP (fun j hj => own_base HN6.out hj)); clear a1' a2'))
              go_roundw
              case rel => exact ⟨j + 1, by omega, rfl, by rw [E2.out]; exact HN7.out, HB7.out⟩
              case measure => simp [intOf]; omega
            · have dq : (zn == X) = false := by simp [hzx]
              have E2 : Hid (mineF X (ll.take (j + 1)) = mineF X (ll.take j)) := by show _ = _; rw [E1.out, if_neg hzx, List.append_nil]
              rw [dq]
              clear hzx dq hRb
              go_wp2_with fail
              go_roundw
              case rel => exact ⟨j + 1, by omega, rfl, by rw [E2.out]; exact HN5.out, HB5.out⟩
              case measure => simp [intOf]; omega
          · obtain rfl : j = NN := by omega
            have hd3 : decide ((j : Int) < (j : Int)) = false := by simp
            have e5 : mineF X (ll.take j) = bb := by rw [List.take_of_length_le (by have := HNN.out; omega)]; exact HMM.out
            rw [e5] at hNm
            have hbb : bb.length ≤ 1000000 := by
              have h1 : (mineF X ll).length ≤ ll.length := List.length_filter_le _ _
              rw [HMM.out, HNN.out] at h1
              omega
            have hS := same_eq u15 (.slice a2 bb.length c2) bb wr (wide_of_own DN hNm) (wide_of_own DN (HN2.out.below (by rw [HP.out]; exact hbz))) hbb
            have HBz := hidOf2 hbz
            clear e5 hNm hbb hbz HA9 HXC
            go_wp2_with (go_at_call 19; with_reducible refine hS.mono ?_; rintro e z9 ⟨rfl, b9⟩)
            go_roundw
            case rel =>
              obtain ⟨L1, Y, hRB, h1, h2⟩ := HT.out
              exact ⟨k + 1, L1, Y, by omega, rfl, (hRB.below (by rw [HP.out]; exact HBz.out)).below b9, h1, h2⟩
            case measure => simp [intOf]; omega
      · -- a beat
        obtain ⟨e0, he0⟩ : ∃ x, wr.heap.size = x := ⟨_, rfl⟩
        have JD := hJ.drawn 1
        have HT : Hid _ := hidOf2 (JD.took1 D rfl he0 n bl)
        have HO : Hid ((wr.drew.alloc (.cells #[] 5)).ownsRow e0 5 1 (.slice (some ⟨e0, 0, none⟩) 0 0) 0 []) := by
          show World.ownsRow _ _ _ _ _ _ _
          rw [← he0]
          exact own_empty wr.drew
        have hs1 : e0 ≤ (wr.drew.alloc (.cells #[] 5)).heap.size := by
          have : (wr.drew.alloc (.cells #[] 5)).heap.size = wr.heap.size + 1 := size_alloc _ _
          omega
        have bX : Below p w (wr.drew.alloc (.cells #[] 5)) := (JD.a.alloc _).bl
        have HB2 : Hid (Bytes (wr.drew.alloc (.cells #[] 5)) (.slice ab bl.length cb) bl) := HBy.out _ bX
        have HG : Hid (∀ w2, (wr.drew.alloc (.cells #[] 5)).grownBy w2 (some e0) → Below p w w2) := fun w2 h2 => below_of_grown bX h2 (by omega) (fun j hj => by have hj : some e0 = some j := hj; injection hj; omega)
        have s0 := HK.out wr.drew JD.a.bl
        have hl1 : (saysW l n bl).length ≤ 1000 := Nat.le_trans (says_len l n bl) (by omega)
        go_upto_region 14 with fail
        refine wp_region_held (S := fun z : World => z.cell? ⟨b, off + k * 3 + 1, none⟩ = some (.int .i64 n) ∧ z.cell? ⟨b, off + k * 3 + 2, none⟩ = some (.slice ab bl.length cb)) (by kernel_rfl) ?_
        change wpAnyH _ _ _ _ _ _ _ _ wr.drew
        refine wpAnyH_take (i := 0) (v := (.pointer (some ⟨g, 0, none⟩))) rfl (by kernel_rfl) (by kernel_rfl) (by kernel_rfl) (fun _ _ _ h => h) (.inl ⟨rfl, fun _ hS => rfl⟩) s0 ?_
        simp only [List.getElem_toArray, List.getElem_cons_succ, List.getElem_cons_zero, Act.put, List.setIfInBounds_toArray, List.set_cons_succ, List.set_cons_zero]
        refine wpAnyH_take (i := 1) (v := (.slice (some ⟨b, off, none⟩) M ca)) rfl (by kernel_rfl) (by kernel_rfl) (by kernel_rfl) (fun _ _ _ h => h) (.inl ⟨rfl, fun _ hS => rfl⟩) s0 ?_
        simp only [List.getElem_toArray, List.getElem_cons_succ, List.getElem_cons_zero, Act.put, List.setIfInBounds_toArray, List.set_cons_succ, List.set_cons_zero]
        refine wpAnyH_take (i := 2) (v := (.int .i64 (k : Nat))) rfl (by kernel_rfl) (by kernel_rfl) (by kernel_rfl) (fun _ _ _ h => h) (.inl ⟨rfl, fun _ hS => rfl⟩) s0 ?_
        simp only [List.getElem_toArray, List.getElem_cons_succ, List.getElem_cons_zero, Act.put, List.setIfInBounds_toArray, List.set_cons_succ, List.set_cons_zero]
        refine wpAnyH_take (i := 3) (v := (.pointer (some ⟨b, off + k * 3, none⟩))) rfl (by kernel_rfl) (by kernel_rfl) (by kernel_rfl) (fun _ _ _ h => h) (.inl ⟨rfl, fun _ hS => exec_idxA18 rfl rfl rfl hkl _⟩) s0 ?_
        simp only [List.getElem_toArray, List.getElem_cons_succ, List.getElem_cons_zero, Act.put, List.setIfInBounds_toArray, List.set_cons_succ, List.set_cons_zero]
        refine wpAnyH_take (i := 4) (v := (.pointer (some ⟨b, off + k * 3 + 1, none⟩))) rfl (by kernel_rfl) (by kernel_rfl) (by kernel_rfl) (fun _ _ _ h => h) (.inl ⟨rfl, fun _ hS => by simp [execOp, go_sem, Act.eval]⟩) s0 ?_
        simp only [List.getElem_toArray, List.getElem_cons_succ, List.getElem_cons_zero, Act.put, List.setIfInBounds_toArray, List.set_cons_succ, List.set_cons_zero]
        refine wpAnyH_take (i := 5) (v := (.int .i64 n)) rfl (by kernel_rfl) (by kernel_rfl) (by kernel_rfl) (fun _ _ _ h => h) (.inl ⟨rfl, fun _ hS => exec_load rfl rfl (load_int _ _ _ _ hS.1)⟩) s0 ?_
        simp only [List.getElem_toArray, List.getElem_cons_succ, List.getElem_cons_zero, Act.put, List.setIfInBounds_toArray, List.set_cons_succ, List.set_cons_zero]
        refine wpAnyH_take (i := 7) (v := (.slice (some ⟨b, off, none⟩) M ca)) rfl (by kernel_rfl) (by kernel_rfl) (by kernel_rfl) (fun _ _ _ h => h) (.inl ⟨rfl, fun _ hS => rfl⟩) s0 ?_
        simp only [List.getElem_toArray, List.getElem_cons_succ, List.getElem_cons_zero, Act.put, List.setIfInBounds_toArray, List.set_cons_succ, List.set_cons_zero]
        refine wpAnyH_take (i := 8) (v := (.int .i64 (k : Nat))) rfl (by kernel_rfl) (by kernel_rfl) (by kernel_rfl) (fun _ _ _ h => h) (.inl ⟨rfl, fun _ hS => rfl⟩) s0 ?_
        simp only [List.getElem_toArray, List.getElem_cons_succ, List.getElem_cons_zero, Act.put, List.setIfInBounds_toArray, List.set_cons_succ, List.set_cons_zero]
        refine wpAnyH_take (i := 9) (v := (.pointer (some ⟨b, off + k * 3, none⟩))) rfl (by kernel_rfl) (by kernel_rfl) (by kernel_rfl) (fun _ _ _ h => h) (.inl ⟨rfl, fun _ hS => exec_idxA18 rfl rfl rfl hkl _⟩) s0 ?_
        simp only [List.getElem_toArray, List.getElem_cons_succ, List.getElem_cons_zero, Act.put, List.setIfInBounds_toArray, List.set_cons_succ, List.set_cons_zero]
        refine wpAnyH_take (i := 10) (v := (.pointer (some ⟨b, off + k * 3 + 2, none⟩))) rfl (by kernel_rfl) (by kernel_rfl) (by kernel_rfl) (fun _ _ _ h => h) (.inl ⟨rfl, fun _ hS => by simp [execOp, go_sem, Act.eval]⟩) s0 ?_
        simp only [List.getElem_toArray, List.getElem_cons_succ, List.getElem_cons_zero, Act.put, List.setIfInBounds_toArray, List.set_cons_succ, List.set_cons_zero]
        refine wpAnyH_take (i := 11) (v := (.slice ab bl.length cb)) rfl (by kernel_rfl) (by kernel_rfl) (by kernel_rfl) (fun _ _ _ h => h) (.inl ⟨rfl, fun _ hS => exec_load rfl rfl (load_bytesN _ _ _ _ _ _ hS.2)⟩) s0 ?_
        simp only [List.getElem_toArray, List.getElem_cons_succ, List.getElem_cons_zero, Act.put, List.setIfInBounds_toArray, List.set_cons_succ, List.set_cons_zero]
        refine wpAnyH_all (rs := [6]) (by kernel_rfl) (by simp) ?_
        intro k hk
        simp only [List.mem_cons, List.mem_nil_iff, or_false] at hk
        subst hk
        refine wpOp_runw rfl rfl (bs0U rfl ?_)
        have s1 := HK.out _ bX
        rw [show wr.drew.heap.size = e0 from he0]
        refine ⟨s1, ?_⟩
        simp only [List.getElem_toArray, List.getElem_cons_succ, List.getElem_cons_zero, Act.put, List.setIfInBounds_toArray, List.set_cons_succ, List.set_cons_zero]
        refine wpAnyH_all (rs := [12]) (by kernel_rfl) (by simp) ?_
        intro k hk
        simp only [List.mem_cons, List.mem_nil_iff, or_false] at hk
        subst hk
        refine wpOp_runw rfl rfl (wp_appN _ _ rfl e0 _ [] rfl (by exact HO.out) _ bl rfl (by exact HB2.out) (by simp only [List.length_nil]; omega) (by exact hs1) ?_)
        intro v1 w2 ho hgr
        have s2 := HK.out w2 (HG.out w2 hgr)
        have hT2 := HT.out v1 w2 ho hgr
        clear ho hgr
        refine ⟨s2, ?_⟩
        simp only [List.getElem_toArray, List.getElem_cons_succ, List.getElem_cons_zero, Act.put, List.setIfInBounds_toArray, List.set_cons_succ, List.set_cons_zero]
        refine wpAnyH_all (rs := [13]) (by kernel_rfl) (by simp) ?_
        intro k hk
        simp only [List.mem_cons, List.mem_nil_iff, or_false] at hk
        subst hk
        refine wpOp_runw rfl rfl (wp_call_fn 15 #[.pointer (some ⟨g, 0, none⟩), .int .i64 n, v1] (by simp [execOp, go_sem, Act.eval, resolve, invoke, enterWT]) ?_)
        refine hT2.mono ?_
        rintro e w3 ⟨a1, c1, rfl, N1, J1⟩
        have s3 := HK.out w3 J1.a.bl
        refine ⟨s3, ?_⟩
        simp only [List.getElem_toArray, List.getElem_cons_succ, List.getElem_cons_zero, Act.put, List.setIfInBounds_toArray, List.set_cons_succ, List.set_cons_zero]
        refine wpAnyH_take (i := 14) (v := (.tuple #[.slice a1 (saysW l n bl).length c1, .bool (okW l n bl)])) rfl (by kernel_rfl) (by kernel_rfl) (by kernel_rfl) (fun _ _ _ h => h) (.inl ⟨rfl, fun _ hS => rfl⟩) s3 ?_
        simp only [List.getElem_toArray, List.getElem_cons_succ, List.getElem_cons_zero, Act.put, List.setIfInBounds_toArray, List.set_cons_succ, List.set_cons_zero]
        refine wpAnyH_take (i := 15) (v := (.slice a1 (saysW l n bl).length c1)) rfl (by kernel_rfl) (by kernel_rfl) (by kernel_rfl) (fun _ _ _ h => h) (.inl ⟨rfl, fun _ hS => by simp [execOp, go_sem, Act.eval]⟩) s3 ?_
        simp only [List.getElem_toArray, List.getElem_cons_succ, List.getElem_cons_zero, Act.put, List.setIfInBounds_toArray, List.set_cons_succ, List.set_cons_zero]
        refine wpAnyH_take (i := 16) (v := (.bool (okW l n bl))) rfl (by kernel_rfl) (by kernel_rfl) (by kernel_rfl) (fun _ _ _ h => h) (.inl ⟨rfl, fun _ hS => by simp [execOp, go_sem, Act.eval]⟩) s3 ?_
        simp only [List.getElem_toArray, List.getElem_cons_succ, List.getElem_cons_zero, Act.put, List.setIfInBounds_toArray, List.set_cons_succ, List.set_cons_zero]
        refine wpAnyH_take (i := 17) (v := (.slice a1 (saysW l n bl).length c1)) rfl (by kernel_rfl) (by kernel_rfl) (by kernel_rfl) (fun _ _ _ h => h) (.inl ⟨rfl, fun _ hS => rfl⟩) s3 ?_
        simp only [List.getElem_toArray, List.getElem_cons_succ, List.getElem_cons_zero, Act.put, List.setIfInBounds_toArray, List.set_cons_succ, List.set_cons_zero]
        refine wpAnyH_done (by kernel_rfl) ?_ _
        have J1' := J1.drawn 1
        have N1' := N1.drawn 1
        have t0 := And.intro (HK.out _ J1'.a.bl) (J1'.c.cell 0)
        clear HT HO hs1 bX HB2 HG hT2 s0 s1 s2 s3 JD N1 J1
        go_upto_region 15 with fail
        refine wp_region_held (S := fun z : World => (z.cell? ⟨b, off + k * 3 + 1, none⟩ = some (.int .i64 n) ∧ z.cell? ⟨b, off + k * 3 + 2, none⟩ = some (.slice ab bl.length cb)) ∧ z.cell? ⟨xb, 0, none⟩ = some (.int .i64 X)) (by kernel_rfl) ?_
        change wpAnyH _ _ _ _ _ _ _ _ w3.drew
        refine wpAnyH_take (i := 0) (v := (.slice (some ⟨b, off, none⟩) M ca)) rfl (by kernel_rfl) (by kernel_rfl) (by kernel_rfl) (fun _ _ _ h => h) (.inl ⟨rfl, fun _ hS => rfl⟩) t0 ?_
        simp only [List.getElem_toArray, List.getElem_cons_succ, List.getElem_cons_zero, Act.put, List.setIfInBounds_toArray, List.set_cons_succ, List.set_cons_zero]
        refine wpAnyH_take (i := 1) (v := (.int .i64 (k : Nat))) rfl (by kernel_rfl) (by kernel_rfl) (by kernel_rfl) (fun _ _ _ h => h) (.inl ⟨rfl, fun _ hS => rfl⟩) t0 ?_
        simp only [List.getElem_toArray, List.getElem_cons_succ, List.getElem_cons_zero, Act.put, List.setIfInBounds_toArray, List.set_cons_succ, List.set_cons_zero]
        refine wpAnyH_take (i := 2) (v := (.pointer (some ⟨b, off + k * 3, none⟩))) rfl (by kernel_rfl) (by kernel_rfl) (by kernel_rfl) (fun _ _ _ h => h) (.inl ⟨rfl, fun _ hS => exec_idxA18 rfl rfl rfl hkl _⟩) t0 ?_
        simp only [List.getElem_toArray, List.getElem_cons_succ, List.getElem_cons_zero, Act.put, List.setIfInBounds_toArray, List.set_cons_succ, List.set_cons_zero]
        refine wpAnyH_take (i := 3) (v := (.pointer (some ⟨b, off + k * 3 + 1, none⟩))) rfl (by kernel_rfl) (by kernel_rfl) (by kernel_rfl) (fun _ _ _ h => h) (.inl ⟨rfl, fun _ hS => by simp [execOp, go_sem, Act.eval]⟩) t0 ?_
        simp only [List.getElem_toArray, List.getElem_cons_succ, List.getElem_cons_zero, Act.put, List.setIfInBounds_toArray, List.set_cons_succ, List.set_cons_zero]
        refine wpAnyH_take (i := 4) (v := (.int .i64 n)) rfl (by kernel_rfl) (by kernel_rfl) (by kernel_rfl) (fun _ _ _ h => h) (.inl ⟨rfl, fun _ hS => exec_load rfl rfl (load_int _ _ _ _ hS.1.1)⟩) t0 ?_
        simp only [List.getElem_toArray, List.getElem_cons_succ, List.getElem_cons_zero, Act.put, List.setIfInBounds_toArray, List.set_cons_succ, List.set_cons_zero]
        refine wpAnyH_take (i := 5) (v := (.pointer (some ⟨xb, 0, none⟩))) rfl (by kernel_rfl) (by kernel_rfl) (by kernel_rfl) (fun _ _ _ h => h) (.inl ⟨rfl, fun _ hS => by simp [execOp, go_sem, Act.eval]⟩) t0 ?_
        simp only [List.getElem_toArray, List.getElem_cons_succ, List.getElem_cons_zero, Act.put, List.setIfInBounds_toArray, List.set_cons_succ, List.set_cons_zero]
        refine wpAnyH_take (i := 6) (v := (.int .i64 X)) rfl (by kernel_rfl) (by kernel_rfl) (by kernel_rfl) (fun _ _ _ h => h) (.inl ⟨rfl, fun _ hS => exec_load rfl rfl (load_int _ _ _ _ hS.2)⟩) t0 ?_
        simp only [List.getElem_toArray, List.getElem_cons_succ, List.getElem_cons_zero, Act.put, List.setIfInBounds_toArray, List.set_cons_succ, List.set_cons_zero]
        refine wpAnyH_take (i := 7) (v := (.bool (n == X))) rfl (by kernel_rfl) (by kernel_rfl) (by kernel_rfl) (fun _ _ _ h => h) (.inl ⟨rfl, fun _ hS => exec_eqI rfl rfl rfl _⟩) t0 ?_
        simp only [List.getElem_toArray, List.getElem_cons_succ, List.getElem_cons_zero, Act.put, List.setIfInBounds_toArray, List.set_cons_succ, List.set_cons_zero]
        refine wpAnyH_done (by kernel_rfl) ?_ _
        obtain ⟨w4, hw4⟩ : ∃ z, w3.drew = z := ⟨_, rfl⟩
        have J4 : RB w p g v3 g2 v4 xb X T (takeW l n bl) y w4 := by rw [← hw4]; exact J1'
        have N4 : Nw e0 (.slice a1 (saysW l n bl).length c1) (saysW l n bl) w4 := by rw [← hw4]; exact N1'
        rw [hw4]
        clear t0 J1' N1' hw4
        by_cases hnX : n = X
        · have dn : (n == X) = true := by simp [hnX]
          rw [dn]
          clear dn
          obtain ⟨e1, he1⟩ : ∃ x, w4.heap.size = x := ⟨_, rfl⟩
          have JD := J4.drawn 1
          have HT3 : Hid _ := hidOf2 (JD.took2 D rfl he1 hnd bl (N4.drawn 1))
          have HO2 : Hid ((w4.drew.alloc (.cells #[] 5)).ownsRow e1 5 1 (.slice (some ⟨e1, 0, none⟩) 0 0) 0 []) := by
            show World.ownsRow _ _ _ _ _ _ _
            rw [← he1]
            exact own_empty w4.drew
          have hs2 : e1 ≤ (w4.drew.alloc (.cells #[] 5)).heap.size := by
            have : (w4.drew.alloc (.cells #[] 5)).heap.size = w4.heap.size + 1 := size_alloc _ _
            omega
          have bX : Below p w (w4.drew.alloc (.cells #[] 5)) := (JD.a.alloc _).bl
          have HB3 : Hid (Bytes (w4.drew.alloc (.cells #[] 5)) (.slice ab bl.length cb) bl) := HBy.out _ bX
          have cX : Bc 59 xb #[.int .i64 X, .int .u64 T] (w4.drew.alloc (.cells #[] 5)) := JD.c.below ((Below.refl _ _).alloc (Nat.le_refl _) _)
          have xlt := J4.c.lt
          have s4p := J4.a.sz
          have HG2 : Hid (∀ w2, (w4.drew.alloc (.cells #[] 5)).grownBy w2 (some e1) → (w2.cell? ⟨b, off + k * 3 + 1, none⟩ = some (.int .i64 n) ∧ w2.cell? ⟨b, off + k * 3 + 2, none⟩ = some (.slice ab bl.length cb)) ∧ w2.cell? ⟨xb, 0, none⟩ = some (.int .i64 X)) := fun w2 h2 =>
            ⟨HK.out w2 (below_of_grown bX h2 (by omega) (fun j hj => by have hj : some e1 = some j := hj; injection hj; omega)), (cX.grown18 h2 (fun e => by injection e; omega)).cell 0⟩
          have u0 := And.intro (HK.out w4.drew JD.a.bl) (JD.c.cell 0)
          go_upto_region 16 with fail
          refine wp_region_held (S := fun z : World => (z.cell? ⟨b, off + k * 3 + 1, none⟩ = some (.int .i64 n) ∧ z.cell? ⟨b, off + k * 3 + 2, none⟩ = some (.slice ab bl.length cb)) ∧ z.cell? ⟨xb, 0, none⟩ = some (.int .i64 X)) (by kernel_rfl) ?_
          change wpAnyH _ _ _ _ _ _ _ _ w4.drew
          refine wpAnyH_take (i := 0) (v := (.pointer (some ⟨g2, 0, none⟩))) rfl (by kernel_rfl) (by kernel_rfl) (by kernel_rfl) (fun _ _ _ h => h) (.inl ⟨rfl, fun _ hS => rfl⟩) u0 ?_
          simp only [List.getElem_toArray, List.getElem_cons_succ, List.getElem_cons_zero, Act.put, List.setIfInBounds_toArray, List.set_cons_succ, List.set_cons_zero]
          refine wpAnyH_take (i := 1) (v := (.pointer (some ⟨xb, 0, none⟩))) rfl (by kernel_rfl) (by kernel_rfl) (by kernel_rfl) (fun _ _ _ h => h) (.inl ⟨rfl, fun _ hS => by simp [execOp, go_sem, Act.eval]⟩) u0 ?_
          simp only [List.getElem_toArray, List.getElem_cons_succ, List.getElem_cons_zero, Act.put, List.setIfInBounds_toArray, List.set_cons_succ, List.set_cons_zero]
          refine wpAnyH_take (i := 2) (v := (.int .i64 X)) rfl (by kernel_rfl) (by kernel_rfl) (by kernel_rfl) (fun _ _ _ h => h) (.inl ⟨rfl, fun _ hS => exec_load rfl rfl (load_int _ _ _ _ hS.2)⟩) u0 ?_
          simp only [List.getElem_toArray, List.getElem_cons_succ, List.getElem_cons_zero, Act.put, List.setIfInBounds_toArray, List.set_cons_succ, List.set_cons_zero]
          refine wpAnyH_take (i := 4) (v := (.slice (some ⟨b, off, none⟩) M ca)) rfl (by kernel_rfl) (by kernel_rfl) (by kernel_rfl) (fun _ _ _ h => h) (.inl ⟨rfl, fun _ hS => rfl⟩) u0 ?_
          simp only [List.getElem_toArray, List.getElem_cons_succ, List.getElem_cons_zero, Act.put, List.setIfInBounds_toArray, List.set_cons_succ, List.set_cons_zero]
          refine wpAnyH_take (i := 5) (v := (.int .i64 (k : Nat))) rfl (by kernel_rfl) (by kernel_rfl) (by kernel_rfl) (fun _ _ _ h => h) (.inl ⟨rfl, fun _ hS => rfl⟩) u0 ?_
          simp only [List.getElem_toArray, List.getElem_cons_succ, List.getElem_cons_zero, Act.put, List.setIfInBounds_toArray, List.set_cons_succ, List.set_cons_zero]
          refine wpAnyH_take (i := 6) (v := (.pointer (some ⟨b, off + k * 3, none⟩))) rfl (by kernel_rfl) (by kernel_rfl) (by kernel_rfl) (fun _ _ _ h => h) (.inl ⟨rfl, fun _ hS => exec_idxA18 rfl rfl rfl hkl _⟩) u0 ?_
          simp only [List.getElem_toArray, List.getElem_cons_succ, List.getElem_cons_zero, Act.put, List.setIfInBounds_toArray, List.set_cons_succ, List.set_cons_zero]
          refine wpAnyH_take (i := 7) (v := (.pointer (some ⟨b, off + k * 3 + 2, none⟩))) rfl (by kernel_rfl) (by kernel_rfl) (by kernel_rfl) (fun _ _ _ h => h) (.inl ⟨rfl, fun _ hS => by simp [execOp, go_sem, Act.eval]⟩) u0 ?_
          simp only [List.getElem_toArray, List.getElem_cons_succ, List.getElem_cons_zero, Act.put, List.setIfInBounds_toArray, List.set_cons_succ, List.set_cons_zero]
          refine wpAnyH_take (i := 8) (v := (.slice ab bl.length cb)) rfl (by kernel_rfl) (by kernel_rfl) (by kernel_rfl) (fun _ _ _ h => h) (.inl ⟨rfl, fun _ hS => exec_load rfl rfl (load_bytesN _ _ _ _ _ _ hS.1.2)⟩) u0 ?_
          simp only [List.getElem_toArray, List.getElem_cons_succ, List.getElem_cons_zero, Act.put, List.setIfInBounds_toArray, List.set_cons_succ, List.set_cons_zero]
          refine wpAnyH_all (rs := [3]) (by kernel_rfl) (by simp) ?_
          intro k hk
          simp only [List.mem_cons, List.mem_nil_iff, or_false] at hk
          subst hk
          refine wpOp_runw rfl rfl (bs0U rfl ?_)
          have u1 := HG2.out _ (grown_refl _ _)
          rw [show w4.drew.heap.size = e1 from he1]
          refine ⟨u1, ?_⟩
          simp only [List.getElem_toArray, List.getElem_cons_succ, List.getElem_cons_zero, Act.put, List.setIfInBounds_toArray, List.set_cons_succ, List.set_cons_zero]
          refine wpAnyH_all (rs := [9]) (by kernel_rfl) (by simp) ?_
          intro k hk
          simp only [List.mem_cons, List.mem_nil_iff, or_false] at hk
          subst hk
          refine wpOp_runw rfl rfl (wp_appN _ _ rfl e1 _ [] rfl (by exact HO2.out) _ bl rfl (by exact HB3.out) (by simp only [List.length_nil]; omega) (by exact hs2) ?_)
          intro v5 w5 ho hgr
          have u2 := HG2.out w5 hgr
          have hT4 := HT3.out v5 w5 ho hgr
          clear ho hgr
          refine ⟨u2, ?_⟩
          simp only [List.getElem_toArray, List.getElem_cons_succ, List.getElem_cons_zero, Act.put, List.setIfInBounds_toArray, List.set_cons_succ, List.set_cons_zero]
          refine wpAnyH_all (rs := [10]) (by kernel_rfl) (by simp) ?_
          intro k hk
          simp only [List.mem_cons, List.mem_nil_iff, or_false] at hk
          subst hk
          refine wpOp_runw rfl rfl (wp_call_fn 15 #[.pointer (some ⟨g2, 0, none⟩), .int .i64 X, v5] (by simp [execOp, go_sem, Act.eval, resolve, invoke, enterWT]) ?_)
          refine hT4.mono ?_
          rintro e w6 ⟨a2, c2, rfl, N2, J2, N3⟩
          have u3' := And.intro (HK.out w6 J2.a.bl) (J2.c.cell 0)
          refine ⟨u3', ?_⟩
          simp only [List.getElem_toArray, List.getElem_cons_succ, List.getElem_cons_zero, Act.put, List.setIfInBounds_toArray, List.set_cons_succ, List.set_cons_zero]
          refine wpAnyH_take (i := 11) (v := (.tuple #[.slice a2 (saysW [y] X bl).length c2, .bool (okW [y] X bl)])) rfl (by kernel_rfl) (by kernel_rfl) (by kernel_rfl) (fun _ _ _ h => h) (.inl ⟨rfl, fun _ hS => rfl⟩) u3' ?_
          simp only [List.getElem_toArray, List.getElem_cons_succ, List.getElem_cons_zero, Act.put, List.setIfInBounds_toArray, List.set_cons_succ, List.set_cons_zero]
          refine wpAnyH_take (i := 12) (v := (.slice a2 (saysW [y] X bl).length c2)) rfl (by kernel_rfl) (by kernel_rfl) (by kernel_rfl) (fun _ _ _ h => h) (.inl ⟨rfl, fun _ hS => by simp [execOp, go_sem, Act.eval]⟩) u3' ?_
          simp only [List.getElem_toArray, List.getElem_cons_succ, List.getElem_cons_zero, Act.put, List.setIfInBounds_toArray, List.set_cons_succ, List.set_cons_zero]
          refine wpAnyH_take (i := 13) (v := (.bool (okW [y] X bl))) rfl (by kernel_rfl) (by kernel_rfl) (by kernel_rfl) (fun _ _ _ h => h) (.inl ⟨rfl, fun _ hS => by simp [execOp, go_sem, Act.eval]⟩) u3' ?_
          simp only [List.getElem_toArray, List.getElem_cons_succ, List.getElem_cons_zero, Act.put, List.setIfInBounds_toArray, List.set_cons_succ, List.set_cons_zero]
          refine wpAnyH_take (i := 14) (v := (.slice a2 (saysW [y] X bl).length c2)) rfl (by kernel_rfl) (by kernel_rfl) (by kernel_rfl) (fun _ _ _ h => h) (.inl ⟨rfl, fun _ hS => rfl⟩) u3' ?_
          simp only [List.getElem_toArray, List.getElem_cons_succ, List.getElem_cons_zero, Act.put, List.setIfInBounds_toArray, List.set_cons_succ, List.set_cons_zero]
          refine wpAnyH_done (by kernel_rfl) ?_ _
          clear HT3 HO2 hs2 bX HB3 cX HG2 hT4 u0 u1 u2 u3' JD J4 N4
          have HT : Hid (∃ L1 Y, RB w p g v3 g2 v4 xb X T L1 Y w6 ∧ L1[R]? = some Y ∧ Y.nd = X) := ⟨takeW l n bl, tk1 y bl, J2, by rw [takeW_get l n bl R hlR, if_pos (by rw [hnX, ← hnd, ← hlx]; exact fw_at hO hlR), hlx], by rw [tk1_nd]; exact hnd⟩
          have HMM : Hid (mineF X (saysW l n bl) = saysW [y] X bl) := by show _ = _; rw [mine_all (fun a ha => by rw [saysW_nd ha]; exact hnX)]; have := saysW_at hO hlR bl; rw [hlx, hnd] at this; rw [hnX]; exact this
          have hlen : (saysW l n bl).length ≤ 1000 := by exact hl1
          have HN1 := hidOf2 (N3)
          have HN2 := hidOf2 (N2)
          clear J2 N2 N3 hl1 xlt s4p hnX hJ hO hat hlx hnd hlR D hln hln2 r0 HK HBy HC HOK
          generalize saysW l n bl = ll at *
          generalize saysW [y] X bl = bb at *
          obtain ⟨P, hP⟩ : ∃ P, w6.heap.size = P := ⟨_, rfl⟩
          obtain ⟨x1, hx1⟩ : ∃ z, w6.alloc (.cells #[] 55) = z := ⟨_, rfl⟩
          have HM0 : Hid (Nw P (.slice (some ⟨P, 0, none⟩) 0 0) [] x1) := by rw [← hx1, ← hP]; exact own_empty_e _ _ _
          have BX1 : Hid (Below P w6 x1) := by rw [← hx1, ← hP]; exact (Below.refl _ _).alloc (Nat.le_refl _) _
          obtain ⟨a9, c9, h9, _, hc9⟩ := wide_of_own DN HN1.out
          injection h9 with h91 h92 h93
          subst h91; subst h93
          clear h92
          have HA9 : Hid (∀ (z : World), Below P w6 z → ∀ j (hj : j < ll.length), ∃ b5 o5, a1 = some ⟨b5, o5, none⟩ ∧ b5 < P ∧ z.rangeAt b5 (o5 + j * 3) (Ne.cs ll[j])) := fun z hz j hj => by
            have := Wide.at hc9 (by rw [hP]; exact hz) j hj
            rwa [hP] at this
          have HXC : Hid (∀ (z : World), Below P w6 z → z.cell? ⟨xb, 0, none⟩ = some (.int .i64 X)) := fun z hz => by
            obtain ⟨L1, Y, hRB, _⟩ := HT.out
            exact (hRB.c.below (by rw [hP]; exact hz)).cell 0
          have HP := hidOf2 hP
          obtain ⟨NN, hNN⟩ : ∃ NN, ll.length = NN := ⟨_, rfl⟩
          have HNN := hidOf2 hNN
          rw [hNN] at hlen ⊢
          clear hc9 hNN
          go_upto_region 18 with (refine BigFrame.wpList_want rfl fun K hK => wp_bs0g Try.underlying47 infoN rfl (hK _ _ ?_))
          go_wp2_with fail
          go_loopw [15, 16] (fun m s16 z => ∃ j, j ≤ NN ∧ s16 = .int .i64 (j : Nat) ∧ Nw P m (mineF X (ll.take j)) z ∧ Below P w6 z) (fun _ s16 _ => NN - (intOf s16).toNat)
          case atStart => exact ⟨0, by omega, rfl, HM0.out, BX1.out⟩
          case round =>
            clear HM0 BX1 hx1
            obtain ⟨j, hj, rfl, hNm, hbz⟩ := hrel
            by_cases hjN : j < NN
            · have hd3 : decide ((j : Int) < (NN : Int)) = true := by simp; omega
              have hjl : j < ll.length := by rw [HNN.out]; exact hjN
              obtain ⟨zd, hzd⟩ : ∃ z, wr.drew = z := ⟨_, rfl⟩
              have HB5 : Hid (Below P w6 zd) := by rw [← hzd]; exact below_drawn hbz 1
              have HN5 : Hid (Nw P u15 (mineF X (ll.take j)) zd) := by rw [← hzd]; exact hNm.drawn 1
              obtain ⟨b5, o5, rfl, hb5, hRb⟩ := HA9.out _ HB5.out j hjl
              have hxc := HXC.out _ HB5.out
              have E1 := hidOf2 (mine_next X ll j hjl)
              have hml : (mineF X (ll.take j)).length ≤ 1000 := by
                have h1 : (mineF X (ll.take j)).length ≤ (ll.take j).length := List.length_filter_le _ _
                rw [List.length_take] at h1
                omega
              generalize ll[j] = zz at *
              obtain ⟨zn, zw, zs⟩ := zz
              have n0 := hRb 0 _ rfl
              rw [Nat.add_zero] at n0
              simp only at n0
              have s0 := And.intro n0 hxc
              clear n0 hxc hNm hbz
              go_upto_region 21 with fail
              refine wp_region_held (S := fun z : World => z.cell? ⟨b5, o5 + j * 3, none⟩ = some (.int .i64 zn) ∧ z.cell? ⟨xb, 0, none⟩ = some (.int .i64 X)) (by kernel_rfl) ?_
              rw [← hzd] at s0
              change wpAnyH _ _ _ _ _ _ _ _ wr.drew
              refine wpAnyH_take (i := 0) (v := (.slice (some ⟨b5, o5, none⟩) NN c1)) rfl (by kernel_rfl) (by kernel_rfl) (by kernel_rfl) (fun _ _ _ h => h) (.inl ⟨rfl, fun _ hS => rfl⟩) s0 ?_
              simp only [List.getElem_toArray, List.getElem_cons_succ, List.getElem_cons_zero, Act.put, List.setIfInBounds_toArray, List.set_cons_succ, List.set_cons_zero]
              refine wpAnyH_take (i := 1) (v := (.int .i64 (j : Nat))) rfl (by kernel_rfl) (by kernel_rfl) (by kernel_rfl) (fun _ _ _ h => h) (.inl ⟨rfl, fun _ hS => rfl⟩) s0 ?_
              simp only [List.getElem_toArray, List.getElem_cons_succ, List.getElem_cons_zero, Act.put, List.setIfInBounds_toArray, List.set_cons_succ, List.set_cons_zero]
              refine wpAnyH_take (i := 2) (v := (.pointer (some ⟨b5, o5 + j * 3, none⟩))) rfl (by kernel_rfl) (by kernel_rfl) (by kernel_rfl) (fun _ _ _ h => h) (.inl ⟨rfl, fun _ hS => exec_idxN rfl rfl rfl hjN _⟩) s0 ?_
              simp only [List.getElem_toArray, List.getElem_cons_succ, List.getElem_cons_zero, Act.put, List.setIfInBounds_toArray, List.set_cons_succ, List.set_cons_zero]
              refine wpAnyH_take (i := 3) (v := (.pointer (some ⟨b5, o5 + j * 3, none⟩))) rfl (by kernel_rfl) (by kernel_rfl) (by kernel_rfl) (fun _ _ _ h => h) (.inl ⟨rfl, fun _ hS => by simp [execOp, go_sem, Act.eval]⟩) s0 ?_
              simp only [List.getElem_toArray, List.getElem_cons_succ, List.getElem_cons_zero, Act.put, List.setIfInBounds_toArray, List.set_cons_succ, List.set_cons_zero]
              refine wpAnyH_take (i := 4) (v := (.int .i64 zn)) rfl (by kernel_rfl) (by kernel_rfl) (by kernel_rfl) (fun _ _ _ h => h) (.inl ⟨rfl, fun _ hS => exec_load rfl rfl (load_int _ _ _ _ hS.1)⟩) s0 ?_
              simp only [List.getElem_toArray, List.getElem_cons_succ, List.getElem_cons_zero, Act.put, List.setIfInBounds_toArray, List.set_cons_succ, List.set_cons_zero]
              refine wpAnyH_take (i := 5) (v := (.pointer (some ⟨xb, 0, none⟩))) rfl (by kernel_rfl) (by kernel_rfl) (by kernel_rfl) (fun _ _ _ h => h) (.inl ⟨rfl, fun _ hS => by simp [execOp, go_sem, Act.eval]⟩) s0 ?_
              simp only [List.getElem_toArray, List.getElem_cons_succ, List.getElem_cons_zero, Act.put, List.setIfInBounds_toArray, List.set_cons_succ, List.set_cons_zero]
              refine wpAnyH_take (i := 6) (v := (.int .i64 X)) rfl (by kernel_rfl) (by kernel_rfl) (by kernel_rfl) (fun _ _ _ h => h) (.inl ⟨rfl, fun _ hS => exec_load rfl rfl (load_int _ _ _ _ hS.2)⟩) s0 ?_
              simp only [List.getElem_toArray, List.getElem_cons_succ, List.getElem_cons_zero, Act.put, List.setIfInBounds_toArray, List.set_cons_succ, List.set_cons_zero]
              refine wpAnyH_take (i := 7) (v := (.bool (zn == X))) rfl (by kernel_rfl) (by kernel_rfl) (by kernel_rfl) (fun _ _ _ h => h) (.inl ⟨rfl, fun _ hS => exec_eqI rfl rfl rfl _⟩) s0 ?_
              simp only [List.getElem_toArray, List.getElem_cons_succ, List.getElem_cons_zero, Act.put, List.setIfInBounds_toArray, List.set_cons_succ, List.set_cons_zero]
              refine wpAnyH_done (by kernel_rfl) ?_ _
              rw [hzd]
              clear s0 hzd
              by_cases hzx : zn = X
              · have dq : (zn == X) = true := by simp [hzx]
                have E2 : Hid (mineF X (ll.take (j + 1)) = mineF X (ll.take j) ++ [⟨zn, zw, zs⟩]) := by show _ = _; rw [E1.out, if_pos hzx]
                rw [dq]
                clear hzx dq
                go_upto_region 22 with fail
                obtain ⟨X2, hX2⟩ : ∃ x, zd.alloc (.cells #[.int .i64 zn, .int .i64 zw, .int .i64 zs] 55) = x := ⟨_, rfl⟩
                have BX2 : Below zd.heap.size zd X2 := by rw [← hX2]; exact (Below.refl _ _).alloc (Nat.le_refl _) _
                have HX2 : Hid (Wide 3 Ne.cs X2 (.slice (some ⟨zd.heap.size, 0, none⟩) 1 1) [⟨zn, zw, zs⟩]) := by rw [← hX2]; exact wide_ne zd ⟨zn, zw, zs⟩
                have HN6 := hidOf2 (HN5.out.below BX2)
                have HB6 := hidOf2 (HB5.out.trans (BX2.mono (by have := HB5.out.size; omega)))
                have hpP : P ≤ X2.heap.size := by have := HB6.out.size; omega
                obtain ⟨q1, hq1⟩ : ∃ q1, zd.heap.size = q1 := ⟨_, rfl⟩
                rw [hq1] at HX2
                clear BX2
                go_wp2_with (first | (refine Ne.ld (a := ⟨zn, zw, zs⟩) hRb rfl _ rfl rfl ?_; clear hRb; unfold Ne.arr; simp only) | (at_builtin; refine wpList_app DN 47 55 _ 24 Try.underlying47 infoN rfl rfl _ _ rfl P u15 (mineF X (ll.take j)) rfl (by exact HN6.out) _ [⟨zn, zw, zs⟩] rfl (by exact HX2.out) (by simp only [List.length_cons, List.length_nil, maxLen]; omega) (by simp only [List.length_cons, List.length_nil]; omega) hpP ?_; intro v' w' a1' a2'; have HN7 := hidOf2 a1'; have HB7 := hidOf2 (HB6.out.grown a2' hpP (fun j hj => own_base HN6.out hj)); clear a1' a2'))
                go_roundw
                case rel => exact ⟨j + 1, by omega, rfl, by rw [E2.out]; exact HN7.out, HB7.out⟩
                case measure => simp [intOf]; omega
              · have dq : (zn == X) = false := by simp [hzx]
                have E2 : Hid (mineF X (ll.take (j + 1)) = mineF X (ll.take j)) := by show _ = _; rw [E1.out, if_neg hzx, List.append_nil]
                rw [dq]
                clear hzx dq hRb
                go_wp2_with fail
                go_roundw
                case rel => exact ⟨j + 1, by omega, rfl, by rw [E2.out]; exact HN5.out, HB5.out⟩
                case measure => simp [intOf]; omega
            · obtain rfl : j = NN := by omega
              have hd3 : decide ((j : Int) < (j : Int)) = false := by simp
              have e5 : mineF X (ll.take j) = bb := by rw [List.take_of_length_le (by have := HNN.out; omega)]; exact HMM.out
              rw [e5] at hNm
              have hbb : bb.length ≤ 1000000 := by
                have h1 : (mineF X ll).length ≤ ll.length := List.length_filter_le _ _
                rw [HMM.out, HNN.out] at h1
                omega
              have hS := same_eq u15 (.slice a2 bb.length c2) bb wr (wide_of_own DN hNm) (wide_of_own DN (HN2.out.below (by rw [HP.out]; exact hbz))) hbb
              have HBz := hidOf2 hbz
              clear e5 hNm hbb hbz HA9 HXC
              go_wp2_with (go_at_call 19; with_reducible refine hS.mono ?_; rintro e z9 ⟨rfl, b9⟩)
              go_roundw
              case rel =>
                obtain ⟨L1, Y, hRB, h1, h2⟩ := HT.out
                exact ⟨k + 1, L1, Y, by omega, rfl, (hRB.below (by rw [HP.out]; exact HBz.out)).below b9, h1, h2⟩
              case measure => simp [intOf]; omega
        · have dn : (n == X) = false := by simp [hnX]
          rw [dn]
          clear dn
          obtain ⟨bb0, hb0⟩ : ∃ bb : List Ne, bb = [] := ⟨_, rfl⟩
          have HT : Hid (∃ L1 Y, RB w p g v3 g2 v4 xb X T L1 Y w4 ∧ L1[R]? = some Y ∧ Y.nd = X) := ⟨takeW l n bl, y, J4, by rw [takeW_get l n bl R hlR, if_neg (fw_not hlR (by rw [hlx, hnd]; exact hnX)), hlx], hnd⟩
          have HMM : Hid (mineF X (saysW l n bl) = bb0) := by show _ = _; rw [hb0]; exact mine_none (fun a ha => by rw [saysW_nd ha]; exact hnX)
          have hlen : (saysW l n bl).length ≤ 1000 := by exact hl1
          have HN1 := hidOf2 (N4)
          have HN2 := hidOf2 (show Nw 0 (.slice none 0 0) bb0 w4 from by rw [hb0]; exact Nw.nil _ _)
          clear J4 N4 hl1 hnX hb0 hJ hO hat hlx hnd hlR D hln hln2 r0 HK HBy HC HOK
          generalize saysW l n bl = ll at *
          generalize bb0 = bb at *
          obtain ⟨P, hP⟩ : ∃ P, w4.heap.size = P := ⟨_, rfl⟩
          obtain ⟨x1, hx1⟩ : ∃ z, w4.alloc (.cells #[] 55) = z := ⟨_, rfl⟩
          have HM0 : Hid (Nw P (.slice (some ⟨P, 0, none⟩) 0 0) [] x1) := by rw [← hx1, ← hP]; exact own_empty_e _ _ _
          have BX1 : Hid (Below P w4 x1) := by rw [← hx1, ← hP]; exact (Below.refl _ _).alloc (Nat.le_refl _) _
          obtain ⟨a9, c9, h9, _, hc9⟩ := wide_of_own DN HN1.out
          injection h9 with h91 h92 h93
          subst h91; subst h93
          clear h92
          have HA9 : Hid (∀ (z : World), Below P w4 z → ∀ j (hj : j < ll.length), ∃ b5 o5, a1 = some ⟨b5, o5, none⟩ ∧ b5 < P ∧ z.rangeAt b5 (o5 + j * 3) (Ne.cs ll[j])) := fun z hz j hj => by
            have := Wide.at hc9 (by rw [hP]; exact hz) j hj
            rwa [hP] at this
          have HXC : Hid (∀ (z : World), Below P w4 z → z.cell? ⟨xb, 0, none⟩ = some (.int .i64 X)) := fun z hz => by
            obtain ⟨L1, Y, hRB, _⟩ := HT.out
            exact (hRB.c.below (by rw [hP]; exact hz)).cell 0
          have HP := hidOf2 hP
          obtain ⟨NN, hNN⟩ : ∃ NN, ll.length = NN := ⟨_, rfl⟩
          have HNN := hidOf2 hNN
          rw [hNN] at hlen ⊢
          clear hc9 hNN
          go_upto_region 18 with (refine BigFrame.wpList_want rfl fun K hK => wp_bs0g Try.underlying47 infoN rfl (hK _ _ ?_))
          go_wp2_with fail
          go_loopw [15, 16] (fun m s16 z => ∃ j, j ≤ NN ∧ s16 = .int .i64 (j : Nat) ∧ Nw P m (mineF X (ll.take j)) z ∧ Below P w4 z) (fun _ s16 _ => NN - (intOf s16).toNat)
          case atStart => exact ⟨0, by omega, rfl, HM0.out, BX1.out⟩
          case round =>
            clear HM0 BX1 hx1
            obtain ⟨j, hj, rfl, hNm, hbz⟩ := hrel
            by_cases hjN : j < NN
            · have hd3 : decide ((j : Int) < (NN : Int)) = true := by simp; omega
              have hjl : j < ll.length := by rw [HNN.out]; exact hjN
              obtain ⟨zd, hzd⟩ : ∃ z, wr.drew = z := ⟨_, rfl⟩
              have HB5 : Hid (Below P w4 zd) := by rw [← hzd]; exact below_drawn hbz 1
              have HN5 : Hid (Nw P u15 (mineF X (ll.take j)) zd) := by rw [← hzd]; exact hNm.drawn 1
              obtain ⟨b5, o5, rfl, hb5, hRb⟩ := HA9.out _ HB5.out j hjl
              have hxc := HXC.out _ HB5.out
              have E1 := hidOf2 (mine_next X ll j hjl)
              have hml : (mineF X (ll.take j)).length ≤ 1000 := by
                have h1 : (mineF X (ll.take j)).length ≤ (ll.take j).length := List.length_filter_le _ _
                rw [List.length_take] at h1
                omega
              generalize ll[j] = zz at *
              obtain ⟨zn, zw, zs⟩ := zz
              have n0 := hRb 0 _ rfl
              rw [Nat.add_zero] at n0
              simp only at n0
              have s0 := And.intro n0 hxc
              clear n0 hxc hNm hbz
              go_upto_region 21 with fail
              refine wp_region_held (S := fun z : World => z.cell? ⟨b5, o5 + j * 3, none⟩ = some (.int .i64 zn) ∧ z.cell? ⟨xb, 0, none⟩ = some (.int .i64 X)) (by kernel_rfl) ?_
              rw [← hzd] at s0
              change wpAnyH _ _ _ _ _ _ _ _ wr.drew
              refine wpAnyH_take (i := 0) (v := (.slice (some ⟨b5, o5, none⟩) NN c1)) rfl (by kernel_rfl) (by kernel_rfl) (by kernel_rfl) (fun _ _ _ h => h) (.inl ⟨rfl, fun _ hS => rfl⟩) s0 ?_
              simp only [List.getElem_toArray, List.getElem_cons_succ, List.getElem_cons_zero, Act.put, List.setIfInBounds_toArray, List.set_cons_succ, List.set_cons_zero]
              refine wpAnyH_take (i := 1) (v := (.int .i64 (j : Nat))) rfl (by kernel_rfl) (by kernel_rfl) (by kernel_rfl) (fun _ _ _ h => h) (.inl ⟨rfl, fun _ hS => rfl⟩) s0 ?_
              simp only [List.getElem_toArray, List.getElem_cons_succ, List.getElem_cons_zero, Act.put, List.setIfInBounds_toArray, List.set_cons_succ, List.set_cons_zero]
              refine wpAnyH_take (i := 2) (v := (.pointer (some ⟨b5, o5 + j * 3, none⟩))) rfl (by kernel_rfl) (by kernel_rfl) (by kernel_rfl) (fun _ _ _ h => h) (.inl ⟨rfl, fun _ hS => exec_idxN rfl rfl rfl hjN _⟩) s0 ?_
              simp only [List.getElem_toArray, List.getElem_cons_succ, List.getElem_cons_zero, Act.put, List.setIfInBounds_toArray, List.set_cons_succ, List.set_cons_zero]
              refine wpAnyH_take (i := 3) (v := (.pointer (some ⟨b5, o5 + j * 3, none⟩))) rfl (by kernel_rfl) (by kernel_rfl) (by kernel_rfl) (fun _ _ _ h => h) (.inl ⟨rfl, fun _ hS => by simp [execOp, go_sem, Act.eval]⟩) s0 ?_
              simp only [List.getElem_toArray, List.getElem_cons_succ, List.getElem_cons_zero, Act.put, List.setIfInBounds_toArray, List.set_cons_succ, List.set_cons_zero]
              refine wpAnyH_take (i := 4) (v := (.int .i64 zn)) rfl (by kernel_rfl) (by kernel_rfl) (by kernel_rfl) (fun _ _ _ h => h) (.inl ⟨rfl, fun _ hS => exec_load rfl rfl (load_int _ _ _ _ hS.1)⟩) s0 ?_
              simp only [List.getElem_toArray, List.getElem_cons_succ, List.getElem_cons_zero, Act.put, List.setIfInBounds_toArray, List.set_cons_succ, List.set_cons_zero]
              refine wpAnyH_take (i := 5) (v := (.pointer (some ⟨xb, 0, none⟩))) rfl (by kernel_rfl) (by kernel_rfl) (by kernel_rfl) (fun _ _ _ h => h) (.inl ⟨rfl, fun _ hS => by simp [execOp, go_sem, Act.eval]⟩) s0 ?_
              simp only [List.getElem_toArray, List.getElem_cons_succ, List.getElem_cons_zero, Act.put, List.setIfInBounds_toArray, List.set_cons_succ, List.set_cons_zero]
              refine wpAnyH_take (i := 6) (v := (.int .i64 X)) rfl (by kernel_rfl) (by kernel_rfl) (by kernel_rfl) (fun _ _ _ h => h) (.inl ⟨rfl, fun _ hS => exec_load rfl rfl (load_int _ _ _ _ hS.2)⟩) s0 ?_
              simp only [List.getElem_toArray, List.getElem_cons_succ, List.getElem_cons_zero, Act.put, List.setIfInBounds_toArray, List.set_cons_succ, List.set_cons_zero]
              refine wpAnyH_take (i := 7) (v := (.bool (zn == X))) rfl (by kernel_rfl) (by kernel_rfl) (by kernel_rfl) (fun _ _ _ h => h) (.inl ⟨rfl, fun _ hS => exec_eqI rfl rfl rfl _⟩) s0 ?_
              simp only [List.getElem_toArray, List.getElem_cons_succ, List.getElem_cons_zero, Act.put, List.setIfInBounds_toArray, List.set_cons_succ, List.set_cons_zero]
              refine wpAnyH_done (by kernel_rfl) ?_ _
              rw [hzd]
              clear s0 hzd
              by_cases hzx : zn = X
              · have dq : (zn == X) = true := by simp [hzx]
                have E2 : Hid (mineF X (ll.take (j + 1)) = mineF X (ll.take j) ++ [⟨zn, zw, zs⟩]) := by show _ = _; rw [E1.out, if_pos hzx]
                rw [dq]
                clear hzx dq
                go_upto_region 22 with fail
                obtain ⟨X2, hX2⟩ : ∃ x, zd.alloc (.cells #[.int .i64 zn, .int .i64 zw, .int .i64 zs] 55) = x := ⟨_, rfl⟩
                have BX2 : Below zd.heap.size zd X2 := by rw [← hX2]; exact (Below.refl _ _).alloc (Nat.le_refl _) _
                have HX2 : Hid (Wide 3 Ne.cs X2 (.slice (some ⟨zd.heap.size, 0, none⟩) 1 1) [⟨zn, zw, zs⟩]) := by rw [← hX2]; exact wide_ne zd ⟨zn, zw, zs⟩
                have HN6 := hidOf2 (HN5.out.below BX2)
                have HB6 := hidOf2 (HB5.out.trans (BX2.mono (by have := HB5.out.size; omega)))
                have hpP : P ≤ X2.heap.size := by have := HB6.out.size; omega
                obtain ⟨q1, hq1⟩ : ∃ q1, zd.heap.size = q1 := ⟨_, rfl⟩
                rw [hq1] at HX2
                clear BX2
                go_wp2_with (first | (refine Ne.ld (a := ⟨zn, zw, zs⟩) hRb rfl _ rfl rfl ?_; clear hRb; unfold Ne.arr; simp only) | (at_builtin; refine wpList_app DN 47 55 _ 24 Try.underlying47 infoN rfl rfl _ _ rfl P u15 (mineF X (ll.take j)) rfl (by exact HN6.out) _ [⟨zn, zw, zs⟩] rfl (by exact HX2.out) (by simp only [List.length_cons, List.length_nil, maxLen]; omega) (by simp only [List.length_cons, List.length_nil]; omega) hpP ?_; intro v' w' a1' a2'; have HN7 := hidOf2 a1'; have HB7 := hidOf2 (HB6.out.grown a2' hpP (fun j hj => own_base HN6.out hj)); clear a1' a2'))
                go_roundw
                case rel => exact ⟨j + 1, by omega, rfl, by rw [E2.out]; exact HN7.out, HB7.out⟩
                case measure => simp [intOf]; omega
              · have dq : (zn == X) = false := by simp [hzx]
                have E2 : Hid (mineF X (ll.take (j + 1)) = mineF X (ll.take j)) := by show _ = _; rw [E1.out, if_neg hzx, List.append_nil]
                rw [dq]
                clear hzx dq hRb
                go_wp2_with fail
                go_roundw
                case rel => exact ⟨j + 1, by omega, rfl, by rw [E2.out]; exact HN5.out, HB5.out⟩
                case measure => simp [intOf]; omega
            · obtain rfl : j = NN := by omega
              have hd3 : decide ((j : Int) < (j : Int)) = false := by simp
              have e5 : mineF X (ll.take j) = bb := by rw [List.take_of_length_le (by have := HNN.out; omega)]; exact HMM.out
              rw [e5] at hNm
              have hbb : bb.length ≤ 1000000 := by
                have h1 : (mineF X ll).length ≤ ll.length := List.length_filter_le _ _
                rw [HMM.out, HNN.out] at h1
                omega
              have hS := same_eq u15 (.slice none 0 0) bb wr (wide_of_own DN hNm) (wide_of_own DN (HN2.out.below (by rw [HP.out]; exact hbz))) hbb
              have HBz := hidOf2 hbz
              clear e5 hNm hbb hbz HA9 HXC
              go_wp2_with (go_at_call 19; with_reducible refine hS.mono ?_; rintro e z9 ⟨rfl, b9⟩)
              go_roundw
              case rel =>
                obtain ⟨L1, Y, hRB, h1, h2⟩ := HT.out
                exact ⟨k + 1, L1, Y, by omega, rfl, (hRB.below (by rw [HP.out]; exact HBz.out)).below b9, h1, h2⟩
              case measure => simp [intOf]; omega
    · obtain rfl : k = M := by omega
      have hd : decide ((k : Int) < (k : Int)) = false := by simp
      have HB9 := hidOf2 hJ.a.bl
      clear hJ hat D HC HOK
      go_wp2_with (go_at_call 10; refine (HL _).mono ?_; rintro e w2 ⟨rfl, b2⟩)
      go_ret
      exact ⟨rfl, below_low HB9.out b2 hsp⟩
theorem bapa_walk (v : Value) (l : List Q18) (hl : l.length ≤ 8796093021952) (va : Value) (A : List A18) (w : World) (hA : A.length ≤ 140737488351232 ∧ ∀ a ∈ A, a.ok w) (of : Int) (hof : 0 ≤ of ∧ of < 256) (hB : Wide 2 Q18.c w v l) (hbA : Wide 3 A18.c w va A) :
    Calls Try.prog 6 #[v, va, .int .u8 of] w fun e w' => e = .returned (.bool true) ∧ Below w.heap.size w w' := by
  obtain ⟨n, rfl⟩ : ∃ n : Nat, of = n := ⟨of.toNat, by omega⟩
  have hB2 := wide_wq hB
  by_cases hc : chkW [] (l.map Q18.q) = 0
  · by_cases hn : l.map Q18.q = []
    · rw [hn] at hB2; exact bapa_nil v va n w hB2
    · exact bapa_ok v _ va A n (by omega) (by simpa using hl) w hB2 hbA hA hc hn
  · exact bapa_bad v _ va n (by simpa using hl) w hB2 hc
end Go.Proofs.Ytceomfefffngaaa
