/- Slices of what is wide that came in; slices of bytes among them. -/
import Derived.Test.YtjlbahgjjdfaeaaGreatXb1
import Derived.RangeFuncNested
import Derived.RangeFuncBound
import Derived.RangeFuncCalls
import Derived.RangeFuncLeaves
import Derived.RangeFuncBox
import Derived.Shelf.Abstract
import Derived.OwnWalkIn
import Derived.TacticsInMore
import Derived.LoopNIn
import Derived.LoopIn
import Derived.Sort.QuietIn
import Derived.Lib.SlBytesConst
import Derived.Test.YtjlbahgjjdfaeaaGreatRows
import Derived.ProofKit
import Derived.OpenShut
import Derived.ShutString
import Derived.ChangeOld
import Derived.SizedLaws
namespace Go.Proofs.YtjlbahgjjdfaeaaGreat.Nz
open Go.RowKit Go.Shelf Go.Proofs.Ty Go.Proofs.Nv Go.Proofs.Bits
set_option linter.unusedVariables false
set_option maxRecDepth 1000000
set_option linter.unusedSimpArgs false
attribute [local go_sem] Oper.semAt_some
/-- The part of a slice that a round has. -/
def chV (b off len j : Nat) : Value := .slice (some ⟨b, off + 8 * j, none⟩) (min 8 (len - 8 * j)) (min 8 (len - 8 * j))
theorem chunk_sl (b off len cap j e : Nat) (h1 : 8 * j < len) (h2 : len ≤ cap) (he : e = 8 * j + min 8 (len - 8 * j)) (W : World) : (Instr.sliceAt 24 (.slice (some ⟨b, off, none⟩) len cap) (some (.int .i64 (8 * j : Nat))) (some (.int .i64 (e : Nat))) (some (.int .i64 (e : Nat)))).run Tryz.prog W = .ok (chV b off len j) W := by
  obtain ⟨i0, hi0, hz0, hz1, hz2⟩ := info_parts info5
  have a0 : (0 : Int) ≤ ((8 * j : Nat) : Int) := by omega
  have a1 : ((8 * j : Nat) : Int) ≤ (e : Int) := by omega
  have a2 : (e : Int) ≤ (cap : Int) := by omega
  have a3 : ¬ (e = 8 * j) := by omega
  have a4 : e - 8 * j = min 8 (len - 8 * j) := by omega
  unfold chV
  rw [← a4]
  generalize 8 * j = x at *
  simp [Instr.sliceAt, run_underlying Tryz.underlying24, go_sem, sizeOf, typeInfo, hi0, hz1, Addr.add, a0, a1, a2, a3]
  try (intro hx; subst hx; rfl)
theorem chunk_tl (b off len cap j : Nat) (h1 : 8 * j < len) (h2 : len ≤ cap) (W : World) : (Instr.sliceAt 24 (.slice (some ⟨b, off, none⟩) len cap) (some (.int .i64 (8 * j : Nat))) none none).run Tryz.prog W = .ok (.slice (some ⟨b, off + 8 * j, none⟩) (len - 8 * j) (cap - 8 * j)) W := by
  obtain ⟨i0, hi0, hz0, hz1, hz2⟩ := info_parts info5
  have a0 : (0 : Int) ≤ ((8 * j : Nat) : Int) := by omega
  have a1 : ((8 * j : Nat) : Int) ≤ (len : Int) := by omega
  have a2 : (len : Int) ≤ (cap : Int) := by omega
  have a3 : ¬ (cap = 8 * j) := by omega
  generalize 8 * j = x at *
  simp [Instr.sliceAt, run_underlying Tryz.underlying24, go_sem, sizeOf, typeInfo, hi0, hz1, Addr.add, a0, a1, a2, a3]
  try (intro hx; subst hx; rfl)
/-- Two blocks stay. -/
def Kpp (s n : Nat) (W W' : World) : Prop := W'.heap[s]? = W.heap[s]? ∧ W'.heap[n]? = W.heap[n]?
theorem Kpp.trans {s n : Nat} {A B C : World} (h : Kpp s n A B) (k : Kpp s n B C) : Kpp s n A C := ⟨k.1.trans h.1, k.2.trans h.2⟩
set_option maxRecDepth 100000 in
set_option maxHeartbeats 4000000 in
theorem chunk1_in (l Bs Bn len cap b off : Nat) (h2 : len ≤ cap) (hr : len ≤ 1000000) (hl0 : 0 < len) (J Jx : List Nat → World → Prop)
    (hJd : ∀ s W n, J s W → J s (W.drewN n))
    (hY : ∀ pre x W, J pre W → pre.length < (len + 7) / 8 → YieldAt Fence.wide (3 - 1) Tryz.prog l #[chV b off len x] W fun e W' =>
      (e = .returned (.bool true) ∧ J (pre ++ [x]) W' ∧ Kpp Bs Bn W W') ∨ (e = .returned (.bool false) ∧ Jx (pre ++ [x]) W'))
    (W : World) (hBs : W.heap[Bs]? = some (.cells #[.slice (some ⟨b, off, none⟩) len cap] 24 (0, 0))) (hBn : W.heap[Bn]? = some (.cells #[.int .i64 8] 3 (0, 0))) (h0 : J [] W) :
    CallsIn Fence.wide 3 Tryz.prog 72 #[.func (.yield l) #[] #[], .pointer (some ⟨Bs, 0, none⟩), .pointer (some ⟨Bn, 0, none⟩)] W fun e W' => (∃ v, e = .returned v) ∧
      ((∃ ys, ys = List.range ((len + 7) / 8) ∧ J ys W') ∨ (∃ pre, (∃ k, k ≤ (len + 7) / 8 ∧ pre = List.range k) ∧ Jx pre W')) := by
  refine callsIn_of_wp Tryz.func72 rfl trivial ?_ rfl
  simp only [Tryz.ntmps72, List.size_toArray, List.length_cons, List.length_nil, Nat.reduceAdd, Nat.reduceSub, Array.replicate_succ, Array.replicate_zero, List.push_toArray, List.append_toArray, List.nil_append, List.cons_append]
  gi_wp2
  gi_loopw [4] (fun i wr => ∃ k : Nat, k ≤ (len + 7) / 8 ∧ i = .int .i64 (8 * k : Nat) ∧ J (List.range k) wr ∧ Kpp Bs Bn W wr)
    (fun i _ => len + 8 - (intOf i).toNat)
  case atStart => exact ⟨0, Nat.zero_le _, rfl, h0, rfl, rfl⟩
  case round =>
    obtain ⟨k, hk, rfl, hJs, hkp⟩ := hrel
    have hs := hkp.1.trans hBs
    have hn := hkp.2.trans hBn
    have cs : wr.cell? ⟨Bs, 0, none⟩ = some (.slice (some ⟨b, off, none⟩) len cap) := Lib.cell_of_heap hs 0
    have cn : wr.cell? ⟨Bn, 0, none⟩ = some (.int .i64 8) := Lib.cell_of_heap hn 0
    by_cases hlt : 8 * k < len
    · obtain ⟨x, hx⟩ : ∃ x, 8 * k = x := ⟨_, rfl⟩
      obtain ⟨N, hN⟩ : ∃ N, len - x = N := ⟨_, rfl⟩
      obtain ⟨m, hm⟩ : ∃ m, min 8 N = m := ⟨_, rfl⟩
      have htl := chunk_tl b off len cap k hlt h2
      have hsl := chunk_sl b off len cap k (x + m) hlt h2 (by rw [hx, hN, hm])
      rw [hx] at htl hsl hlt ⊢
      rw [hN] at htl
      rw [Int.natCast_add] at hsl
      have hmn : min (8 : Int) (N : Int) = (m : Int) := by omega
      have hyd := fun nq => hY (List.range k) k (wr.drewN nq) (hJd _ _ nq hJs) (by rw [List.length_range]; omega)
      have HX := hidOf hx
      have HJd := hidOf hJd
      have hb1 : m ≤ 8 := by omega
      have hx1 : x < len := hlt
      have hd : decide ((x : Int) < (len : Int)) = true := by simp; omega
      have HK := hidOf hkp
      have HFN : Hid (∀ nq W3, Kpp Bs Bn (wr.drewN nq) W3 → Kpp Bs Bn W W3) := fun nq W3 h3 => hkp.trans h3
      have HN2 : Hid (∀ nq W3, Kpp Bs Bn (wr.drewN nq) W3 → W3.cell? ⟨Bn, 0, none⟩ = some (.int .i64 8)) := fun nq W3 h3 => Lib.cell_of_heap (h3.2.trans hn) 0
      clear hx hN hm hkp hs hn hY hBs hBn
      gi_wp2_with fail
      gi_quiet (fail)
      obtain ⟨fn, tmps, assign, body, hy, hR⟩ := hyd nq
      clear hyd
      gi_wp2
      refine hR.mono ?_
      rintro e W3 (⟨rfl, hJ3, hk3⟩ | ⟨rfl, hJx3⟩)
      · have cn3 := HN2.out nq W3 hk3
        have HK3 := hidOf (HFN.out nq W3 hk3)
        clear hk3 HN2 HFN hR hy
        gi_wp2
        go_roundw
        case rel => exact ⟨k + 1, by have := HX.out; omega, val_intM (by have := HX.out; omega), by rw [List.range_succ]; exact hJ3, HK3.out⟩
        case measure => simp [intOf]; omega
      · clear HN2 HFN hR hy
        gi_wp2
        refine bodyPost_ret (results_none rfl _ _ _) rfl ?_
        exact ⟨⟨_, rfl⟩, .inr ⟨_, ⟨k + 1, by have := HX.out; omega, List.range_succ.symm⟩, hJx3⟩⟩
    · have hd : decide (((8 * k : Nat) : Int) < (len : Int)) = false := by simp; omega
      obtain rfl : k = (len + 7) / 8 := by omega
      gi_wp2
      go_end0
      exact ⟨⟨_, rfl⟩, .inl ⟨_, rfl, hJs⟩⟩
set_option maxRecDepth 100000 in
set_option maxHeartbeats 4000000 in
theorem chunk0_in (l Bs Bn cap : Nat) (ao : Option Addr) (J : List Nat → World → Prop)
    (W : World) (hBs : W.heap[Bs]? = some (.cells #[.slice ao 0 cap] 24 (0, 0))) (h0 : J [] W) :
    CallsIn Fence.wide 3 Tryz.prog 72 #[.func (.yield l) #[] #[], .pointer (some ⟨Bs, 0, none⟩), .pointer (some ⟨Bn, 0, none⟩)] W fun e W' => (∃ v, e = .returned v) ∧ J [] W' := by
  have cs : W.cell? ⟨Bs, 0, none⟩ = some (.slice ao 0 cap) := Lib.cell_of_heap hBs 0
  refine callsIn_of_wp Tryz.func72 rfl trivial ?_ rfl
  simp only [Tryz.ntmps72, List.size_toArray, List.length_cons, List.length_nil, Nat.reduceAdd, Nat.reduceSub, Array.replicate_succ, Array.replicate_zero, List.push_toArray, List.append_toArray, List.nil_append, List.cons_append]
  gi_wp2
  gi_loopw [4] (fun i wr => i = .int .i64 0 ∧ wr = W) (fun _ _ => 0)
  case atStart => exact ⟨rfl, rfl⟩
  case round =>
    obtain ⟨rfl, rfl⟩ := hrel
    gi_wp2
    go_end0
    exact ⟨⟨_, rfl⟩, h0⟩
theorem Chunk_any (v : Value) (w : World) (hv : v.oneCell' = true) (hs : ∃ ao n c, v = .slice ao n c) : CallsIn Fence.wide 3 Tryz.prog 45 #[v, .int .i64 8] w fun e w' => e = .returned (.func (.func 72) #[] #[.pointer (some ⟨w.heap.size, 0, none⟩), .pointer (some ⟨w.heap.size + 1, 0, none⟩)]) ∧ w' = (w.alloc (.cells #[v] 24)).alloc (.cells #[.int .i64 8] 3) := by
  obtain ⟨ao, n, c, rfl⟩ := hs
  refine callsIn_of_wp Tryz.func45 rfl trivial ?_ rfl
  simp only [Tryz.ntmps45, List.size_toArray, List.length_cons, List.length_nil, Nat.reduceAdd, Nat.reduceSub, Array.replicate_succ, Array.replicate_zero, List.push_toArray, List.append_toArray, List.nil_append, List.cons_append]
  gi_wp2
  go_ret
  exact ⟨rfl, rfl⟩
/-- What Chunk hands back hands on the parts one behind the other, or the first ones of them. -/
theorem chunk_stops (Bs Bn len cap b off : Nat) (ao : Option Addr) (w : World) (h2 : len ≤ cap) (hr : len ≤ 1000000) (hao : 0 < len → ao = some ⟨b, off, none⟩)
    (hBs : w.heap[Bs]? = some (.cells #[.slice ao len cap] 24 (0, 0))) (hBn : w.heap[Bn]? = some (.cells #[.int .i64 8] 3 (0, 0))) :
    SeqStopsK Fence.wide 3 Tryz.prog 72 #[.pointer (some ⟨Bs, 0, none⟩), .pointer (some ⟨Bn, 0, none⟩)] (fun x : Nat => #[chV b off len x]) (Kpp Bs Bn) (fun ys => ys = List.range ((len + 7) / 8)) (fun pre => ∃ k, k ≤ (len + 7) / 8 ∧ pre = List.range k) ((len + 7) / 8) w := fun l J Jx W hW hJ _ hY h0 => by
  have hs := (hW.block Bs (Array.getElem?_eq_some_iff.1 hBs).1).trans hBs
  have hn := (hW.block Bn (Array.getElem?_eq_some_iff.1 hBn).1).trans hBn
  have hJd : ∀ s W n, J s W → J s (W.drewN n) := fun s A n hs => hJ s A (A.drewN n) none hs ⟨rfl, rfl, rfl, Nat.le_refl _, fun _ _ _ => rfl⟩ (fun r e => by cases e)
  by_cases h : 0 < len
  · obtain rfl := hao h
    exact chunk1_in l Bs Bn len cap b off h2 hr h J Jx hJd hY W hs hn h0
  · obtain rfl : len = 0 := by omega
    exact (chunk0_in l Bs Bn cap ao J W hs h0).mono fun e W' ⟨he, hj⟩ => ⟨he, .inl ⟨_, rfl, hj⟩⟩
end Go.Proofs.YtjlbahgjjdfaeaaGreat.Nz
namespace Go.Proofs.YtjlbahgjjdfaeaaGreat.Nz
open Go.RowKit Go.Shelf Go.Proofs.Ty Go.Proofs.Nv Go.Proofs.Bits
set_option linter.unusedVariables false
set_option maxRecDepth 1000000
set_option linter.unusedSimpArgs false
attribute [local go_sem] Oper.semAt_some
/-- Parts written one behind the other, whichever they are. -/
def wrF (c : Ch) (page : Nat) (b : List UInt8) (l : List Nat) : (Ch × Bool) × Nat :=
  l.foldl (fun s j => (if s.1.2 then s.1.1.wr ((page + s.2 : Nat) : Int) (pad (chunk b j)) else s.1, s.2 + 1)) ((c, true), 0)
theorem wrF_snoc (c : Ch) (page : Nat) (b : List UInt8) (l : List Nat) (j : Nat) : wrF c page b (l ++ [j]) = (if (wrF c page b l).1.2 then (wrF c page b l).1.1.wr ((page + (wrF c page b l).2 : Nat) : Int) (pad (chunk b j)) else (wrF c page b l).1, (wrF c page b l).2 + 1) := by
  simp [wrF]
theorem wrF_snd (c : Ch) (page : Nat) (b : List UInt8) (l : List Nat) : (wrF c page b l).2 = l.length := by
  have : ∀ (l : List Nat) (s : (Ch × Bool) × Nat), (l.foldl (fun s j => (if s.1.2 then s.1.1.wr ((page + s.2 : Nat) : Int) (pad (chunk b j)) else s.1, s.2 + 1)) s).2 = s.2 + l.length := by
    intro l
    induction l with
    | nil => intro s; rfl
    | cons j r ih => intro s; rw [List.foldl_cons, ih]; simp only [List.length_cons]; omega
  have h := this l ((c, true), 0)
  rw [Nat.zero_add] at h
  exact h
theorem wrF_range (c : Ch) (page : Nat) (b : List UInt8) (k : Nat) : (wrF c page b (List.range k)).1 = c.wrK page b k := by
  induction k with
  | zero => rfl
  | succ k ih =>
    rw [List.range_succ, wrF_snoc, wrF_snd, ih, List.length_range]
    rfl
theorem wrK_stop (c : Ch) (page : Nat) (b : List UInt8) (k m : Nat) (h : (c.wrK page b k).2 = false) (hm : k ≤ m) : c.wrK page b m = c.wrK page b k := by
  induction m with
  | zero => obtain rfl : k = 0 := by omega
            rfl
  | succ m ih =>
    by_cases e : k = m + 1
    · rw [e]
    · have := ih (by omega)
      simp only [Ch.wrK, this, h]
      simp
/-- A slice whose block is neither of two. -/
def Ap (C P : Nat) (v : Value) : Prop := ∀ b off n c, v = .slice (some ⟨b, off, none⟩) n c → b ≠ C ∧ b ≠ P
theorem _root_.Go.Proofs.YtjlbahgjjdfaeaaGreat.Bytes.two {C P : Nat} {w w' : World} {v : Value} {l : List UInt8} (h : Bytes w v l) (hap : Ap C P v) (t : Two C P w w') : Bytes w' v l := by
  obtain ⟨ao, cap, hv, h0, hc⟩ := h
  refine ⟨ao, cap, hv, h0, fun k hk => ?_⟩
  obtain ⟨b, off, ha, hlt, hcell⟩ := hc k hk
  obtain ⟨h1, h2⟩ := hap b off _ _ (by rw [hv, ha])
  refine ⟨b, off, ha, Nat.lt_of_lt_of_le hlt t.size, ?_⟩
  rw [← hcell]
  simp only [World.cell?, t.block b hlt h1 h2]
theorem Two.keeps {C P B : Nat} {w w' : World} (t : Two C P w w') (h1 : C < B) (h2 : P < B) : KeepsFrom B w w' :=
  ⟨t.size, fun k o hB hk _ => by
    have := (Array.getElem?_eq_some_iff.1 hk).1
    exact (t.block k this (by omega) (by omega)).trans hk⟩
theorem Two.putN {C P : Nat} {w W : World} (t : Two C P w W) {D : Nat} (hD : w.heap.size ≤ D) (o : Obj) : Two C P w (W.putObj D o) :=
  ⟨t.os, t.tape, t.output, by simpa [World.putObj] using t.size, fun k hk h1 h2 => (World.putObj_heap_other (by omega)).trans (t.block k hk h1 h2)⟩
theorem inV {l n : Nat} {o : Oper} {a : Act} {w w' : World} {ops : Array Oper} {rest : List Oper} {Q : Exit → Act → World → Prop} {v : Value} (hg : o.guard = none) (hd : ((Fence.wide.inRound l).round) = some l) (hr : (execOp a.eval o).run Tryz.prog w = .ok (.value v) w') (hs : o.semAt (some l) a.eval = execOp a.eval o)
    (h : wpListIn (Fence.wide.inRound l) n Tryz.prog ops Q rest (a.put o.dst v) w') : wpListIn (Fence.wide.inRound l) n Tryz.prog ops Q (o :: rest) a w :=
  wpListIn_plain hg fun K hK => ⟨fun _ _ => trivial, by rw [hd, hs, hr]; exact hK _ _ h⟩
theorem copy_exec {o : Oper} {a : Act} {w w' : World} {d s : Operand} {t t' : TypeId} {v u v' : Value} (ho : o.op = .call { callee := .builtin .copy, args := #[d, s], argTypes := #[t, t'] }) (hd : a.eval d = v) (hs : a.eval s = u)
    (hr : (Builtin.copy_ #[t, t'] o.type #[v, u]).run Tryz.prog w = .ok v' w') : (execOp a.eval o).run Tryz.prog w = .ok (.value v') w' := by
  unfold execOp
  simp only [ho, resolve, invoke, builtin, Sem.run_bind, Sem.run_pure, Result.andThen_ok, List.map_toArray, List.map_cons, List.map_nil, hd, hs, hr]
/-- What stands between two rounds. -/
structure Wb (w : World) (C P q : Nat) (v : Value) (b : List UInt8) (d : Ch) (pg : Nat) (W : World) : Prop where
  b3 : W.heap[q]? = some (.cells #[.pointer (some ⟨C, 0, none⟩)] 28 (0, 0))
  b4 : W.heap[q + 1]? = some (.cells #[.int .i64 pg] 3 (0, 0))
  b6 : W.heap[q + 2]? = some (.cells #[.bool false] 4 (0, 0))
  chip : Cm C P d W
  by_ : Bytes W v b
  old : Two C P w W
  sz : q + 5 ≤ W.heap.size
theorem grown_cells {A B : World} {row : Option Nat} {k : Nat} {cs : Array Value} {T : TypeId} {fr : Nat × Nat} (h : A.heap[k]? = some (.cells cs T fr)) (hg : A.grownBy B row) (hr : ∀ r, row = some r → ∃ o : Obj, A.heap[r]? = some o ∧ o.isCells = false) : B.heap[k]? = A.heap[k]? := by
  refine hg.block k (Array.getElem?_eq_some_iff.1 h).1 (fun e => ?_)
  obtain ⟨o, ho, hc⟩ := hr k e.symm
  rw [h] at ho
  injection ho with ho
  subst ho
  cases hc
theorem Wb.grown {w : World} {C P q : Nat} {v : Value} {b : List UInt8} {d : Ch} {pg B : Nat} {A W : World} {row : Option Nat} (h : Wb w C P q v b d pg A) (hB : w.heap.size ≤ B) (hg : A.grownBy W row) (hr : ∀ r, row = some r → B ≤ r ∧ ∃ o : Obj, A.heap[r]? = some o ∧ o.isCells = false) : Wb w C P q v b d pg W := by
  have hr2 := fun r e => (hr r e).2
  refine ⟨(grown_cells h.b3 hg hr2).trans h.b3, (grown_cells h.b4 hg hr2).trans h.b4, (grown_cells h.b6 hg hr2).trans h.b6, h.chip.kept (grown_cells h.chip.head hg hr2) (grown_cells h.chip.pages hg hr2), ?_, ?_, Nat.le_trans h.sz hg.size⟩
  · obtain ⟨ao, cap, hv, h0, hc⟩ := h.by_
    refine ⟨ao, cap, hv, h0, fun k hk => ?_⟩
    obtain ⟨b', off, ha, hlt, hcell⟩ := hc k hk
    refine ⟨b', off, ha, Nat.lt_of_lt_of_le hlt hg.size, ?_⟩
    have hex : ∃ cs T fr, A.heap[b']? = some (.cells cs T fr) := by
      simp only [World.cell?] at hcell
      split at hcell
      · rename_i cs T fr hh; exact ⟨cs, T, fr, hh⟩
      · cases hcell
    obtain ⟨cs, T, fr, hh⟩ := hex
    rw [← hcell]
    simp only [World.cell?, grown_cells hh hg hr2]
  · exact ⟨hg.os.trans h.old.os, hg.tape.trans h.old.tape, hg.output.trans h.old.output, Nat.le_trans h.old.size hg.size, fun k hk h1 h2 => (hg.block k (Nat.lt_of_lt_of_le hk h.old.size) (fun e => by have := (hr k e.symm).1; omega)).trans (h.old.block k hk h1 h2)⟩
theorem Wb.two {w : World} {C P q : Nat} {v : Value} {b : List UInt8} {d dn : Ch} {pg : Nat} {W X : World} (h : Wb w C P q v b d pg W) (hC : C < q) (hP : P < q) (hap : Ap C P v) (hch : Cm C P dn X) (t : Two C P W X) : Wb w C P q v b dn pg X :=
  ⟨(t.block q (Array.getElem?_eq_some_iff.1 h.b3).1 (by omega) (by omega)).trans h.b3, (t.block (q + 1) (Array.getElem?_eq_some_iff.1 h.b4).1 (by omega) (by omega)).trans h.b4, (t.block (q + 2) (Array.getElem?_eq_some_iff.1 h.b6).1 (by omega) (by omega)).trans h.b6, hch, h.by_.two hap t, h.old.trans t, Nat.le_trans h.sz t.size⟩
theorem bytes_set1 {w : World} {v u u0 : Value} {l : List UInt8} {q : Nat} {T : TypeId} (h : Bytes w v l) (hq : w.heap[q]? = some (.cells #[u0] T (0, 0))) (hu : ∀ n, u0 ≠ .int .u8 n) : Bytes (w.setCell ⟨q, 0, none⟩ u) v l := by
  obtain ⟨ao, cap, hv, h0, hc⟩ := h
  refine ⟨ao, cap, hv, h0, fun k hk => ?_⟩
  obtain ⟨b, off, ha, hlt, hcell⟩ := hc k hk
  have hne : b ≠ q := by
    intro e
    subst e
    rw [Lib.cell_of_heap hq] at hcell
    generalize off + k = j at hcell
    match j, hcell with
    | 0, hcell => simp at hcell; exact hu _ hcell
    | j + 1, hcell => simp at hcell
  refine ⟨b, off, ha, by simpa [World.setCell] using hlt, ?_⟩
  rw [← hcell]
  exact World.cell?_of_block (Below.heap_setCell w ⟨q, 0, none⟩ u b hne)
theorem set1_heap {w : World} {q : Nat} {u0 : Value} {T : TypeId} (hq : w.heap[q]? = some (.cells #[u0] T (0, 0))) (u : Value) : (w.setCell ⟨q, 0, none⟩ u).heap[q]? = some (.cells #[u] T (0, 0)) := by
  simp only [World.setCell, Array.getElem?_modify, hq]
  simp
theorem Wb.next {w : World} {C P q : Nat} {v : Value} {b : List UInt8} {d : Ch} {pg : Nat} {W : World} (h : Wb w C P q v b d pg W) (hC : C < q) (hP : P < q) (hq : w.heap.size ≤ q) (pg' : Nat) : Wb w C P q v b d pg' (W.setCell ⟨q + 1, 0, none⟩ (.int .i64 pg')) := by
  have e : ∀ k, k ≠ q + 1 → (W.setCell ⟨q + 1, 0, none⟩ (.int .i64 pg')).heap[k]? = W.heap[k]? := fun k hk => Below.heap_setCell W ⟨q + 1, 0, none⟩ _ k hk
  exact ⟨(e q (by omega)).trans h.b3, set1_heap h.b4 _, (e (q + 2) (by omega)).trans h.b6, h.chip.kept (e C (by omega)) (e P (by omega)), bytes_set1 h.by_ h.b4 (fun n e => by cases e), h.old.setCell (p := ⟨q + 1, 0, none⟩) (.inr (.inr (by show w.heap.size ≤ q + 1; omega))) _, by simpa [World.setCell] using h.sz⟩
theorem Wb.same {w : World} {C P q : Nat} {v : Value} {b : List UInt8} {d : Ch} {pg : Nat} {W : World} (h : Wb w C P q v b d pg W) (hC : C < q) (hP : P < q) (hq : w.heap.size ≤ q) : Wb w C P q v b d pg (W.setCell ⟨q + 2, 0, none⟩ (.bool false)) := by
  have e : ∀ k, k ≠ q + 2 → (W.setCell ⟨q + 2, 0, none⟩ (.bool false)).heap[k]? = W.heap[k]? := fun k hk => Below.heap_setCell W ⟨q + 2, 0, none⟩ _ k hk
  exact ⟨(e q (by omega)).trans h.b3, (e (q + 1) (by omega)).trans h.b4, set1_heap h.b6 _, h.chip.kept (e C (by omega)) (e P (by omega)), bytes_set1 h.by_ h.b6 (fun n e => by cases e), h.old.setCell (p := ⟨q + 2, 0, none⟩) (.inr (.inr (by show w.heap.size ≤ q + 2; omega))) _, by simpa [World.setCell] using h.sz⟩
section
variable {C P : Nat} {c : Ch} {w : World}
theorem pad_cells (b : List UInt8) (h : b.length ≤ 8) : putA (byC zero8).toArray 0 b = (byC (pad b)).toArray := by
  unfold putA pad
  rw [List.take_zero, List.nil_append, byC_len, Nat.zero_add]
  congr 1
  show Lib.byteCells b ++ List.drop b.length (Lib.byteCells zero8) = Lib.byteCells (b ++ List.replicate (8 - b.length) 0)
  rw [Lib.byteCells_append]
  congr 1
  rw [show Lib.byteCells zero8 = List.replicate 8 (.int .u8 0) from rfl, List.drop_replicate]
  simp [Lib.byteCells]
set_option maxRecDepth 100000 in
set_option maxHeartbeats 8000000 in
theorem writeBytes_any (h : Cm C P c w) (page : Nat) (hp : page ≤ 100000) (v : Value) (b : List UInt8) (hb : b.length ≤ 1000000) (hB : Bytes w v b) (hap : Ap C P v) (hcp : ∀ ao n k, v = .slice ao n k → n ≤ k) :
    Calls Tryz.prog 25 #[.pointer (some ⟨C, 0, none⟩), .int .i64 page, v] w fun e w' => e = .returned (.bool (c.wrK page b (nch b)).2) ∧ Cm C P (c.wrK page b (nch b)).1 w' ∧ Two C P w w' := by
  have hone := oneSlice hB
  obtain ⟨ao, cap, rfl⟩ := bytes_shapeN hB
  have hcap := hcp _ _ _ rfl
  have hsh : ∃ ao' n c', (Value.slice ao b.length cap) = .slice ao' n c' := ⟨_, _, _, rfl⟩
  obtain ⟨bb, off, hao⟩ : ∃ bb off, 0 < b.length → ao = some ⟨bb, off, none⟩ := by
    by_cases h0 : 0 < b.length
    · obtain ⟨ao', cap', hv, _, hc⟩ := hB
      obtain ⟨b', off', ha, _⟩ := hc 0 h0
      injection hv with e1 _ _
      exact ⟨b', off', fun _ => by rw [e1, ha]⟩
    · exact ⟨0, 0, fun h => absurd h h0⟩
  have HST : Hid (∀ (Bs Bn : Nat) (W : World), W.heap[Bs]? = some (.cells #[.slice ao b.length cap] 24 (0, 0)) → W.heap[Bn]? = some (.cells #[.int .i64 8] 3 (0, 0)) →
      SeqStopsK Fence.wide 3 Tryz.prog 72 #[.pointer (some ⟨Bs, 0, none⟩), .pointer (some ⟨Bn, 0, none⟩)] (fun x : Nat => #[chV bb off b.length x]) (Kpp Bs Bn) (fun ys => ys = List.range ((b.length + 7) / 8)) (fun pre => ∃ k, k ≤ (b.length + 7) / 8 ∧ pre = List.range k) ((b.length + 7) / 8) W) :=
    fun Bs Bn W h1 h2 => chunk_stops Bs Bn b.length cap bb off ao W hcap hb hao h1 h2
  obtain ⟨q, hq⟩ : ∃ q, w.heap.size = q := ⟨_, rfl⟩
  obtain ⟨u1, hu1⟩ : ∃ x, w.alloc (.cells #[.pointer (some ⟨C, 0, none⟩)] 28) = x := ⟨_, rfl⟩
  obtain ⟨u2, hu2⟩ : ∃ x, u1.alloc (.cells #[.int .i64 page] 3) = x := ⟨_, rfl⟩
  obtain ⟨w1, hw1⟩ : ∃ x, u2.alloc (.cells #[.bool false] 4) = x := ⟨_, rfl⟩
  have su1 : u1.heap.size = q + 1 := by rw [← hu1, size_alloc, hq]
  have su2 : u2.heap.size = q + 2 := by rw [← hu2, size_alloc, su1]
  have hs1 : w1.heap.size = q + 3 := by rw [← hw1, size_alloc, su2]
  have bu1 : Below w.heap.size w u1 := by rw [← hu1]; exact (Below.refl _ w).alloc (Nat.le_refl _) _
  have bu2 : Below u1.heap.size u1 u2 := by rw [← hu2]; exact (Below.refl _ u1).alloc (Nat.le_refl _) _
  have bu3 : Below u2.heap.size u2 w1 := by rw [← hw1]; exact (Below.refl _ u2).alloc (Nat.le_refl _) _
  have B1 : Below w.heap.size w w1 := (bu1.trans (bu2.mono bu1.size)).trans (bu3.mono (bu1.trans (bu2.mono bu1.size)).size)
  have x3 : w1.heap[q]? = some (.cells #[.pointer (some ⟨C, 0, none⟩)] 28 (0, 0)) := (bu3.block q (by omega)).trans ((bu2.block q (by omega)).trans (by rw [← hu1, ← hq]; exact heap_alloc_new w _))
  have x4 : w1.heap[q + 1]? = some (.cells #[.int .i64 page] 3 (0, 0)) := (bu3.block (q + 1) (by omega)).trans (by rw [← hu2, ← su1]; exact heap_alloc_new u1 _)
  have x6 : w1.heap[q + 2]? = some (.cells #[.bool false] 4 (0, 0)) := by rw [← hw1, ← su2]; exact heap_alloc_new u2 _
  obtain ⟨u4, hu4⟩ : ∃ x, w1.alloc (.cells #[.slice ao b.length cap] 24) = x := ⟨_, rfl⟩
  obtain ⟨w2, hw2⟩ : ∃ x, u4.alloc (.cells #[.int .i64 8] 3) = x := ⟨_, rfl⟩
  have su4 : u4.heap.size = q + 4 := by rw [← hu4, size_alloc, hs1]
  have hs2 : w2.heap.size = q + 5 := by rw [← hw2, size_alloc, su4]
  have bu4 : Below w1.heap.size w1 u4 := by rw [← hu4]; exact (Below.refl _ w1).alloc (Nat.le_refl _) _
  have bu5 : Below u4.heap.size u4 w2 := by rw [← hw2]; exact (Below.refl _ u4).alloc (Nat.le_refl _) _
  have b2 : Below w1.heap.size w1 w2 := bu4.trans (bu5.mono bu4.size)
  have B2 := B1.trans (b2.mono B1.size)
  have hBs : w2.heap[q + 3]? = some (.cells #[.slice ao b.length cap] 24 (0, 0)) := (bu5.block (q + 3) (by omega)).trans (by rw [← hu4, ← hs1]; exact heap_alloc_new w1 _)
  have hBn : w2.heap[q + 4]? = some (.cells #[.int .i64 8] 3 (0, 0)) := by rw [← hw2, ← su4]; exact heap_alloc_new u4 _
  have hlt := h.lt
  have hltP := h.ltP
  have HWB : Hid (Wb w C P q (.slice ao b.length cap) b c page w2) := ⟨(b2.block q (by omega)).trans x3, (b2.block (q + 1) (by omega)).trans x4, (b2.block (q + 2) (by omega)).trans x6, h.below B2, hB.below B2, Two.of_below B2 C P, by omega⟩
  have hseq := HST.out (q + 3) (q + 4) w2 hBs hBn
  have HAP := hidOf hap
  have HAO := hidOf hao
  clear hcp hcap hao HST x3 x4 x6 B1 b2 B2 hBs hBn h hB hap bu1 bu2 bu3 bu4 bu5
  refine (callsIn_wide (n := 4)).1 ?_
  refine callsIn_of_wp_marks Tryz.func25 rfl trivial ?_ rfl
  simp only [Tryz.ntmps25, List.size_toArray, List.length_cons, List.length_nil, Nat.reduceAdd, Nat.reduceSub, Array.replicate_succ, Array.replicate_zero, List.push_toArray, List.append_toArray, List.nil_append, List.cons_append]
  gi_wp2_with (refine ⟨trivial, ?_⟩; gi_at_call 45; refine (Chunk_any _ _ hone hsh).mono ?_; rintro e w' ⟨rfl, rfl⟩)
  refine wpIn_rangeFunc_ownG (F := Fence.wide) rfl (by omega) (gf := 72) (lb := #[.pointer (some ⟨q + 3, 0, none⟩), .pointer (some ⟨q + 4, 0, none⟩)]) rfl trivial (enters_of Tryz.func72 (by kernel_rfl) rfl) hseq (fun h k => h.trans k) ?hKb (Below.refl _ _) (fun _ => rfl)
    (fun pre W => (wrF c page b pre).1.2 = true ∧ Wb w C P q (.slice ao b.length cap) b (wrF c page b pre).1.1 (page + pre.length) W)
    (fun cd pre W => cd = .ret ∧ (wrF c page b pre).1.2 = false ∧ ∃ pg, Wb w C P q (.slice ao b.length cap) b (wrF c page b pre).1.1 pg W)
    ?hI ?hIx ?h0
    (fun x => { tmps := #[.pointer (some ⟨C, 0, none⟩), .int .i64 page, .slice ao b.length cap, .pointer (some ⟨q, 0, none⟩), .pointer (some ⟨q + 1, 0, none⟩), undef, .pointer (some ⟨q + 1 + 1, 0, none⟩), chV bb off b.length x, undef, .slice ao b.length cap, .func (.func 72) #[] #[.pointer (some ⟨q + 3, 0, none⟩), .pointer (some ⟨q + 3 + 1, 0, none⟩)], chV bb off b.length x, undef, undef, undef, undef, undef, undef, undef, undef, undef, undef], defers := [] }) ?assign ?body ?done ?stop
  case hKb =>
    intro W l o o' hl ho _ _
    rw [hs2] at hl
    exact ⟨World.putObj_heap_other (by omega), World.putObj_heap_other (by omega)⟩
  case hI => exact fun s A B row hs hg hr => ⟨hs.1, hs.2.grown (by omega) hg hr⟩
  case hIx =>
    rintro cd s A B row ⟨h1, h2, pg, h3⟩ hg hr
    exact ⟨h1, h2, pg, h3.grown (by omega) hg hr⟩
  case h0 => exact ⟨rfl, HWB.out⟩
  case assign =>
    intro l x W K hK
    gi_wp2
    exact hK
  case body =>
    rintro l pre x W ⟨hok, hwb⟩ hlen
    have hsn := wrF_snoc c page b pre x
    rw [hok, if_pos rfl, wrF_snd] at hsn
    have hcl := chunk_len b x
    have hpl := pad_len _ hcl
    have c3 : W.cell? ⟨q, 0, none⟩ = some (.pointer (some ⟨C, 0, none⟩)) := Lib.cell_of_heap hwb.b3 0
    have c4 : W.cell? ⟨q + 1, 0, none⟩ = some (.int .i64 ((page + pre.length : Nat) : Int)) := Lib.cell_of_heap hwb.b4 0
    have hqW : q + 5 ≤ W.heap.size ∨ q + 2 < W.heap.size := .inr (Array.getElem?_eq_some_iff.1 hwb.b6).1
    have hqlt : q + 2 < W.heap.size := (Array.getElem?_eq_some_iff.1 hwb.b6).1
    obtain ⟨pg, hpg⟩ : ∃ pg, page + pre.length = pg := ⟨_, rfl⟩
    have hpgb : pg ≤ 1100000 := by omega
    rw [hpg] at c4 hsn
    have hz := heap_alloc_new W (.cells (byC zero8).toArray 81 (0, 0))
    have bz : Below W.heap.size W (W.alloc (.cells (byC zero8).toArray 81)) := (Below.refl _ W).alloc (Nat.le_refl _) _
    have hm : (chunk b x).length = min 8 (b.length - 8 * x) := by unfold chunk; rw [List.length_take, List.length_drop]
    have hcp := fun ty => run_copy_row (P := Tryz.prog) (W.alloc (.cells (byC zero8).toArray 81)) 24 24 ty 5 W.heap.size 0 8 8 ⟨bb, off + 8 * x, none⟩ (min 8 (b.length - 8 * x)) (min 8 (b.length - 8 * x)) _ 81 (byC (chunk b x)) Tryz.underlying24 (by obtain ⟨i0, hi0, hz0, hz1, hz2⟩ := info_parts info5; rw [hi0]; simp [hz1]) hz (by rw [byC_len, hm]; show _ = min (min 8 (b.length - 8 * x)) 8; omega) (fun j v hv => by
      have hj : j < (chunk b x).length := by have := (List.getElem?_eq_some_iff.1 hv).1; rwa [byC_len] at this
      have hjl : 8 * x + j < b.length := by omega
      obtain ⟨ao', cap', hv', _, hc⟩ := hwb.by_.below bz
      obtain ⟨b', off', ha, _, hcell⟩ := hc (8 * x + j) hjl
      injection hv' with e1 _ _
      rw [← e1, HAO.out (by omega)] at ha
      injection ha with ha
      injection ha with ha1 ha2
      subst ha1 ha2
      rw [Addr.add_mid, Nat.add_assoc, hcell, ← hv, byC_get _ _ hj]
      simp [chunk]) (by rw [byC_len]; simp [Lib.byteCells, zero8]; omega) (byteCells_one _)
    have hpc : (List.take 0 (byC zero8).toArray.toList ++ byC (chunk b x) ++ List.drop (0 + (byC (chunk b x)).length) (byC zero8).toArray.toList).toArray = (byC (pad (chunk b x))).toArray := pad_cells _ hcl
    rw [hpc] at hcp
    obtain ⟨X1, hX1⟩ : ∃ X, W.alloc (.cells (byC zero8).toArray 81) = X := ⟨_, rfl⟩
    obtain ⟨qf, hqf⟩ : ∃ qf, W.heap.size = qf := ⟨_, rfl⟩
    rw [hX1] at hcp hz bz
    rw [hqf] at hcp hz
    have hz2 := Go.Proofs.YtjlbahgjjdfaeaaGreat.setRow_heap X1 qf _ (byC (pad (chunk b x))).toArray _ _ hz
    have b2 := below_row bz (q := qf) (by omega) bz.size (byC (pad (chunk b x))).toArray
    have hld := load_a8 _ qf _ hz2 (by rw [List.size_toArray, byC_len, hpl])
    obtain ⟨X2, hX2⟩ : ∃ X, X1.setRow qf (byC (pad (chunk b x))).toArray = X := ⟨_, rfl⟩
    rw [hX2] at hcp b2 hld
    have hWr := Write_any (hwb.chip.below b2) ((pg : Nat) : Int) (pad (chunk b x)) hpl
    rw [pgV] at hWr
    have c3' : X2.cell? ⟨q, 0, none⟩ = some (.pointer (some ⟨C, 0, none⟩)) := (b2.cell (p := ⟨q, 0, none⟩) (by show q < _; omega)).trans c3
    have c4' : X2.cell? ⟨q + 1, 0, none⟩ = some (.int .i64 (pg : Int)) := (b2.cell (p := ⟨q + 1, 0, none⟩) (by show q + 1 < _; omega)).trans c4
    have HT : Hid (∀ X3, Two C P X2 X3 → Two C P W X3) := fun X3 t => (Two.of_below b2 C P).trans t
    obtain ⟨AP, hAP⟩ : ∃ A, (byC (pad (chunk b x))).toArray = A := ⟨_, rfl⟩
    rw [hAP] at hWr hld
    generalize hdw : ((wrF c page b pre).1.1.wr (pg : Int) (pad (chunk b x))) = dw at *
    obtain ⟨dn, on⟩ := dw
    simp only at hWr
    have HSN := hidOf hsn
    have HPG := hidOf hpg
    have HWB := hidOf hwb
    have hX1' : W.alloc (.cells #[.int .u8 0, .int .u8 0, .int .u8 0, .int .u8 0, .int .u8 0, .int .u8 0, .int .u8 0, .int .u8 0] 81) = X1 := hX1
    clear hX1 hpc hX2 hdw hsn hz hz2 bz b2 hcl hpl hm hok c3 c4 hwb hAP
    rw [hpg] at HWB
    clear hpg
    replace hcp : ∀ ty, (Builtin.copy_ #[24, 24] ty #[.slice (some ⟨qf, 0, none⟩) 8 8, chV bb off b.length x]).run Tryz.prog X1 = .ok (goInt (byC (chunk b x)).length) X2 := hcp
    have HW3 : Hid (∀ X3, Cm C P dn X3 → Two C P X2 X3 → Wb w C P q (.slice ao b.length cap) b dn pg X3 ∧ Two C P W X3) := fun X3 h3 t3 => ⟨HWB.out.two (by omega) (by omega) HAP.out h3 (HT.out X3 t3), HT.out X3 t3⟩
    cases on with
    | false =>
      gi_wp2_with (first | (refine inV rfl rfl (exec_loadN (ty := 81) rfl rfl hld) rfl ?_) | (refine ⟨trivial, ?_⟩; gi_at_call 26; refine (CallsIn.inRound l (callsIn_wide.2 hWr)).mono ?_; rintro e X3 ⟨rfl, hX3, t3⟩; obtain ⟨hb3, ht3⟩ := HW3.out X3 hX3 t3; have HB3 := hidOf hb3; have HT3 := hidOf ht3; have c63 : X3.cell? ⟨q + 1 + 1, 0, none⟩ = some (.bool false) := Lib.cell_of_heap hb3.b6 0; have f63 : X3.frozen? ⟨q + 1 + 1, 0, none⟩ = false := Lib.frozen_of_heap hb3.b6 0; clear hX3 t3 hb3 ht3))
      refine ⟨?_, rfl, ?_, pg, ?_⟩
      · exact (HT3.out.keeps (by omega) (by omega)).trans ((KeepsOthers.setCell X3 _ _).from _)
      · rw [HSN.out]
      · rw [HSN.out]; exact HB3.out.same (by omega) (by omega) (by omega)
    | true =>
      gi_wp2_with (first | (refine inV rfl rfl (exec_loadN (ty := 81) rfl rfl hld) rfl ?_) | (refine ⟨trivial, ?_⟩; gi_at_call 26; refine (CallsIn.inRound l (callsIn_wide.2 hWr)).mono ?_; rintro e X3 ⟨rfl, hX3, t3⟩; obtain ⟨hb3, ht3⟩ := HW3.out X3 hX3 t3; have HB3 := hidOf hb3; have HT3 := hidOf ht3; have c43 : X3.cell? ⟨q + 1, 0, none⟩ = some (.int .i64 (pg : Int)) := Lib.cell_of_heap hb3.b4 0; have f43 : X3.frozen? ⟨q + 1, 0, none⟩ = false := Lib.frozen_of_heap hb3.b4 0; clear hX3 t3 hb3 ht3))
      have hsz := HWB.out.sz
      refine ⟨?_, ⟨?_, ?_⟩, ?_, ?_⟩
      · exact (HT3.out.keeps (by omega) (by omega)).trans ((KeepsOthers.setCell X3 _ _).from _)
      · exact (Below.heap_setCell X3 ⟨q + 1, 0, none⟩ _ (q + 3) (by show q + 3 ≠ q + 1; omega)).trans (HT3.out.block (q + 3) (by omega) (by omega) (by omega))
      · exact (Below.heap_setCell X3 ⟨q + 1, 0, none⟩ _ (q + 4) (by show q + 4 ≠ q + 1; omega)).trans (HT3.out.block (q + 4) (by omega) (by omega) (by omega))
      · rw [HSN.out]
      · rw [HSN.out, List.length_append, List.length_singleton, ← Nat.add_assoc, HPG.out]
        exact HB3.out.next (by omega) (by omega) (by omega) (pg + 1)
  case done =>
    rintro D ys W hD rfl ⟨hok, hwb⟩ hK
    rw [wrF_range] at hok hwb
    have c6 : W.cell? ⟨q + 2, 0, none⟩ = some (.bool false) := Lib.cell_of_heap hwb.b6 0
    have f6 : W.frozen? ⟨q + 2, 0, none⟩ = false := Lib.frozen_of_heap hwb.b6 0
    have hqD : D ≠ q + 2 := by intro e; rw [e, hwb.b6] at hK; cases hK
    have hK2 : (W.setCell ⟨q + 2, 0, none⟩ (.bool true)).heap[D]? = some (.deferred (some [])) := (Below.heap_setCell W ⟨q + 2, 0, none⟩ _ D hqD).trans hK
    gi_wp2
    refine ⟨by simp, .inl ⟨_, _, rfl, run_takeDeferred hK2, ?_⟩⟩
    have c6' : ((W.setCell ⟨q + 2, 0, none⟩ (.bool true)).putObj D (.deferred none)).cell? ⟨q + 2, 0, none⟩ = some (.bool true) := by
      have e1 : (W.setCell ⟨q + 2, 0, none⟩ (.bool true)).cell? ⟨q + 2, 0, none⟩ = some (.bool true) := World.cell?_setCell_same' _ _ _ (by rw [c6]; rfl)
      rw [← e1]
      exact World.cell?_of_block (World.putObj_heap_other (by simpa using hqD.symm))
    have hT : Two C P w ((W.setCell ⟨q + 2, 0, none⟩ (.bool true)).putObj D (.deferred none)) := (hwb.old.setCell (p := ⟨q + 2, 0, none⟩) (.inr (.inr (by show w.heap.size ≤ q + 2; omega))) _).putN (by omega) _
    have hDC : C ≠ D := by intro e; have := hwb.chip.head; rw [e, hK] at this; cases this
    have hDP : P ≠ D := by intro e; have := hwb.chip.pages; rw [e, hK] at this; cases this
    have hCh : Cm C P (c.wrK page b ((b.length + 7) / 8)).1 ((W.setCell ⟨q + 2, 0, none⟩ (.bool true)).putObj D (.deferred none)) := hwb.chip.kept ((World.putObj_heap_other hDC).trans (Below.heap_setCell W ⟨q + 2, 0, none⟩ _ C (by show C ≠ q + 2; omega))) ((World.putObj_heap_other hDP).trans (Below.heap_setCell W ⟨q + 2, 0, none⟩ _ P (by show P ≠ q + 2; omega)))
    exact ⟨.bool true, by simp [results, Tryz.results25, asAddr, go_sem, run_underlying Tryz.underlying4, c6'], ret_bool hok.symm, hCh, hT⟩
  case stop =>
    rintro D cd pre W hD ⟨k, hk, rfl⟩ ⟨rfl, hno, pg, hwb⟩ hK
    rw [wrF_range] at hno hwb
    have hqD : D ≠ q + 2 := by intro e; rw [e, hwb.b6] at hK; cases hK
    gi_wp2
    refine ⟨by simp, .inl ⟨_, _, rfl, run_takeDeferred hK, ?_⟩⟩
    have c6' : (W.putObj D (.deferred none)).cell? ⟨q + 2, 0, none⟩ = some (.bool false) := by
      rw [← (show W.cell? ⟨q + 2, 0, none⟩ = some (.bool false) from Lib.cell_of_heap hwb.b6 0)]
      exact World.cell?_of_block (World.putObj_heap_other (by simpa using hqD.symm))
    have hDC : C ≠ D := by intro e; have := hwb.chip.head; rw [e, hK] at this; cases this
    have hDP : P ≠ D := by intro e; have := hwb.chip.pages; rw [e, hK] at this; cases this
    have hst := wrK_stop c page b k ((b.length + 7) / 8) hno hk
    have hst' : c.wrK page b (nch b) = c.wrK page b k := hst
    refine ⟨.bool false, by simp [results, Tryz.results25, asAddr, go_sem, run_underlying Tryz.underlying4, c6'], ?_, ?_, hwb.old.putN (by omega) _⟩
    · rw [hst', hno]
    · rw [hst']; exact hwb.chip.kept (World.putObj_heap_other hDC) (World.putObj_heap_other hDP)
end
end Go.Proofs.YtjlbahgjjdfaeaaGreat.Nz
namespace Go.Proofs.YtjlbahgjjdfaeaaGreat.Nz
open Go.RowKit Go.Shelf Go.Proofs.Ty Go.Proofs.Nv Go.Proofs.Bits
set_option linter.unusedVariables false
set_option maxRecDepth 1000000
set_option linter.unusedSimpArgs false
section
variable {C P : Nat} {c : Ch} {w : World}
theorem Save_nil (v : Value) (w : World) : Calls Tryz.prog 10 #[.pointer none, v] w fun e w' => e = .returned (.int .i64 1) ∧ w' = w := by
  go_enter Tryz.func10, Tryz.ntmps10
  go_wp2
  go_ret
  exact ⟨rfl, rfl⟩
theorem Ap.below {v : Value} (h : Ap C P v) : Ap C P v := h
set_option maxHeartbeats 16000000 in
theorem Save_any (h : Cm C P c w) (v : Value) (b : List UInt8) (hb : b.length ≤ 140737488355328) (hB : Bytes w v b) (hap : Ap C P v) (hcp : ∀ ao n k, v = .slice ao n k → n ≤ k) :
    Calls Tryz.prog 10 #[.pointer (some ⟨C, 0, none⟩), v] w fun e w' => e = .returned (.int .i64 (c.save b).2) ∧ Cm C P (c.save b).1 w' ∧ Two C P w w' := by
  have hroom := Room_any h
  have hdead := Dead_any h
  have hrm : c.room ≤ 131072 := by have := h.ok.hi; unfold Ch.room; omega
  have HS : Hid (c.save b = if c.room < b.length then (c, 2) else if c.dead then (c, 6) else if (c.wr c.into zero8).2 = false then ((c.wr c.into zero8).1, 6) else if ((c.wr c.into zero8).1.wrK (c.into + 1) b (nch b)).2 = false then (((c.wr c.into zero8).1.wrK (c.into + 1) b (nch b)).1, 6) else ((((c.wr c.into zero8).1.wrK (c.into + 1) b (nch b)).1.wr c.into (head (nxt c.kept.1) b)).1, if (((c.wr c.into zero8).1.wrK (c.into + 1) b (nch b)).1.wr c.into (head (nxt c.kept.1) b)).2 then 0 else 6)) := rfl
  have hmany : c.many ≤ 16384 := by have := h.ok.hi; unfold Ch.many; omega
  have hinto : c.into ≤ 16384 := by unfold Ch.into; split <;> omega
  have HIN : Hid (c.into = if lat (c.holds 0).1 (c.holds c.many).1 = 1 then 0 else c.many) := rfl
  have HKE : Hid (c.kept = if lat (c.holds 0).1 (c.holds c.many).1 = 1 then c.holds c.many else c.holds 0) := rfl
  have hkl := c.kept_lt
  have hh := halvesOf_any h
  have l0 : (c.holds 0).1 < 65536 := hs_fst _ _
  have l1 : (c.holds c.many).1 < 65536 := hs_fst _ _
  obtain ⟨⟨d1, o1⟩, hR1⟩ : ∃ x, c.wr c.into zero8 = x := ⟨_, rfl⟩
  rw [hR1] at HS
  simp only at HS
  obtain ⟨⟨d2, o2⟩, hR2⟩ : ∃ x, d1.wrK (c.into + 1) b (nch b) = x := ⟨_, rfl⟩
  rw [hR2] at HS
  simp only at HS
  obtain ⟨⟨d3, o3⟩, hR3⟩ : ∃ x, d2.wr c.into (head (nxt c.kept.1) b) = x := ⟨_, rfl⟩
  rw [hR3] at HS
  simp only at HS
  obtain ⟨ao, cap, rfl⟩ := bytes_shapeN hB
  have HC1 : Hid (∀ x, Cm C P c x → Calls Tryz.prog 24 #[.pointer (some ⟨C, 0, none⟩), .int .i64 c.into] x fun e w' => e = .returned (.bool o1) ∧ Cm C P d1 w' ∧ Two C P x w') := fun x hx => by
    have := clearHead_any hx c.into
    rw [hR1] at this
    exact this
  have HC2 : Hid (b.length ≤ 1000000 → ∀ x, Cm C P d1 x → Bytes x (.slice ao b.length cap) b → Calls Tryz.prog 25 #[.pointer (some ⟨C, 0, none⟩), .int .i64 ((c.into : Int) + 1), .slice ao b.length cap] x fun e w' => e = .returned (.bool o2) ∧ Cm C P d2 w' ∧ Two C P x w') := fun hl x hx hbx => by
    have := writeBytes_any hx (c.into + 1) (by omega) _ b hl hbx hap hcp
    rw [hR2] at this
    exact this
  have HC3 : Hid (∀ x, Cm C P d2 x → Calls Tryz.prog 26 #[.pointer (some ⟨C, 0, none⟩), .int .i64 c.into, pgV (head (nxt c.kept.1) b)] x fun e w' => e = .returned (.bool o3) ∧ Cm C P d3 w' ∧ Two C P x w') := fun x hx => by
    have := Write_any hx (c.into : Int) (head (nxt c.kept.1) b) (head_len _ _)
    rw [hR3] at this
    exact this
  have HH : Hid (b.length ≤ 1000000 → ∀ x, Bytes x (.slice ao b.length cap) b → Calls Tryz.prog 27 #[.int .u16 (nxt c.kept.1), .slice ao b.length cap] x fun e w' => e = .returned (pgV (head (nxt c.kept.1) b)) ∧ Below x.heap.size x w') := fun hl x hbx => headOf_any _ (nxt_lt hkl) _ b x hl hbx
  have hnx := next_any c.kept.1 hkl
  have HBW : Hid (∀ x, Below w.heap.size w x → Bytes x (.slice ao b.length cap) b) := fun x hx => hB.below hx
  have HBT : Hid (∀ x y, Bytes x (.slice ao b.length cap) b → Two C P x y → Bytes y (.slice ao b.length cap) b) := fun x y hx t => hx.two hap t
  have HCM := hidOf h
  have hClt := h.lt
  have hPlt := h.ltP
  clear hR1 hR2 hR3 hB hap hcp h
  generalize head (nxt c.kept.1) b = hd at *
  generalize nxt c.kept.1 = nk at *
  have HPG : Hid (∀ l, pgV l = .agg (byC l).toArray) := fun _ => rfl
  generalize c.save b = SV at *
  by_cases hlong : c.room < b.length
  · have HS1 : Hid (SV = (c, 2)) := by show SV = _; rw [HS.out, if_pos hlong]
    obtain ⟨nb, hnb⟩ : ∃ n, b.length = n := ⟨_, rfl⟩
    rw [hnb] at hb hlong
    have hd1 : decide ((c.room : Int) < (nb : Int)) = true := by simp; omega
    simp only [hnb]
    clear hnb
    go_enter Tryz.func10, Tryz.ntmps10
    go_wp2_with (go_at_call 8; refine hroom.mono ?_; rintro e x1 ⟨rfl, hx1⟩; rw [hx1]; clear hx1 x1)
    go_ret
    exact ⟨ret_int (by rw [HS1.out]; rfl), by rw [HS1.out]; exact HCM.out, Two.refl _ _ _⟩
  · have hbl : b.length ≤ 1000000 := by omega
    have HCC2 := hidOf (HC2.out hbl)
    have HHH := hidOf (HH.out hbl)
    clear HC2 HH
    have HSS : Hid (SV = if c.dead then (c, 6) else if o1 = false then (d1, 6) else if o2 = false then (d2, 6) else (d3, if o3 then 0 else 6)) := by show SV = _; rw [HS.out, if_neg hlong]
    clear HS
    obtain ⟨nb, hnb⟩ : ∃ n, b.length = n := ⟨_, rfl⟩
    have HNB := hidOf hnb
    rw [hnb] at hb hlong hbl HCC2 HHH HBW HBT ⊢
    have hd1 : decide ((c.room : Int) < (nb : Int)) = false := by simp; omega
    clear hnb
    cases hdd : c.dead with
    | true =>
      rw [hdd] at hdead HSS
      have HS1 : Hid (SV = (c, 6)) := HSS.out
      go_enter Tryz.func10, Tryz.ntmps10
      go_wp2_with (first | (go_at_call 8; refine hroom.mono ?_; rintro e x1 ⟨rfl, hx1⟩; rw [hx1]; clear hx1 x1) | (go_at_call 20; refine hdead.mono ?_; rintro e x1 ⟨rfl, hx1⟩; rw [hx1]; clear hx1 x1))
      go_ret
      exact ⟨ret_int (by rw [HS1.out]; rfl), by rw [HS1.out]; exact HCM.out, Two.refl _ _ _⟩
    | false =>
      rw [hdd] at hdead HSS
      have HS1 : Hid (SV = if o1 = false then (d1, 6) else if o2 = false then (d2, 6) else (d3, if o3 then 0 else 6)) := HSS.out
      clear HSS
      obtain ⟨k0, hk0⟩ : ∃ x, (c.holds 0).1 = x := ⟨_, rfl⟩
      obtain ⟨k1, hk1⟩ : ∃ x, (c.holds c.many).1 = x := ⟨_, rfl⟩
      rw [hk0] at hh l0 HIN HKE
      rw [hk1] at hh l1 HIN HKE
      have hlat : lat k0 k1 = 0 ∨ lat k0 k1 = 1 := by unfold lat; split <;> simp
      have HW : Hid (∀ (x : World) (v u : Value), Below w.heap.size w x → v.oneCell' = true → u.oneCell' = true → ∃ y q, x.alloc (.cells #[.int .i64 0, .int .u16 0, .slice none 0 0, .int .i64 0, .int .u16 0, .slice none 0 0] 74) = y ∧ x.heap.size = q ∧ y.heap[q]? = some (.cells #[.int .i64 0, .int .u16 0, .slice none 0 0, .int .i64 0, .int .u16 0, .slice none 0 0] 74 (0, 0)) ∧ ∃ z, y.setRow q (hvA 0 k0 v c.many k1 u) = z ∧ z.heap[q]? = some (.cells (hvA 0 k0 v c.many k1 u) 74 (0, 0)) ∧ Hid (Below w.heap.size w z) ∧ C ≠ q ∧ P ≠ q ∧ Calls Tryz.prog 22 #[.agg (hvA 0 k0 v c.many k1 u)] z (fun e w' => e = .returned (.int .i64 (lat k0 k1)) ∧ Below z.heap.size z w')) := by
        intro x v u hx hv hu
        have hq := heap_alloc_new x (.cells #[.int .i64 0, .int .u16 0, .slice none 0 0, .int .i64 0, .int .u16 0, .slice none 0 0] 74 (0, 0))
        have b1 := hx.alloc hx.size (.cells #[.int .i64 0, .int .u16 0, .slice none 0 0, .int .i64 0, .int .u16 0, .slice none 0 0] 74)
        have hsz := hx.size
        exact ⟨_, _, rfl, rfl, hq, _, rfl, Go.Proofs.YtjlbahgjjdfaeaaGreat.setRow_heap _ _ _ _ _ _ hq, below_row b1 hx.size b1.size _, by omega, by omega, latest_any 0 k0 c.many k1 v u _ l0 l1⟩
      have HWN := written_any
      rcases hlat with hl | hl
      · have HIN1 : Hid (c.into = c.many) := by show _ = _; rw [HIN.out, if_neg (by omega)]
        have HKE1 : Hid (c.kept.1 = k0) := by show _ = _; rw [HKE.out, if_neg (by omega), hk0]
        rw [hl] at HW
        rw [HIN1.out] at HC1 HCC2 HC3
        rw [HKE1.out] at hnx
        clear HIN HKE hl HIN1 HKE1 hk0 hk1 hkl hinto
        have HQK : Hid (∀ (x : World) (q : Nat) (v u : Value), x.heap[q]? = some (.cells (hvA 0 k0 v c.many k1 u) 74 (0, 0)) → x.cell? ⟨q, 3, none⟩ = some (.int .i64 (c.many : Nat)) ∧ x.cell? ⟨q, 1, none⟩ = some (.int .u16 k0)) := fun x q v u hx => ⟨Lib.cell_of_heap hx 3, Lib.cell_of_heap hx 1⟩
        cases o1 with
        | false =>
          have HS2 : Hid (SV = (d1, 6)) := HS1.out
          go_enter Tryz.func10, Tryz.ntmps10
          go_wp2_with (first | (go_at_call 8; refine hroom.mono ?_; rintro e x1 ⟨rfl, hx1⟩; rw [hx1]; clear hx1 x1) | (go_at_call 20; refine hdead.mono ?_; rintro e x1 ⟨rfl, hx1⟩; rw [hx1]; clear hx1 x1) | (go_at_call 21; refine hh.mono ?_; clear hh; rintro e w1 ⟨v, u, rfl, hv, hu, hb1, _, _⟩; have hov := oneSlice hv; have hou := oneSlice hu; obtain ⟨y1, q1, hy1, hq1s, hq1, z1, hz1, hqz1, HBz1, hCq, hPq, hlt⟩ := HW.out w1 v u hb1 hov hou; clear HW hb1 hv hu) | (refine wpList_store_row rfl 74 _ _ rfl q1 (hvA 0 k0 v c.many k1 u) rfl rfl 74 _ hq1 infoHv rfl (hvA_one _ _ _ _ _ _ hov hou) ?_; rw [hz1]; clear hz1 hy1 hq1) | (refine wpList_load_row rfl 74 _ rfl q1 rfl 74 (hvA 0 k0 v c.many k1 u) (0, 0) _ hqz1 Tryz.underlying74 rfl infoHv ?_) | (go_at_call 22; refine hlt.mono ?_; clear hlt; rintro e w2 ⟨rfl, hb2⟩; have hq2 := (hb2.block q1 (Array.getElem?_eq_some_iff.1 hqz1).1).trans hqz1; have HB2 := hidOf (HBz1.out.trans (hb2.mono HBz1.out.size)); have hc1 := HC1.out w2 (HCM.out.below HB2.out); have HY2 := hidOf (HBW.out w2 HB2.out); obtain ⟨cf, ck⟩ := HQK.out w2 q1 v u hq2; clear hb2 HBz1 hqz1) | (go_at_call 24; refine hc1.mono ?_; clear hc1; rintro e w3 ⟨rfl, h3, t3⟩; have HC3x := hidOf h3; have HT3 := hidOf ((Two.of_below HB2.out C P).trans t3); have hq3 := (t3.block q1 (Array.getElem?_eq_some_iff.1 hq2).1 hCq.symm hPq.symm).trans hq2; have HY3 := hidOf (HBT.out w2 w3 HY2.out t3); have hc2 := HCC2.out w3 h3 HY3.out; clear h3 t3 cf ck) | (go_at_call 23; refine (HWN _ _).mono ?_; rintro e x1 ⟨rfl, hx1⟩; rw [hx1]; clear hx1 x1))
          go_ret
          exact ⟨ret_int (by rw [HS2.out]; rfl), by rw [HS2.out]; exact HC3x.out, HT3.out⟩
        | true =>
          cases o2 with
          | false =>
            have HS2 : Hid (SV = (d2, 6)) := HS1.out
            go_enter Tryz.func10, Tryz.ntmps10
            go_wp2_with (first | (go_at_call 8; refine hroom.mono ?_; rintro e x1 ⟨rfl, hx1⟩; rw [hx1]; clear hx1 x1) | (go_at_call 20; refine hdead.mono ?_; rintro e x1 ⟨rfl, hx1⟩; rw [hx1]; clear hx1 x1) | (go_at_call 21; refine hh.mono ?_; clear hh; rintro e w1 ⟨v, u, rfl, hv, hu, hb1, _, _⟩; have hov := oneSlice hv; have hou := oneSlice hu; obtain ⟨y1, q1, hy1, hq1s, hq1, z1, hz1, hqz1, HBz1, hCq, hPq, hlt⟩ := HW.out w1 v u hb1 hov hou; clear HW hb1 hv hu) | (refine wpList_store_row rfl 74 _ _ rfl q1 (hvA 0 k0 v c.many k1 u) rfl rfl 74 _ hq1 infoHv rfl (hvA_one _ _ _ _ _ _ hov hou) ?_; rw [hz1]; clear hz1 hy1 hq1) | (refine wpList_load_row rfl 74 _ rfl q1 rfl 74 (hvA 0 k0 v c.many k1 u) (0, 0) _ hqz1 Tryz.underlying74 rfl infoHv ?_) | (go_at_call 22; refine hlt.mono ?_; clear hlt; rintro e w2 ⟨rfl, hb2⟩; have hq2 := (hb2.block q1 (Array.getElem?_eq_some_iff.1 hqz1).1).trans hqz1; have HB2 := hidOf (HBz1.out.trans (hb2.mono HBz1.out.size)); have hc1 := HC1.out w2 (HCM.out.below HB2.out); have HY2 := hidOf (HBW.out w2 HB2.out); obtain ⟨cf, ck⟩ := HQK.out w2 q1 v u hq2; clear hb2 HBz1 hqz1) | (go_at_call 24; refine hc1.mono ?_; clear hc1; rintro e w3 ⟨rfl, h3, t3⟩; have HC3x := hidOf h3; have HT3 := hidOf ((Two.of_below HB2.out C P).trans t3); have hq3 := (t3.block q1 (Array.getElem?_eq_some_iff.1 hq2).1 hCq.symm hPq.symm).trans hq2; have HY3 := hidOf (HBT.out w2 w3 HY2.out t3); have hc2 := HCC2.out w3 h3 HY3.out; clear h3 t3 cf ck) | (go_at_call 25; refine hc2.mono ?_; clear hc2; rintro e w4 ⟨rfl, h4, t4⟩; have HC4 := hidOf h4; have HT4 := hidOf (HT3.out.trans t4); have hq4 := (t4.block q1 (Array.getElem?_eq_some_iff.1 hq3).1 hCq.symm hPq.symm).trans hq3; have HY4 := hidOf (HBT.out w3 w4 HY3.out t4); have hhd := HHH.out w4 HY4.out; obtain ⟨cf, ck⟩ := HQK.out w4 q1 v u hq4; clear h4 t4 hq3) | (go_at_call 23; refine (HWN _ _).mono ?_; rintro e x1 ⟨rfl, hx1⟩; rw [hx1]; clear hx1 x1))
            go_ret
            exact ⟨ret_int (by rw [HS2.out]; rfl), by rw [HS2.out]; exact HC4.out, HT4.out⟩
          | true =>
            have HS2 : Hid (SV = (d3, if o3 then 0 else 6)) := HS1.out
            clear HS1
            cases o3
            all_goals
              go_enter Tryz.func10, Tryz.ntmps10
              go_wp2_with (first | (go_at_call 8; refine hroom.mono ?_; rintro e x1 ⟨rfl, hx1⟩; rw [hx1]; clear hx1 x1) | (go_at_call 20; refine hdead.mono ?_; rintro e x1 ⟨rfl, hx1⟩; rw [hx1]; clear hx1 x1) | (go_at_call 21; refine hh.mono ?_; clear hh; rintro e w1 ⟨v, u, rfl, hv, hu, hb1, _, _⟩; have hov := oneSlice hv; have hou := oneSlice hu; obtain ⟨y1, q1, hy1, hq1s, hq1, z1, hz1, hqz1, HBz1, hCq, hPq, hlt⟩ := HW.out w1 v u hb1 hov hou; clear HW hb1 hv hu) | (refine wpList_store_row rfl 74 _ _ rfl q1 (hvA 0 k0 v c.many k1 u) rfl rfl 74 _ hq1 infoHv rfl (hvA_one _ _ _ _ _ _ hov hou) ?_; rw [hz1]; clear hz1 hy1 hq1) | (refine wpList_load_row rfl 74 _ rfl q1 rfl 74 (hvA 0 k0 v c.many k1 u) (0, 0) _ hqz1 Tryz.underlying74 rfl infoHv ?_) | (go_at_call 22; refine hlt.mono ?_; clear hlt; rintro e w2 ⟨rfl, hb2⟩; have hq2 := (hb2.block q1 (Array.getElem?_eq_some_iff.1 hqz1).1).trans hqz1; have HB2 := hidOf (HBz1.out.trans (hb2.mono HBz1.out.size)); have hc1 := HC1.out w2 (HCM.out.below HB2.out); have HY2 := hidOf (HBW.out w2 HB2.out); obtain ⟨cf, ck⟩ := HQK.out w2 q1 v u hq2; clear hb2 HBz1 hqz1) | (go_at_call 24; refine hc1.mono ?_; clear hc1; rintro e w3 ⟨rfl, h3, t3⟩; have HC3x := hidOf h3; have HT3 := hidOf ((Two.of_below HB2.out C P).trans t3); have hq3 := (t3.block q1 (Array.getElem?_eq_some_iff.1 hq2).1 hCq.symm hPq.symm).trans hq2; have HY3 := hidOf (HBT.out w2 w3 HY2.out t3); have hc2 := HCC2.out w3 h3 HY3.out; clear h3 t3 cf ck) | (go_at_call 25; refine hc2.mono ?_; clear hc2; rintro e w4 ⟨rfl, h4, t4⟩; have HC4 := hidOf h4; have HT4 := hidOf (HT3.out.trans t4); have hq4 := (t4.block q1 (Array.getElem?_eq_some_iff.1 hq3).1 hCq.symm hPq.symm).trans hq3; have HY4 := hidOf (HBT.out w3 w4 HY3.out t4); have hhd := HHH.out w4 HY4.out; obtain ⟨cf, ck⟩ := HQK.out w4 q1 v u hq4; clear h4 t4 hq3) | (go_at_call 28; refine (hnx _).mono ?_; rintro e x1 ⟨rfl, hx1⟩; rw [hx1]; clear hx1 x1) | (go_at_call 27; refine hhd.mono ?_; clear hhd; rintro e w5 ⟨rfl, hb5⟩; have hc3 := HC3.out w5 (HC4.out.below hb5); have HT5 := hidOf (HT4.out.trans (Two.of_below hb5 C P)); clear hb5) | (go_at_call 26; refine hc3.mono ?_; clear hc3; rintro e w6 ⟨rfl, h6, t6⟩; have HC6 := hidOf h6; have HT6 := hidOf (HT5.out.trans t6); clear h6 t6) | (go_at_call 23; refine (HWN _ _).mono ?_; rintro e x1 ⟨rfl, hx1⟩; rw [hx1]; clear hx1 x1))
              go_ret
              exact ⟨ret_int (by rw [HS2.out]; rfl), by rw [HS2.out]; exact HC6.out, HT6.out⟩
      · have HIN1 : Hid (c.into = 0) := by show _ = _; rw [HIN.out, if_pos hl]
        have HKE1 : Hid (c.kept.1 = k1) := by show _ = _; rw [HKE.out, if_pos hl, hk1]
        rw [hl] at HW
        rw [HIN1.out] at HC1 HCC2 HC3
        rw [HKE1.out] at hnx
        clear HIN HKE hl HIN1 HKE1 hk0 hk1 hkl hinto
        have HQK : Hid (∀ (x : World) (q : Nat) (v u : Value), x.heap[q]? = some (.cells (hvA 0 k0 v c.many k1 u) 74 (0, 0)) → x.cell? ⟨q, 0, none⟩ = some (.int .i64 (0 : Nat)) ∧ x.cell? ⟨q, 4, none⟩ = some (.int .u16 k1)) := fun x q v u hx => ⟨Lib.cell_of_heap hx 0, Lib.cell_of_heap hx 4⟩
        cases o1 with
        | false =>
          have HS2 : Hid (SV = (d1, 6)) := HS1.out
          go_enter Tryz.func10, Tryz.ntmps10
          go_wp2_with (first | (go_at_call 8; refine hroom.mono ?_; rintro e x1 ⟨rfl, hx1⟩; rw [hx1]; clear hx1 x1) | (go_at_call 20; refine hdead.mono ?_; rintro e x1 ⟨rfl, hx1⟩; rw [hx1]; clear hx1 x1) | (go_at_call 21; refine hh.mono ?_; clear hh; rintro e w1 ⟨v, u, rfl, hv, hu, hb1, _, _⟩; have hov := oneSlice hv; have hou := oneSlice hu; obtain ⟨y1, q1, hy1, hq1s, hq1, z1, hz1, hqz1, HBz1, hCq, hPq, hlt⟩ := HW.out w1 v u hb1 hov hou; clear HW hb1 hv hu) | (refine wpList_store_row rfl 74 _ _ rfl q1 (hvA 0 k0 v c.many k1 u) rfl rfl 74 _ hq1 infoHv rfl (hvA_one _ _ _ _ _ _ hov hou) ?_; rw [hz1]; clear hz1 hy1 hq1) | (refine wpList_load_row rfl 74 _ rfl q1 rfl 74 (hvA 0 k0 v c.many k1 u) (0, 0) _ hqz1 Tryz.underlying74 rfl infoHv ?_) | (go_at_call 22; refine hlt.mono ?_; clear hlt; rintro e w2 ⟨rfl, hb2⟩; have hq2 := (hb2.block q1 (Array.getElem?_eq_some_iff.1 hqz1).1).trans hqz1; have HB2 := hidOf (HBz1.out.trans (hb2.mono HBz1.out.size)); have hc1 := HC1.out w2 (HCM.out.below HB2.out); have HY2 := hidOf (HBW.out w2 HB2.out); obtain ⟨cf, ck⟩ := HQK.out w2 q1 v u hq2; clear hb2 HBz1 hqz1) | (go_at_call 24; refine hc1.mono ?_; clear hc1; rintro e w3 ⟨rfl, h3, t3⟩; have HC3x := hidOf h3; have HT3 := hidOf ((Two.of_below HB2.out C P).trans t3); have hq3 := (t3.block q1 (Array.getElem?_eq_some_iff.1 hq2).1 hCq.symm hPq.symm).trans hq2; have HY3 := hidOf (HBT.out w2 w3 HY2.out t3); have hc2 := HCC2.out w3 h3 HY3.out; clear h3 t3 cf ck) | (go_at_call 23; refine (HWN _ _).mono ?_; rintro e x1 ⟨rfl, hx1⟩; rw [hx1]; clear hx1 x1))
          go_ret
          exact ⟨ret_int (by rw [HS2.out]; rfl), by rw [HS2.out]; exact HC3x.out, HT3.out⟩
        | true =>
          cases o2 with
          | false =>
            have HS2 : Hid (SV = (d2, 6)) := HS1.out
            go_enter Tryz.func10, Tryz.ntmps10
            go_wp2_with (first | (go_at_call 8; refine hroom.mono ?_; rintro e x1 ⟨rfl, hx1⟩; rw [hx1]; clear hx1 x1) | (go_at_call 20; refine hdead.mono ?_; rintro e x1 ⟨rfl, hx1⟩; rw [hx1]; clear hx1 x1) | (go_at_call 21; refine hh.mono ?_; clear hh; rintro e w1 ⟨v, u, rfl, hv, hu, hb1, _, _⟩; have hov := oneSlice hv; have hou := oneSlice hu; obtain ⟨y1, q1, hy1, hq1s, hq1, z1, hz1, hqz1, HBz1, hCq, hPq, hlt⟩ := HW.out w1 v u hb1 hov hou; clear HW hb1 hv hu) | (refine wpList_store_row rfl 74 _ _ rfl q1 (hvA 0 k0 v c.many k1 u) rfl rfl 74 _ hq1 infoHv rfl (hvA_one _ _ _ _ _ _ hov hou) ?_; rw [hz1]; clear hz1 hy1 hq1) | (refine wpList_load_row rfl 74 _ rfl q1 rfl 74 (hvA 0 k0 v c.many k1 u) (0, 0) _ hqz1 Tryz.underlying74 rfl infoHv ?_) | (go_at_call 22; refine hlt.mono ?_; clear hlt; rintro e w2 ⟨rfl, hb2⟩; have hq2 := (hb2.block q1 (Array.getElem?_eq_some_iff.1 hqz1).1).trans hqz1; have HB2 := hidOf (HBz1.out.trans (hb2.mono HBz1.out.size)); have hc1 := HC1.out w2 (HCM.out.below HB2.out); have HY2 := hidOf (HBW.out w2 HB2.out); obtain ⟨cf, ck⟩ := HQK.out w2 q1 v u hq2; clear hb2 HBz1 hqz1) | (go_at_call 24; refine hc1.mono ?_; clear hc1; rintro e w3 ⟨rfl, h3, t3⟩; have HC3x := hidOf h3; have HT3 := hidOf ((Two.of_below HB2.out C P).trans t3); have hq3 := (t3.block q1 (Array.getElem?_eq_some_iff.1 hq2).1 hCq.symm hPq.symm).trans hq2; have HY3 := hidOf (HBT.out w2 w3 HY2.out t3); have hc2 := HCC2.out w3 h3 HY3.out; clear h3 t3 cf ck) | (go_at_call 25; refine hc2.mono ?_; clear hc2; rintro e w4 ⟨rfl, h4, t4⟩; have HC4 := hidOf h4; have HT4 := hidOf (HT3.out.trans t4); have hq4 := (t4.block q1 (Array.getElem?_eq_some_iff.1 hq3).1 hCq.symm hPq.symm).trans hq3; have HY4 := hidOf (HBT.out w3 w4 HY3.out t4); have hhd := HHH.out w4 HY4.out; obtain ⟨cf, ck⟩ := HQK.out w4 q1 v u hq4; clear h4 t4 hq3) | (go_at_call 23; refine (HWN _ _).mono ?_; rintro e x1 ⟨rfl, hx1⟩; rw [hx1]; clear hx1 x1))
            go_ret
            exact ⟨ret_int (by rw [HS2.out]; rfl), by rw [HS2.out]; exact HC4.out, HT4.out⟩
          | true =>
            have HS2 : Hid (SV = (d3, if o3 then 0 else 6)) := HS1.out
            clear HS1
            cases o3
            all_goals
              go_enter Tryz.func10, Tryz.ntmps10
              go_wp2_with (first | (go_at_call 8; refine hroom.mono ?_; rintro e x1 ⟨rfl, hx1⟩; rw [hx1]; clear hx1 x1) | (go_at_call 20; refine hdead.mono ?_; rintro e x1 ⟨rfl, hx1⟩; rw [hx1]; clear hx1 x1) | (go_at_call 21; refine hh.mono ?_; clear hh; rintro e w1 ⟨v, u, rfl, hv, hu, hb1, _, _⟩; have hov := oneSlice hv; have hou := oneSlice hu; obtain ⟨y1, q1, hy1, hq1s, hq1, z1, hz1, hqz1, HBz1, hCq, hPq, hlt⟩ := HW.out w1 v u hb1 hov hou; clear HW hb1 hv hu) | (refine wpList_store_row rfl 74 _ _ rfl q1 (hvA 0 k0 v c.many k1 u) rfl rfl 74 _ hq1 infoHv rfl (hvA_one _ _ _ _ _ _ hov hou) ?_; rw [hz1]; clear hz1 hy1 hq1) | (refine wpList_load_row rfl 74 _ rfl q1 rfl 74 (hvA 0 k0 v c.many k1 u) (0, 0) _ hqz1 Tryz.underlying74 rfl infoHv ?_) | (go_at_call 22; refine hlt.mono ?_; clear hlt; rintro e w2 ⟨rfl, hb2⟩; have hq2 := (hb2.block q1 (Array.getElem?_eq_some_iff.1 hqz1).1).trans hqz1; have HB2 := hidOf (HBz1.out.trans (hb2.mono HBz1.out.size)); have hc1 := HC1.out w2 (HCM.out.below HB2.out); have HY2 := hidOf (HBW.out w2 HB2.out); obtain ⟨cf, ck⟩ := HQK.out w2 q1 v u hq2; clear hb2 HBz1 hqz1) | (go_at_call 24; refine hc1.mono ?_; clear hc1; rintro e w3 ⟨rfl, h3, t3⟩; have HC3x := hidOf h3; have HT3 := hidOf ((Two.of_below HB2.out C P).trans t3); have hq3 := (t3.block q1 (Array.getElem?_eq_some_iff.1 hq2).1 hCq.symm hPq.symm).trans hq2; have HY3 := hidOf (HBT.out w2 w3 HY2.out t3); have hc2 := HCC2.out w3 h3 HY3.out; clear h3 t3 cf ck) | (go_at_call 25; refine hc2.mono ?_; clear hc2; rintro e w4 ⟨rfl, h4, t4⟩; have HC4 := hidOf h4; have HT4 := hidOf (HT3.out.trans t4); have hq4 := (t4.block q1 (Array.getElem?_eq_some_iff.1 hq3).1 hCq.symm hPq.symm).trans hq3; have HY4 := hidOf (HBT.out w3 w4 HY3.out t4); have hhd := HHH.out w4 HY4.out; obtain ⟨cf, ck⟩ := HQK.out w4 q1 v u hq4; clear h4 t4 hq3) | (go_at_call 28; refine (hnx _).mono ?_; rintro e x1 ⟨rfl, hx1⟩; rw [hx1]; clear hx1 x1) | (go_at_call 27; refine hhd.mono ?_; clear hhd; rintro e w5 ⟨rfl, hb5⟩; have hc3 := HC3.out w5 (HC4.out.below hb5); have HT5 := hidOf (HT4.out.trans (Two.of_below hb5 C P)); clear hb5) | (go_at_call 26; refine hc3.mono ?_; clear hc3; rintro e w6 ⟨rfl, h6, t6⟩; have HC6 := hidOf h6; have HT6 := hidOf (HT5.out.trans t6); clear h6 t6) | (go_at_call 23; refine (HWN _ _).mono ?_; rintro e x1 ⟨rfl, hx1⟩; rw [hx1]; clear hx1 x1))
              go_ret
              exact ⟨ret_int (by rw [HS2.out]; rfl), by rw [HS2.out]; exact HC6.out, HT6.out⟩
end
end Go.Proofs.YtjlbahgjjdfaeaaGreat.Nz
namespace Go.Proofs.Nv
open Go.Proofs.Bits
set_option linter.unusedVariables false
set_option maxRecDepth 1000000
section
variable {c : Ch}
theorem splice_take {α : Type} {l b : List α} {o : Nat} (n : Nat) (h : n ≤ o) (hl : o ≤ l.length) : (splice l o b).take n = l.take n := by
  unfold splice
  rw [List.append_assoc, List.take_append_of_le_length (by rw [List.length_take]; omega), List.take_take, Nat.min_eq_left h]
theorem put_seg (h : c.Ok) {f j : Nat} (hf : f + c.many ≤ c.n) (hj : j < c.many) {b : List UInt8} (hb : b.length = 8) : (c.put (f + j) b).seg f = splice (c.seg f) (8 * j) b := by
  have := h.len
  show ((splice c.pg (8 * (f + j)) b).drop (8 * f)).take (8 * c.many) = _
  rw [splice_in (by omega) _ _ (by omega) (by omega) (by omega)]
  unfold Ch.seg
  congr 1
  omega
theorem put_other (h : c.Ok) {f g j : Nat} (hf : f + c.many ≤ c.n) (hj : j < c.many) (hg : g + c.many ≤ f ∨ f + c.many ≤ g) {b : List UInt8} (hb : b.length = 8) : (c.put (f + j) b).seg g = c.seg g := by
  have := h.len
  show ((splice c.pg (8 * (f + j)) b).drop (8 * g)).take (8 * c.many) = _
  rw [splice_apart (by omega) _ _ (by omega)]
  rfl
theorem segLen (h : c.Ok) (f : Nat) (hf : f + c.many ≤ c.n) : (c.seg f).length = 8 * c.many := by
  have := h.len
  unfold Ch.seg
  rw [List.length_take, List.length_drop]
  omega
/-- Bytes filled up to whole pages. -/
def full (b : List UInt8) : List UInt8 := b ++ List.replicate (8 * nch b - b.length) 0
theorem full_len (b : List UInt8) : (full b).length = 8 * nch b := by
  unfold full nch
  rw [List.length_append, List.length_replicate]
  omega
theorem full_chunk (b : List UInt8) (k : Nat) (hk : k < nch b) : pad (chunk b k) = ((full b).drop (8 * k)).take 8 := by
  have hn : nch b = (b.length + 7) / 8 := rfl
  apply List.ext_getElem?
  intro j
  have hcl : (chunk b k).length = min 8 (b.length - 8 * k) := by unfold chunk; rw [List.length_take, List.length_drop]
  rw [List.getElem?_take, List.getElem?_drop]
  unfold pad full
  by_cases hj : j < 8
  · rw [if_pos hj]
    by_cases h1 : 8 * k + j < b.length
    · rw [List.getElem?_append_left (by omega), List.getElem?_append_left h1]
      unfold chunk
      rw [List.getElem?_take, if_pos hj, List.getElem?_drop]
    · rw [List.getElem?_append_right (by omega), List.getElem?_append_right (by omega), List.getElem?_replicate, List.getElem?_replicate, if_pos (by omega), if_pos (by omega)]
  · rw [if_neg hj, List.getElem?_eq_none]
    rw [List.length_append, List.length_replicate]
    omega
theorem hs_clear (room : Nat) (s : List UInt8) (h : s.take 8 = zero8) : hs room s = (0, []) := by
  have e : s.take 2 = [0, 0] := by
    have := congrArg (List.take 2) h
    rw [List.take_take] at this
    exact this
  unfold hs
  rw [if_pos (.inl (by rw [e]; rfl))]
theorem hs_read (room k : Nat) (b s : List UInt8) (hk0 : k ≠ 0) (hk : k < 65536) (hb : b.length ≤ room) (hr : room < 4294967296) (h1 : s.take 8 = head k b) (h2 : (s.drop 8).take b.length = b) : hs room s = (k, b) := by
  have hcr := crc16_lt (le k 2 ++ le b.length 4 ++ b)
  have l2 : (le k 2).length = 2 := le_len _ _
  have l4 : (le b.length 4).length = 4 := le_len _ _
  have lc : (le (crc16 (le k 2 ++ le b.length 4 ++ b)) 2).length = 2 := le_len _ _
  have e1 : s.take 2 = le k 2 := by
    have := congrArg (List.take 2) h1
    rw [List.take_take] at this
    rw [show min 2 8 = 2 from rfl] at this
    rw [this, head, List.append_assoc, List.take_append_of_le_length (by omega), List.take_of_length_le (by omega)]
  have e6 : s.take 6 = le k 2 ++ le b.length 4 := by
    have := congrArg (List.take 6) h1
    rw [List.take_take] at this
    rw [show min 6 8 = 6 from rfl] at this
    rw [this, head, List.take_append_of_le_length (by rw [List.length_append]; omega), List.take_of_length_le (by rw [List.length_append]; omega)]
  have e4 : (s.drop 2).take 4 = le b.length 4 := by
    have : (s.drop 2).take 4 = (s.take 6).drop 2 := by rw [List.drop_take]
    rw [this, e6, List.drop_append_of_le_length (by omega), List.drop_eq_nil_of_le (by omega), List.nil_append]
  have e8 : (s.drop 6).take 2 = le (crc16 (le k 2 ++ le b.length 4 ++ b)) 2 := by
    have : (s.drop 6).take 2 = (s.take 8).drop 6 := by rw [List.drop_take]
    rw [this, h1, head, List.drop_append_of_le_length (by rw [List.length_append]; omega), List.drop_eq_nil_of_le (by rw [List.length_append]; omega), List.nil_append]
  have n1 : num (le k 2) = k := num_le _ _ (by omega)
  have n4 : num (le b.length 4) = b.length := num_le _ _ (by omega)
  have nc : num (le (crc16 (le k 2 ++ le b.length 4 ++ b)) 2) = crc16 (le k 2 ++ le b.length 4 ++ b) := num_le _ _ (by omega)
  unfold hs
  rw [e1, e4, e8, e6, n1, n4, nc, h2, if_neg (by omega), if_pos rfl]
theorem wr_go (h : c.Ok) {i : Nat} (hi : i < c.n) (hd : c.dead = false) (hl : c.left ≠ 0) (b : List UInt8) : c.wr (i : Int) b = (c.put i b, true) := by
  unfold Ch.wr
  rw [if_neg (by simp [Ch.has, hd, hi]), if_neg hl, Int.toNat_natCast]
theorem wr_off (h : c.Ok) {i : Nat} (hi : i < c.n) (hd : c.dead = false) (hl : c.left = 0) (b : List UInt8) : c.wr (i : Int) b = (c.die, false) := by
  unfold Ch.wr
  rw [if_neg (by simp [Ch.has, hd, hi]), if_pos hl]
/-- Two halves. -/
structure Hv (c : Ch) (f g : Nat) : Prop where
  f1 : f + c.many ≤ c.n
  g1 : g + c.many ≤ c.n
  ap : g + c.many ≤ f ∨ f + c.many ≤ g
theorem wrK_spec (h : c.Ok) {f g : Nat} (hv : Hv c f g) (b : List UInt8) (hb : b.length ≤ c.room) (hd : c.dead = false) (k : Nat) (hk : k ≤ nch b) :
    (c.wrK (f + 1) b k).1.Ok ∧ (c.wrK (f + 1) b k).1.n = c.n ∧ (c.wrK (f + 1) b k).1.seg g = c.seg g ∧
    ((c.left < 0 ∨ (k : Int) ≤ c.left) → (c.wrK (f + 1) b k).2 = true ∧ (c.wrK (f + 1) b k).1.dead = false ∧ (c.wrK (f + 1) b k).1.left = (if c.left < 0 then c.left else c.left - k) ∧ (c.wrK (f + 1) b k).1.seg f = splice (c.seg f) 8 ((full b).take (8 * k))) ∧
    (¬ (c.left < 0 ∨ (k : Int) ≤ c.left) → (c.wrK (f + 1) b k).2 = false ∧ (c.wrK (f + 1) b k).1.dead = true ∧ ((c.wrK (f + 1) b k).1.seg f).take 8 = (c.seg f).take 8) := by
  have hl1 := h.l1
  have hn : nch b = (b.length + 7) / 8 := rfl
  have hrm : c.room = 8 * (c.many - 1) := rfl
  have hmany : 2 ≤ c.many := by have := h.lo; unfold Ch.many; omega
  induction k with
  | zero =>
    refine ⟨h, rfl, rfl, fun _ => ⟨rfl, hd, ?_, ?_⟩, fun hx => absurd (by omega) hx⟩
    · show c.left = _
      split
      · rfl
      · simp
    · show c.seg f = _
      rw [Nat.mul_zero, List.take_zero, splice_nil]
  | succ k ih =>
    obtain ⟨i1, i2, i3, i4, i5⟩ := ih (by omega)
    have hm : (c.wrK (f + 1) b k).1.many = c.many := by unfold Ch.many; rw [i2]
    by_cases hk1 : c.left < 0 ∨ (k : Int) ≤ c.left
    · obtain ⟨j1, j2, j3, j4⟩ := i4 hk1
      have hpn : f + 1 + k < (c.wrK (f + 1) b k).1.n := by rw [i2]; have := hv.f1; omega
      have hstep : c.wrK (f + 1) b (k + 1) = (c.wrK (f + 1) b k).1.wr ((f + 1 + k : Nat) : Int) (pad (chunk b k)) := by
        show (if (c.wrK (f + 1) b k).2 then _ else _) = _
        rw [if_pos j1]
      have hp8 := pad_len _ (chunk_len b k)
      by_cases hz : (c.wrK (f + 1) b k).1.left = 0
      · have hk2 : ¬ (c.left < 0 ∨ ((k + 1 : Nat) : Int) ≤ c.left) := by
          rw [j3] at hz
          split at hz <;> omega
        rw [hstep, wr_off i1 hpn j2 hz]
        refine ⟨⟨i1.len, i1.lo, i1.hi, i1.l1, i1.l2⟩, i2, i3, fun hx => absurd hx hk2, fun _ => ⟨rfl, rfl, ?_⟩⟩
        show ((c.wrK (f + 1) b k).1.seg f).take 8 = _
        rw [j4, splice_take 8 (Nat.le_refl _) (by rw [segLen h f hv.f1]; omega)]
      · have hk2 : c.left < 0 ∨ ((k + 1 : Nat) : Int) ≤ c.left := by
          rw [j3] at hz
          split at hz <;> omega
        rw [hstep, wr_go i1 hpn j2 hz]
        have hj : k + 1 < (c.wrK (f + 1) b k).1.many := by rw [hm]; omega
        have e1 : f + 1 + k = f + (k + 1) := by omega
        refine ⟨Ch.put_ok i1 hpn hp8, i2, ?_, fun _ => ⟨rfl, j2, ?_, ?_⟩, fun hx => absurd hk2 hx⟩
        · rw [e1, put_other i1 (by rw [hm, i2]; exact hv.f1) hj (by rw [hm]; exact hv.ap) hp8, i3]
        · show (if 0 < (c.wrK (f + 1) b k).1.left then (c.wrK (f + 1) b k).1.left - 1 else (c.wrK (f + 1) b k).1.left) = _
          rw [j3]
          split <;> split <;> omega
        · rw [e1, put_seg i1 (by rw [hm, i2]; exact hv.f1) hj hp8, j4, full_chunk b k (by omega)]
          have hfl := full_len b
          have hx : ((full b).take (8 * k)).length = 8 * k := by rw [List.length_take]; omega
          have hy : (((full b).drop (8 * k)).take 8).length = 8 := by rw [List.length_take, List.length_drop]; omega
          have hsl := segLen h f hv.f1
          have := splice_next (l := c.seg f) (o := 8) (x := (full b).take (8 * k)) (y := ((full b).drop (8 * k)).take 8) (by rw [hx, hy, hsl]; omega)
          rw [hx] at this
          rw [show 8 * (k + 1) = 8 + 8 * k by omega, this]
          congr 1
          rw [Nat.add_comm 8 (8 * k), List.take_add]
    · obtain ⟨j1, j2, j3⟩ := i5 hk1
      have hstep : c.wrK (f + 1) b (k + 1) = c.wrK (f + 1) b k := by
        show (if (c.wrK (f + 1) b k).2 then _ else _) = _
        rw [if_neg (by rw [j1]; decide)]
      rw [hstep]
      exact ⟨i1, i2, i3, fun hx => absurd (by omega) hk1, fun _ => ⟨j1, j2, j3⟩⟩
theorem kept_congr {c d : Ch} (hn : d.n = c.n) (hp : d.pg = c.pg) : d.kept = c.kept := by
  have hm : d.many = c.many := by unfold Ch.many; rw [hn]
  have hr : d.room = c.room := by unfold Ch.room; rw [hn]
  have hh : ∀ f, d.holds f = c.holds f := fun f => by unfold Ch.holds Ch.seg; rw [hr, hp, hm]
  unfold Ch.kept Ch.latest
  rw [hm, hh, hh]
theorem kept_power (c : Ch) : c.power.kept = c.kept := kept_congr rfl rfl
theorem kept_cut (c : Ch) (a : Int) : (c.cut a).kept = c.kept := kept_congr rfl rfl
theorem into_hv (h : c.Ok) : ∃ g, Hv c c.into g ∧ ((c.latest = 1 ∧ c.into = 0 ∧ g = c.many) ∨ (c.latest = 0 ∧ c.into = c.many ∧ g = 0)) := by
  have hm : c.many + c.many ≤ c.n := by unfold Ch.many; omega
  rcases c.latest_le with h0 | h1
  · have e : c.into = c.many := by unfold Ch.into; rw [if_neg (by omega)]
    exact ⟨0, ⟨by rw [e]; exact hm, by omega, .inl (by rw [e]; omega)⟩, .inr ⟨h0, e, rfl⟩⟩
  · have e : c.into = 0 := by unfold Ch.into; rw [if_pos h1]
    exact ⟨c.many, ⟨by rw [e]; omega, hm, .inr (by rw [e]; omega)⟩, .inl ⟨h1, e, rfl⟩⟩
/-- The new half is cleared: what was kept is kept. -/
theorem kept_clear {d : Ch} (h : c.Ok) {g : Nat} (hg : (c.latest = 1 ∧ c.into = 0 ∧ g = c.many) ∨ (c.latest = 0 ∧ c.into = c.many ∧ g = 0)) (hn : d.n = c.n) (hs1 : d.seg g = c.seg g) (hz : d.holds c.into = (0, [])) : d.kept = c.kept := by
  have hm : d.many = c.many := by unfold Ch.many; rw [hn]
  have hr : d.room = c.room := by unfold Ch.room; rw [hn]
  have hgh : d.holds g = c.holds g := by unfold Ch.holds; rw [hr, hs1]
  rcases hg with ⟨hl, hi, rfl⟩ | ⟨hl, hi, rfl⟩
  · rw [hi] at hz
    have hl' : d.latest = 1 := by unfold Ch.latest; rw [if_pos (.inl (by rw [hz]))]
    unfold Ch.kept
    rw [hl', hl, if_pos rfl, if_pos rfl, hm, hgh]
  · rw [hi] at hz
    have h0 : (c.holds 0).1 ≠ 0 := by
      intro e
      unfold Ch.latest at hl
      rw [if_pos (.inl e)] at hl
      cases hl
    have hl' : d.latest = 0 := by
      unfold Ch.latest
      rw [hm, hz, hgh, if_neg]
      intro hx
      rcases hx with hx | hx
      · exact h0 hx
      · have := nxt_pos (c.holds 0).1
        simp only at hx
        omega
    unfold Ch.kept
    rw [hl', hl, if_neg (by decide), if_neg (by decide), hgh]
/-- The new half holds what is new, with the counter behind that of what was kept: it is kept. -/
theorem kept_new {d : Ch} (h : c.Ok) {g : Nat} (hg : (c.latest = 1 ∧ c.into = 0 ∧ g = c.many) ∨ (c.latest = 0 ∧ c.into = c.many ∧ g = 0)) (hn : d.n = c.n) (hs1 : d.seg g = c.seg g) {b : List UInt8} (hz : d.holds c.into = (nxt c.kept.1, b)) : d.kept = (nxt c.kept.1, b) := by
  have hm : d.many = c.many := by unfold Ch.many; rw [hn]
  have hr : d.room = c.room := by unfold Ch.room; rw [hn]
  have hgh : d.holds g = c.holds g := by unfold Ch.holds; rw [hr, hs1]
  have hpos := nxt_pos c.kept.1
  rcases hg with ⟨hl, hi, rfl⟩ | ⟨hl, hi, rfl⟩
  · have hk : c.kept = c.holds c.many := by unfold Ch.kept; rw [hl, if_pos rfl]
    have hkl := c.kept_lt
    rw [hi] at hz
    have hl' : d.latest = 0 := by
      unfold Ch.latest
      rw [hz, hm, hgh, ← hk, if_neg]
      intro hx
      rcases hx with hx | hx
      · simp only at hx; omega
      · exact nxt_ne hkl hx.symm
    unfold Ch.kept
    rw [hl', if_neg (by decide), hz]
    show _ = (nxt (if c.latest = 1 then c.holds c.many else c.holds 0).1, b)
    rfl
  · have hk : c.kept = c.holds 0 := by unfold Ch.kept; rw [hl, if_neg (by decide)]
    rw [hi] at hz
    have hl' : d.latest = 1 := by
      unfold Ch.latest
      rw [hm, hz, hgh, if_pos]
      exact .inr (by rw [hk])
    have hz' : d.holds d.many = (nxt c.kept.1, b) := by rw [hm]; exact hz
    unfold Ch.kept at hz' ⊢
    rw [hl', if_pos rfl, hz']
/-- A Save. -/
theorem save_spec (h : c.Ok) (b : List UInt8) (hb : b.length ≤ c.room) (hd : c.dead = false) :
    (c.left < 0 ∨ ((2 + nch b : Nat) : Int) ≤ c.left → (c.save b).2 = 0 ∧ (c.save b).1.dead = false ∧ (c.save b).1.kept = (nxt c.kept.1, b) ∧ (c.left < 0 → (c.save b).1.left = c.left)) ∧
    (¬ (c.left < 0 ∨ ((2 + nch b : Nat) : Int) ≤ c.left) → (c.save b).2 = 6 ∧ (c.save b).1.dead = true ∧ (c.save b).1.kept = c.kept) := by
  obtain ⟨g, hv, hg⟩ := into_hv h
  have hl1 := h.l1
  have hmany : 2 ≤ c.many := by have := h.lo; unfold Ch.many; omega
  have hrm : c.room = 8 * (c.many - 1) := rfl
  have hrl : c.room ≤ 131072 := by have := h.hi; unfold Ch.room; omega
  have hfn : c.into < c.n := by have := hv.f1; omega
  obtain ⟨f, hf⟩ : ∃ f, c.into = f := ⟨_, rfl⟩
  have hsl := segLen h f (by rw [← hf]; exact hv.f1)
  by_cases hz : c.left = 0
  · have e1 : c.wr (c.into : Int) zero8 = (c.die, false) := wr_off h hfn hd hz _
    have es : c.save b = (c.die, 6) := by
      unfold Ch.save
      rw [if_neg (by omega), hd, e1]
      rfl
    rw [es]
    exact ⟨fun hx => absurd hx (by omega), fun _ => ⟨rfl, rfl, kept_congr rfl rfl⟩⟩
  · have e1 : c.wr (c.into : Int) zero8 = (c.put c.into zero8, true) := wr_go h hfn hd hz _
    obtain ⟨c1, hc1⟩ : ∃ c1, c.put c.into zero8 = c1 := ⟨_, rfl⟩
    rw [hc1] at e1
    have ok1 : c1.Ok := by rw [← hc1]; exact Ch.put_ok h hfn zero8_len
    have n1 : c1.n = c.n := by rw [← hc1]; rfl
    have m1 : c1.many = c.many := by unfold Ch.many; rw [n1]
    have r1 : c1.room = c.room := by unfold Ch.room; rw [n1]
    have d1 : c1.dead = false := by rw [← hc1]; exact hd
    have l1' : c1.left = if 0 < c.left then c.left - 1 else c.left := by rw [← hc1]; rfl
    have sf1 : c1.seg c.into = splice (c.seg c.into) 0 zero8 := by
      rw [← hc1]
      have := put_seg h hv.f1 (j := 0) (by omega) zero8_len
      rw [Nat.add_zero, Nat.mul_zero] at this
      exact this
    have sg1 : c1.seg g = c.seg g := by
      rw [← hc1]
      have := put_other h hv.f1 (j := 0) (by omega) hv.ap zero8_len
      rw [Nat.add_zero] at this
      exact this
    have hv1 : Hv c1 c.into g := ⟨by rw [m1, n1]; exact hv.f1, by rw [m1, n1]; exact hv.g1, by rw [m1]; exact hv.ap⟩
    obtain ⟨k1, k2, k3, k4, k5⟩ := wrK_spec ok1 hv1 b (by rw [r1]; exact hb) d1 (nch b) (Nat.le_refl _)
    rw [hf] at sf1
    have hz8 : (c1.seg f).take 8 = zero8 := by
      rw [sf1]
      unfold splice
      rw [List.take_zero, List.nil_append, List.take_append_of_le_length (by rw [zero8_len]; exact Nat.le_refl _), List.take_of_length_le (by rw [zero8_len]; exact Nat.le_refl _)]
    obtain ⟨c2, o2, hc2⟩ : ∃ c2 o2, c1.wrK (c.into + 1) b (nch b) = (c2, o2) := ⟨_, _, rfl⟩
    rw [hc2] at k1 k2 k3 k4 k5
    simp only at k1 k2 k3 k4 k5
    have m2 : c2.many = c.many := by unfold Ch.many; rw [k2, n1]
    have r2 : c2.room = c.room := by unfold Ch.room; rw [k2, n1]
    have es : c.save b = if o2 = false then (c2, 6) else ((c2.wr (c.into : Int) (head (nxt c.kept.1) b)).1, if (c2.wr (c.into : Int) (head (nxt c.kept.1) b)).2 then 0 else 6) := by
      unfold Ch.save
      rw [if_neg (by omega), hd, e1]
      simp only [hc2]
      rfl
    by_cases hk : c1.left < 0 ∨ ((nch b : Nat) : Int) ≤ c1.left
    · obtain ⟨j1, j2, j3, j4⟩ := k4 hk
      subst j1
      rw [if_neg (by decide)] at es
      have hfn2 : c.into < c2.n := by rw [k2, n1]; exact hfn
      by_cases hz2 : c2.left = 0
      · have e3 := wr_off k1 hfn2 j2 hz2 (head (nxt c.kept.1) b)
        rw [e3] at es
        rw [es]
        refine ⟨fun hx => absurd hx ?_, fun _ => ⟨rfl, rfl, ?_⟩⟩
        · rw [j3, l1'] at hz2
          split at hz2 <;> split at hz2 <;> omega
        · refine kept_clear h hg (by show c2.n = c.n; rw [k2, n1]) (by show c2.seg g = _; rw [k3, sg1]) ?_
          show hs c2.room (c2.seg c.into) = _
          refine hs_clear _ _ ?_
          rw [hf] at j4
          rw [hf, j4, splice_take 8 (Nat.le_refl _) (by rw [sf1, splice_len (by rw [zero8_len]; omega), hsl]; omega), hz8]
      · have e3 := wr_go k1 hfn2 j2 hz2 (head (nxt c.kept.1) b)
        rw [e3] at es
        rw [es]
        refine ⟨fun hx => ⟨rfl, j2, ?_, fun hneg => ?_⟩, fun hx => absurd ?_ hx⟩
        · refine kept_new h hg (by show c2.n = c.n; rw [k2, n1]) ?_ ?_
          · have := put_other k1 (f := c.into) (g := g) (j := 0) (by rw [m2, k2, n1]; exact hv.f1) (by rw [m2]; omega) (by rw [m2]; exact hv.ap) (head_len (nxt c.kept.1) b)
            rw [Nat.add_zero] at this
            rw [this, k3, sg1]
          · have hsg := put_seg k1 (f := c.into) (j := 0) (by rw [m2, k2, n1]; exact hv.f1) (by rw [m2]; omega) (head_len (nxt c.kept.1) b)
            rw [Nat.add_zero, Nat.mul_zero] at hsg
            show hs c2.room ((c2.put c.into (head (nxt c.kept.1) b)).seg c.into) = _
            have hkl := c.kept_lt
            refine hs_read _ _ _ _ (by have := nxt_pos c.kept.1; omega) (nxt_lt hkl) (by rw [r2]; exact hb) (by rw [r2]; omega) ?_ ?_
            · rw [hsg]
              unfold splice
              rw [List.take_zero, List.nil_append, List.take_append_of_le_length (by rw [head_len]; exact Nat.le_refl _), List.take_of_length_le (by rw [head_len]; exact Nat.le_refl _)]
            · rw [hsg]
              have hfl := full_len b
              have hnn : nch b = (b.length + 7) / 8 := rfl
              have hft : (full b).take (8 * nch b) = full b := List.take_of_length_le (by omega)
              rw [hft, hf] at j4
              have hs1l : (c1.seg f).length = 8 * c.many := by rw [sf1, splice_len (by rw [zero8_len]; omega), hsl]
              rw [hf, j4]
              rw [splice_apart (by rw [splice_len (by rw [hfl]; omega), head_len]; omega) 8 b.length (.inr (by rw [head_len]; omega))]
              unfold splice
              rw [List.append_assoc, List.drop_append_of_le_length (by rw [List.length_take]; omega), List.drop_eq_nil_of_le (by rw [List.length_take]; omega), List.nil_append]
              unfold full
              rw [List.append_assoc, List.take_append_of_le_length (Nat.le_refl _), List.take_of_length_le (Nat.le_refl _)]
        · show (if 0 < c2.left then c2.left - 1 else c2.left) = c.left
          rw [j3, l1', if_neg (show ¬ 0 < c.left by omega), if_pos hneg, if_neg (by omega)]
        · rw [j3, l1'] at hz2
          rw [l1'] at hk
          split at hz2 <;> split at hz2 <;> omega
    · obtain ⟨j1, j2, j3⟩ := k5 hk
      subst j1
      rw [if_pos rfl] at es
      rw [es]
      refine ⟨fun hx => absurd ?_ hk, fun _ => ⟨rfl, j2, ?_⟩⟩
      · rw [l1']
        split <;> omega
      · refine kept_clear h hg (by show c2.n = c.n; rw [k2, n1]) (by rw [k3, sg1]) ?_
        show hs c2.room (c2.seg c.into) = _
        refine hs_clear _ _ ?_
        rw [hf] at j3
        rw [hf, j3, hz8]
theorem save_long (b : List UInt8) (hb : c.room < b.length) : c.save b = (c, 2) := by unfold Ch.save; rw [if_pos hb]
theorem new_kept {n : Nat} (h1 : 4 ≤ n) : (Ch.new n).kept = (0, []) := by
  have hz : ∀ f, f + n / 2 ≤ n → (Ch.new n).holds f = (0, []) := fun f hf => by
    refine hs_clear _ _ ?_
    unfold Ch.seg Ch.new Ch.many
    simp only [List.drop_replicate, List.take_replicate]
    show List.replicate _ _ = List.replicate 8 0
    congr 1
    omega
  have hm : (Ch.new n).many = n / 2 := rfl
  have hl : (Ch.new n).latest = 1 := by unfold Ch.latest; rw [if_pos (.inl (by rw [hz 0 (by omega)]))]
  unfold Ch.kept
  rw [hl, if_pos rfl, hm, hz (n / 2) (by omega)]
theorem save_room (c : Ch) (b : List UInt8) : (c.save b).1.room = c.room := by unfold Ch.room; rw [Ch.save_n]
end
end Go.Proofs.Nv
namespace Go.Proofs.YtjlbahgjjdfaeaaGreat.Nz
open Go.RowKit Go.Shelf Go.Proofs.Ty Go.Proofs.Nv Go.Proofs.Bits
set_option linter.unusedVariables false
set_option maxRecDepth 1000000
set_option linter.unusedSimpArgs false
/-- A chip made since w. -/
structure Lw (w : World) (C P : Nat) (d : Ch) (W : World) : Prop where
  chip : Cm C P d W
  old : Below w.heap.size w W
  c1 : w.heap.size ≤ C
  p1 : w.heap.size ≤ P
section
variable {w W W' : World} {C P : Nat} {d d' : Ch}
theorem Lw.two (h : Lw w C P d W) (hc : Cm C P d' W') (t : Two C P W W') : Lw w C P d' W' :=
  ⟨hc, ⟨t.os.trans h.old.os, t.tape.trans h.old.tape, t.output.trans h.old.output, Nat.le_trans h.old.size t.size, fun k hk => (t.block k (Nat.lt_of_lt_of_le hk h.old.size) (by have := h.c1; omega) (by have := h.p1; omega)).trans (h.old.block k hk)⟩, h.c1, h.p1⟩
theorem Lw.below (h : Lw w C P d W) (b : Below W.heap.size W W') : Lw w C P d W' := ⟨h.chip.below b, h.old.trans (b.mono h.old.size), h.c1, h.p1⟩
theorem ap_own {B n : Nat} {v : Value} {xs : List Value} (h : W.ownsRow B 5 1 v n xs) (hc : Cm C P d W) : Ap C P v := by
  intro b off m c hv
  rcases h.2 with ⟨h1, _⟩ | ⟨g, cap, cur, h1, _, hg, _⟩
  · rw [hv] at h1; cases h1
  · rw [hv] at h1
    injection h1 with h1
    injection h1 with h1
    injection h1 with h1
    subst h1
    refine ⟨fun e => ?_, fun e => ?_⟩
    · have := hc.head; rw [← e, hg] at this; simp at this
    · have := hc.pages; rw [← e, hg] at this; simp at this
theorem own_cpN {B n : Nat} {v : Value} {e : TypeId} {c : Nat} {xs : List Value} (h : W.ownsRow B e c v n xs) : ∀ ao m k, v = .slice ao m k → m ≤ k := by
  rintro ao m k rfl
  rcases h.2 with ⟨h1, h2⟩ | ⟨g, cap, cur, h1, _, _, h2, _⟩
  · injection h1 with e1 e2 e3; omega
  · injection h1 with e1 e2 e3; omega
/-- append of bytes to none, and a Save of what that gives. -/
theorem Lw.app (h : Lw w C P d W) {vx : Value} {l : List UInt8} (hB : Bytes W vx l) (hl : l.length ≤ 140737488355328) :
    ∃ WA qA, W.alloc (.cells #[] 5) = WA ∧ W.heap.size = qA ∧ WA.ownsRow qA 5 1 (.slice (some ⟨qA, 0, none⟩) 0 0) ([] : List UInt8).length (Lib.byteCells []) ∧ Bytes WA vx l ∧ qA ≤ WA.heap.size ∧
      Hid (∀ v1 w2, w2.ownsRow qA 5 1 v1 ([] ++ l).length (Lib.byteCells ([] ++ l)) → WA.grownBy w2 (Value.slice (some ⟨qA, 0, none⟩) 0 0).ownBlock → Calls Tryz.prog 10 #[.pointer (some ⟨C, 0, none⟩), v1] w2 fun e w' => e = .returned (.int .i64 (d.save l).2) ∧ Lw w C P (d.save l).1 w') := by
  refine ⟨_, _, rfl, rfl, own_empty W, hB.below ((Below.refl _ W).alloc (Nat.le_refl _) _), by rw [size_alloc]; omega, fun v1 w2 ho hg => ?_⟩
  have b1 : Below W.heap.size W (W.alloc (.cells #[] 5)) := (Below.refl _ W).alloc (Nat.le_refl _) _
  have b2 : Below W.heap.size W w2 := b1.grown hg b1.size (fun k e => by cases e; exact Nat.le_refl _)
  have h2 := h.below b2
  have ho' : w2.ownsRow W.heap.size 5 1 v1 l.length (Lib.byteCells l) := ho
  exact (Save_any h2.chip v1 l hl (bytes_of_own ho') (ap_own ho' h2.chip) (own_cpN ho')).mono fun e w' ⟨he, hc, ht⟩ => ⟨he, h2.two hc ht⟩
theorem infoCh : (Tryz.prog.info? 56).map (·.size) = some 3 := by kernel_rfl
theorem infoA8z : (Tryz.prog.info? 81).map (fun i => (i.zero, i.size, i.bytes)) = some (some (.agg #[.int .u8 0, .int .u8 0, .int .u8 0, .int .u8 0, .int .u8 0, .int .u8 0, .int .u8 0, .int .u8 0]), 8, 8) := by kernel_rfl
theorem made8 (n : Nat) : madeCells #[.int .u8 0, .int .u8 0, .int .u8 0, .int .u8 0, .int .u8 0, .int .u8 0, .int .u8 0, .int .u8 0] (n * 8) = (byC (List.replicate (8 * n) 0)).toArray := by
  apply Array.ext
  · simp [size_madeCells, Lib.byteCells, Nat.mul_comm]
  · intro i h1 h2
    have h8 : i % 8 < 8 := Nat.mod_lt _ (by decide)
    simp only [madeCells, Array.getElem_map, Array.getElem_range]
    simp [Lib.byteCells]
    generalize i % 8 = j at *
    match j, h8 with
    | 0, _ => rfl
    | 1, _ => rfl
    | 2, _ => rfl
    | 3, _ => rfl
    | 4, _ => rfl
    | 5, _ => rfl
    | 6, _ => rfl
    | 7, _ => rfl
theorem New_no (i : Int) (hi : i < 4 ∨ 32768 < i) (w : World) : Calls Tryz.prog 5 #[.int .i64 i] w fun e w' => e = .returned (.tuple #[.pointer none, .int .i64 1]) ∧ w' = w := by
  by_cases h : i < 4
  · have hd : decide (i < 4) = true := by simpa using h
    go_enter Tryz.func5, Tryz.ntmps5
    go_wp2
    go_ret2
    exact ⟨rfl, rfl⟩
  · have hd : decide (i < 4) = false := by simpa using h
    have hd2 : decide (32768 < i) = true := by simp; omega
    go_enter Tryz.func5, Tryz.ntmps5
    go_wp2
    go_ret2
    exact ⟨rfl, rfl⟩
theorem New_ok (n : Nat) (h1 : 4 ≤ n) (h2 : n ≤ 32768) (w : World) : Calls Tryz.prog 5 #[.int .i64 n] w fun e w' => ∃ C P, e = .returned (.tuple #[.pointer (some ⟨C, 0, none⟩), .int .i64 0]) ∧ Lw w C P (Ch.new n) w' := by
  obtain ⟨i0, hi0, hz0, hz1, hz2⟩ := info_parts infoA8z
  have hmk : (Instr.makeSlice 54 (.int .i64 n) (.int .i64 n)).run Tryz.prog w = .ok (.slice (some ⟨w.heap.size, 0, none⟩) n n) (w.alloc (.cells (byC (List.replicate (8 * n) 0)).toArray 81)) := by
    have := run_make (P := Tryz.prog) w 54 81 i0 _ Tryz.underlying54 hi0 hz0 .i64 .i64 n n (by omega) (Int.le_refl _) (by rw [hz2]; omega) (by omega)
    rw [hz1, Int.toNat_natCast] at this
    rw [this, show (Value.agg #[.int .u8 0, .int .u8 0, .int .u8 0, .int .u8 0, .int .u8 0, .int .u8 0, .int .u8 0, .int .u8 0]).cells = #[.int .u8 0, .int .u8 0, .int .u8 0, .int .u8 0, .int .u8 0, .int .u8 0, .int .u8 0, .int .u8 0] from rfl, made8]
  have b1 : Below w.heap.size w (w.alloc (.cells (byC (List.replicate (8 * n) 0)).toArray 81)) := (Below.refl _ w).alloc (Nat.le_refl _) _
  have hp := heap_alloc_new w (.cells (byC (List.replicate (8 * n) 0)).toArray 81 (0, 0))
  obtain ⟨w1, hw1⟩ : ∃ x, w.alloc (.cells (byC (List.replicate (8 * n) 0)).toArray 81) = x := ⟨_, rfl⟩
  obtain ⟨q, hq⟩ : ∃ q, w.heap.size = q := ⟨_, rfl⟩
  rw [hw1] at hmk b1 hp
  rw [hq] at hmk hp
  have hh := heap_alloc_new w1 (.cells #[.slice (some ⟨q, 0, none⟩) n n, .int .i64 (-1), .bool false] 56 (0, 0))
  have b2 := b1.alloc b1.size (.cells #[.slice (some ⟨q, 0, none⟩) n n, .int .i64 (-1), .bool false] 56)
  have HL : Hid (Lw w w1.heap.size q (Ch.new n) (w1.alloc (.cells #[.slice (some ⟨q, 0, none⟩) n n, .int .i64 (-1), .bool false] 56))) :=
    ⟨⟨hh, (Below.heap_alloc w1 _ q (Array.getElem?_eq_some_iff.1 hp).1).trans hp, Ch.new_ok h1 h2⟩, b2, b1.size, by omega⟩
  clear b1 b2 hp hh hw1
  have hd : decide ((n : Int) < 4) = false := by simp; omega
  have hd2 : decide (32768 < (n : Int)) = false := by simp; omega
  go_enter Tryz.func5, Tryz.ntmps5
  go_wp2
  go_ret2
  exact ⟨_, _, rfl, HL.out⟩
theorem Lw.lit (h : Lw w C P d W) (x : UInt8) (n : Int) (hn : n = (x.toNat : Int)) :
    ∃ WA qA WB, W.alloc (.cells #[.int .u8 n] 5) = WA ∧ W.heap.size = qA ∧ (convert 24 24 (.slice (some ⟨qA, 0, none⟩) 1 1)).run Tryz.prog WA = .ok (.slice (some ⟨qA, 0, none⟩) 1 1) WB ∧
      Calls Tryz.prog 10 #[.pointer (some ⟨C, 0, none⟩), .slice (some ⟨qA, 0, none⟩) 1 1] WB fun e w' => e = .returned (.int .i64 (d.save [x]).2) ∧ Lw w C P (d.save [x]).1 w' := by
  refine ⟨_, _, _, rfl, rfl, Lib.run_convert_bytes_const W 24 5 #[.int .u8 n] 1 1 Tryz.underlying24 Tryz.underlying5, ?_⟩
  have b1 : Below W.heap.size W (W.alloc (.cells #[.int .u8 n] 5 (1, 2))) := (Below.refl _ W).alloc (Nat.le_refl _) _
  have hq := heap_alloc_new W (.cells #[.int .u8 n] 5 (1, 2))
  have h2 := h.below b1
  have hc := h.chip.lt
  have hp := h.chip.ltP
  refine (Save_any h2.chip (.slice (some ⟨W.heap.size, 0, none⟩) 1 1) [x] (by simp) ?_ ?_ ?_).mono fun e w' ⟨he, hc, ht⟩ => ⟨he, h2.two hc ht⟩
  · refine bytes_cells hq 1 rfl (fun k hk => ?_)
    simp at hk
    subst hk
    simp [hn]
  · intro b off m c hv
    injection hv with hv
    injection hv with hv
    injection hv with hv
    omega
  · intro ao m k hv
    injection hv with _ h1 h2
    omega
theorem load_lw (h : Lw w C P d W) : Calls Tryz.prog 13 #[.pointer (some ⟨C, 0, none⟩)] W fun e w' => ∃ v, e = .returned (.tuple #[v, .bool (d.kept.1 != 0)]) ∧ Bytes w' v d.kept.2 ∧ Lw w C P d w' ∧ Below W.heap.size W w' ∧ Fr W.heap.size v := (Load_any h.chip).mono fun e w' ⟨v, he, hv, hb, hf⟩ => ⟨v, he, hv, h.below hb, hb, hf⟩
/-- A Save of what was loaded. -/
theorem Lw.again {X : World} (h : Lw w C P d X) {v : Value} {l : List UInt8} (hB : Bytes X v l) (hl : l.length ≤ 140737488355328) {B : Nat} (hf : Fr B v) (hC : C < B) (hP : P < B) :
    Calls Tryz.prog 10 #[.pointer (some ⟨C, 0, none⟩), v] X fun e w' => e = .returned (.int .i64 (d.save l).2) ∧ Lw w C P (d.save l).1 w' :=
  (Save_any h.chip v l hl hB (fun b off n k e => by have := (hf _ _ _ e).2 _ rfl; simp only at this; omega) (fun ao n k e => (hf ao n k e).1)).mono fun e w' ⟨he, hc, ht⟩ => ⟨he, h.two hc ht⟩
theorem cut_lw (h : Lw w C P d W) (a : Int) (h0 : -9223372036854775808 ≤ a) (ha : a < 9223372036854775808) : Calls Tryz.prog 9 #[.pointer (some ⟨C, 0, none⟩), .int .i64 a] W fun e w' => (∃ v, e = .returned v) ∧ Lw w C P (d.cut a) w' := (Cut_any h.chip a h0 ha).mono fun e w' ⟨he, hc, ht⟩ => ⟨he, h.two hc ht⟩
theorem power_lw (h : Lw w C P d W) : Calls Tryz.prog 11 #[.pointer (some ⟨C, 0, none⟩)] W fun e w' => (∃ v, e = .returned v) ∧ Lw w C P d.power w' := (Power_any h.chip).mono fun e w' ⟨he, hc, ht⟩ => ⟨he, h.two hc ht⟩
theorem liv1 : ((Ch.new 4).save [97]).2 = 0 ∧ ((Ch.new 4).save [97]).1.Ok ∧ ((Ch.new 4).save [97]).1.dead = false ∧ ((Ch.new 4).save [97]).1.kept = (1, [97]) ∧ ((Ch.new 4).save [97]).1.room = 8 := by
  have h := Ch.new_ok (n := 4) (by decide) (by decide)
  obtain ⟨h1, _⟩ := save_spec h [97] (by decide) rfl
  obtain ⟨a1, a2, a3, a4⟩ := h1 (.inl (by decide))
  rw [new_kept (by decide)] at a3
  exact ⟨a1, Ch.save_ok h _, a2, a3, save_room _ _⟩
theorem liv2 : ((((Ch.new 4).save [97]).1.cut 1).save [98]).2 = 6 ∧ ((((Ch.new 4).save [97]).1.cut 1).save [98]).1.dead = true ∧ ((((Ch.new 4).save [97]).1.cut 1).save [98]).1.kept = (1, [97]) ∧ ((((Ch.new 4).save [97]).1.cut 1).save [98]).1.room = 8 := by
  obtain ⟨_, h2, h3, h4, h5⟩ := liv1
  generalize ((Ch.new 4).save [97]).1 = c at *
  obtain ⟨_, g2⟩ := save_spec (Ch.cut_ok h2 (a := 1) (by decide)) [98] (by show 1 ≤ c.room; omega) h3
  obtain ⟨a1, a2, a3⟩ := g2 (by show ¬ ((1 : Int) < 0 ∨ (3 : Int) ≤ 1); decide)
  exact ⟨a1, a2, a3.trans ((kept_cut c 1).trans h4), (save_room _ _).trans h5⟩
end
end Go.Proofs.YtjlbahgjjdfaeaaGreat.Nz
namespace Go.Proofs.YtjlbahgjjdfaeaaGreat.Nz
open Go.ChangeShapes Go.WideShapes Go.ChangeAt Go.RowKit Go.Proofs.Ty
set_option linter.unusedVariables false
set_option maxRecDepth 1000000

theorem own : ownKnob Tryz.prog.godebug = none := by kernel_rfl
theorem laidOut : laidOutB Tryz.prog = true := by kernel_rfl
theorem bytes5 : Tryz.prog.bytesOf 5 = 1 := by kernel_rfl
theorem u8_of_int {z : Int} (h : (Lit.int .u8 z).wf = true) : ((z.toNat.toUInt8).toNat : Int) = z := by
  have hx : 0 ≤ z ∧ z ≤ 255 := by simpa [Lit.wf, IntKind.min, IntKind.max, IntKind.signed, IntKind.bits] using h
  simp
  omega
theorem wf_i64_of {z : Int} (h : (Lit.int .i64 z).wf = true) : -9223372036854775808 ≤ z ∧ z < 9223372036854775808 := by
  have hx : -9223372036854775808 ≤ z ∧ z ≤ 9223372036854775807 := by simpa [Lit.wf, IntKind.min, IntKind.max, IntKind.signed, IntKind.bits] using h
  omega
theorem wf_u64_of {z : Int} (h : (Lit.int .u64 z).wf = true) : 0 ≤ z ∧ z < 18446744073709551616 := by
  have hx : 0 ≤ z ∧ z ≤ 18446744073709551615 := by simpa [Lit.wf, IntKind.min, IntKind.max, IntKind.signed, IntKind.bits] using h
  omega
theorem cellsV3 : Tryz.prog.cellsOf 60 = 3 := by kernel_rfl
theorem cells1u64 : Tryz.prog.cellsOf 58 = 1 := by kernel_rfl
theorem cells1int : Tryz.prog.cellsOf 3 = 1 := by kernel_rfl
theorem cells1str : Tryz.prog.cellsOf 9 = 1 := by kernel_rfl
theorem list3 {l : List Value} (h : l.length = 3) : ∃ c0 c1 c2, l = [c0, c1, c2] := by
  match l, h with
  | [c0, c1, c2], _ => exact ⟨c0, c1, c2, rfl⟩
theorem open_value {H : Type} {enc : TypeId × Value → H} {W : World} {base : Nat} {v : Value} {d : DataW H} {ps : List MemPlace}
    (hval : Value.okWide Tryz.prog W .any base 60 v) (h : DataW.Trod enc Tryz.prog W 0 (fun _ => true) true 60 v d ps) : ∃ u : Vl, v = .agg u.arr := by
  obtain ⟨cs, rfl, hsz⟩ := okWide_struct Tryz.underlying60 hval
  obtain ⟨fuel, hf⟩ := h
  obtain ⟨l, rfl⟩ : ∃ l : List Value, cs = l.toArray := ⟨cs.toList, by simp⟩
  rw [cellsV3] at hsz
  obtain ⟨c0, c1, c2, rfl⟩ := list3 (by simpa using hsz)
  obtain ⟨xs, n, _, _, _, hl, hfs⟩ := DataW.trod_struct Tryz.underlying60 hf
  have g0 := hfs 0 _ rfl
  have g1 := hfs 1 _ rfl
  have g2 := hfs 2 _ rfl
  simp [Value.cells, cells1u64, cells1int, cells1str] at g0 g1 g2
  match xs, hl with
  | [y0, y1, y2], _ =>
    simp at g0 g1 g2
    obtain ⟨t, e0, _, wt⟩ := DataW.trod_int Tryz.underlying3 g0
    obtain ⟨k, e1, _, wk⟩ := DataW.trod_int Tryz.underlying58 g1
    obtain ⟨s, e2, _, hs⟩ := DataW.trod_string Tryz.underlying9 g2
    simp at e0 e1 e2
    subst e0 e1 e2
    have hk := wf_u64_of wk
    refine ⟨⟨t, k.toNat, s, wf_i64_of wt, by omega, hs⟩, ?_⟩
    have ek : ((k.toNat : Nat) : Int) = k := by omega
    simp [Vl.arr, ek]

set_option maxRecDepth 1000000 in
theorem open_bytes {H : Type} {enc : TypeId × Value → H} {W : World} {base : Nat} {v : Value} {d : DataW H} {ps : List MemPlace}
    (hval : Value.okWide Tryz.prog W .any base 24 v) (h : DataW.Trod enc Tryz.prog W 0 (fun _ => true) true 24 v d ps) (hlt : ∀ x ∈ ps, x.block < W.heap.size) :
    ∃ l : List UInt8, Bytes W v l ∧ ((d = .nil ∧ l = []) ∨ ∃ e s, d = .slice e s ∧ e.length = l.length) := by
  obtain ⟨a, len, cap, rfl⟩ := okWide_slice Tryz.underlying24 hval
  obtain ⟨fuel, hf⟩ := h
  rcases open_ints Tryz.underlying24 Tryz.underlying5 (by kernel_rfl) hf with ⟨hcs, hx⟩ | ⟨x, l, c, zs, hcs, _, hl, hm, hz, hx, hcell, hwz⟩
  · simp [Value.cells] at hcs
    obtain ⟨rfl, rfl, rfl⟩ := hcs
    simp only [Prod.mk.injEq] at hx
    exact ⟨[], ⟨none, 0, rfl, fun _ => ⟨rfl, rfl⟩, fun k hk => by simp at hk⟩, .inl ⟨hx.1, rfl⟩⟩
  · simp [Value.cells] at hcs
    obtain ⟨rfl, rfl, rfl⟩ := hcs
    simp only [Prod.mk.injEq] at hx
    have hz' : zs.length = cap := by simpa using hz
    have hlen : (zs.take len).length = len := by simp; omega
    refine ⟨(zs.take len).map (fun z => z.toNat.toUInt8), ⟨some x, cap, by rw [List.length_map, hlen], (fun h => by cases h), fun k hk => ?_⟩, .inr ⟨_, _, hx.1, by simp [lits]⟩⟩
    rw [List.length_map, hlen] at hk
    obtain ⟨b, off, rfl, hc⟩ := ints_at hcell (by omega)
    refine ⟨b, off, rfl, ?_, ?_⟩
    · have := hlt (.cell b (off + k)) (by rw [hx.2]; simp [MemPlace.row]; omega)
      exact this
    · rw [hc k (by omega)]
      have hk' : k < zs.length := by omega
      have hw := hwz zs[k] (List.getElem_mem hk')
      simp only [List.getElem_map, List.getElem_take]
      rw [u8_of_int hw]
      simp [hk']
theorem size_bytes {H : Type} {ts : List TypeId} {ds : List (DataW H)} {j : Nat} {d : DataW H} {l : List UInt8} (h : (DataW.weightsEach Tryz.prog ts ds).all (· ≤ reachBytes) = true) (ht : ts[j]? = some 24) (hd : ds[j]? = some d) (e : (d = .nil ∧ l = []) ∨ ∃ e s, d = .slice e s ∧ e.length = l.length) : l.length ≤ 140737488351232 := by
  rcases e with ⟨_, rfl⟩ | ⟨e, s, rfl, he⟩
  · simp
  · have hs := sized_slice h ht hd Tryz.underlying24
    rw [bytes5] at hs
    have : reachBytes = 140737488351232 := by decide
    omega
theorem size_string {H : Type} {ts : List TypeId} {ds : List (DataW H)} (j : Nat) {s : ByteArray} (h : (DataW.weightsEach Tryz.prog ts ds).all (· ≤ reachBytes) = true) (ht : ts[j]? = some 9) (hd : ds[j]? = some (.lit (.string s.data.toList))) : s.size ≤ 140737488351232 := by
  have hs := sized_string h ht hd
  have : reachBytes = 140737488351232 := by decide
  simp at hs
  omega
end Go.Proofs.YtjlbahgjjdfaeaaGreat.Nz
namespace Go.Proofs.YtjlbahgjjdfaeaaGreat.Nz
open Go.ChangeShapes Go.WideShapes Go.ChangeAt Go.RowKit Go.Proofs.Ty
set_option linter.unusedVariables false
set_option maxRecDepth 1000000
set_option linter.unusedSimpArgs false
/-- A slice that came in whose elements are rows of c cells. -/
def WdN {α : Type} (c : Nat) (dec : α → List Value) (w : World) (v : Value) (l : List α) : Prop :=
  ∃ ao cap, v = .slice ao l.length cap ∧ (ao = none → l = [] ∧ cap = 0) ∧ ∀ k (h : k < l.length), ∃ b off, ao = some ⟨b, off, none⟩ ∧ b < w.heap.size ∧ w.rangeAt b (off + k * c) (dec l[k])
theorem WdN.shape {α : Type} {c : Nat} {dec : α → List Value} {w : World} {v : Value} {l : List α} (h : WdN c dec w v l) : ∃ ao cap, v = .slice ao l.length cap := by
  obtain ⟨ao, cap, rfl, _⟩ := h
  exact ⟨ao, cap, rfl⟩
theorem open_gen {H : Type} {enc : TypeId × Value → H} {α : Type} {W : World} {c : Nat} {dec : α → List Value} {G : DataW H → α → Prop} {t e : TypeId} (ht : Tryz.prog.underlying t = some (.slice e)) (hc : Tryz.prog.cellsOf e = c) (h0 : 0 < c)
    (hone : ∀ n cs y, DataW.trod enc Tryz.prog W 0 (fun _ => true) true n e cs = some y → (∀ x ∈ y.2, x.block < W.heap.size) → ∃ a : α, cs = dec a ∧ G y.1 a)
    {base : Nat} {v : Value} {d : DataW H} {ps : List MemPlace}
    (hval : Value.okWide Tryz.prog W .any base t v) (h : DataW.Trod enc Tryz.prog W 0 (fun _ => true) true t v d ps) (hlt : ∀ x ∈ ps, x.block < W.heap.size) :
    ∃ l : List α, WdN c dec W v l ∧ ((d = .nil ∧ l = []) ∨ ∃ e s, d = .slice e s ∧ e.length = l.length ∧ ∀ k (h : k < l.length) (h2 : k < e.length), G e[k] l[k]) := by
  obtain ⟨ao, len, cap, rfl⟩ := okWide_slice ht hval
  obtain ⟨fuel, hf⟩ := h
  rcases DataW.trod_slice ht hf with ⟨hcs, hx⟩ | ⟨a, len', cap', elems, rest, n, _, hcs, hx, _, hl, hm, hlen, hel, _, _⟩
  · simp [Value.cells] at hcs
    obtain ⟨rfl, rfl, rfl⟩ := hcs
    simp only [Prod.mk.injEq] at hx
    exact ⟨[], ⟨none, 0, rfl, fun _ => ⟨rfl, rfl⟩, fun k hk => by simp at hk⟩, .inl ⟨hx.1, rfl⟩⟩
  · simp [Value.cells] at hcs
    obtain ⟨rfl, rfl, rfl⟩ := hcs
    simp only [Prod.mk.injEq] at hx
    have each : ∀ i : Fin len, ∃ x : α, (∃ b off, a = ⟨b, off, none⟩ ∧ b < W.heap.size ∧ W.rangeAt b (off + i.1 * c) (dec x)) ∧ G (elems[i.1]'(by have := i.2; omega)).1 x := by
      intro i
      have hi := hel i.1 i.2
      have hil : i.1 < elems.length := by have := i.2; omega
      rw [List.getElem?_eq_getElem hil, Option.bind_eq_some_iff] at hi
      obtain ⟨cs, hcs, hy⟩ := hi
      obtain ⟨x, rfl, hGa⟩ := hone _ _ _ hy (fun p hp => hlt p (by
        rw [hx.2]
        refine List.mem_append_right _ ?_
        rw [List.mem_flatMap]
        exact ⟨elems[i.1], List.mem_append_left _ (List.getElem_mem hil), hp⟩))
      obtain ⟨_, h2, h3⟩ := World.cells?_some hcs
      rw [hc] at h2 h3
      have hs : a.spot = none := by
        have hi0 := hel 0 (by have := i.2; omega)
        rw [List.getElem?_eq_getElem (by have := i.2; omega), Option.bind_eq_some_iff] at hi0
        obtain ⟨cs0, hcs0, _⟩ := hi0
        obtain ⟨_, l2, l3⟩ := World.cells?_some hcs0
        have h4 := l3 0 (by rw [hc]; omega)
        rw [List.getElem?_eq_getElem (by rw [l2, hc]; omega)] at h4
        have := World.cell?_spot h4
        simpa [Addr.add] using this
      obtain ⟨b, off, spot⟩ := a
      simp only at hs
      subst hs
      refine ⟨x, ⟨b, off, rfl, ?_, ?_⟩, hGa⟩
      · have hlt2 : i.1 * c < (elems.length + rest.length) * c := Nat.mul_lt_mul_of_pos_right (by have := i.2; omega) h0
        have := hlt (.cell b (off + i.1 * c)) (by rw [hx.2, hc]; simp [MemPlace.row]; left; omega)
        exact this
      · intro j u hj
        have hjl := (List.getElem?_eq_some_iff.1 hj).1
        have := h3 j (by omega)
        rw [Addr.add_mid, Addr.add_mid, hj] at this
        exact this
    have hlist : ∃ l : List α, ∃ hL : l.length = len, ∀ k (h : k < l.length), (∃ b off, a = ⟨b, off, none⟩ ∧ b < W.heap.size ∧ W.rangeAt b (off + k * c) (dec l[k])) ∧ G (elems[k]'(by omega)).1 l[k] := by
      refine ⟨List.ofFn fun i => Classical.choose (each i), by simp, fun k hk => ?_⟩
      simp only [List.getElem_ofFn]
      exact Classical.choose_spec (each ⟨k, by simpa using hk⟩)
    obtain ⟨l, hll, hat⟩ := hlist
    refine ⟨l, ⟨some a, cap, by rw [hll], (fun h => by cases h), fun k hk => ?_⟩, .inr ⟨_, _, hx.1, by rw [List.length_map, hlen, hll], fun k hk h2 => by rw [List.getElem_map]; exact (hat k hk).2⟩⟩
    obtain ⟨b, off, rfl, hb, hr⟩ := (hat k hk).1
    exact ⟨b, off, rfl, hb, hr⟩
/-- Bytes within what came in. -/
theorem one_bytesN {H : Type} {enc : TypeId × Value → H} {W : World} (n : Nat) (c : Value) (y : DataW H × List MemPlace) (h : DataW.trod enc Tryz.prog W 0 (fun _ => true) true n 24 [c] = some y) (hlt : ∀ x ∈ y.2, x.block < W.heap.size) :
    ∃ l : List UInt8, Bytes W c l ∧ ((y.1 = .nil ∧ l = []) ∨ ∃ e s, y.1 = .slice e s ∧ e.length = l.length) := by
  rcases open_ints Tryz.underlying24 Tryz.underlying5 (by kernel_rfl) h with ⟨hcs, hx⟩ | ⟨x, len, cap, zs, hcs, _, hl, hm, hz, hx, hcell, hwz⟩
  · simp at hcs
    subst hcs
    exact ⟨[], ⟨none, 0, rfl, fun _ => ⟨rfl, rfl⟩, fun k hk => by simp at hk⟩, .inl ⟨by rw [hx], rfl⟩⟩
  · simp at hcs
    subst hcs
    have hz' : zs.length = cap := by simpa using hz
    have hlen : (zs.take len).length = len := by simp; omega
    refine ⟨(zs.take len).map (fun z => z.toNat.toUInt8), ⟨some x, cap, by rw [List.length_map, hlen], (fun h => by cases h), fun k hk => ?_⟩, .inr ⟨_, _, by rw [hx], by simp [lits]⟩⟩
    rw [List.length_map, hlen] at hk
    obtain ⟨b, off, rfl, hc⟩ := ints_at hcell (by omega)
    refine ⟨b, off, rfl, ?_, ?_⟩
    · have := hlt (.cell b (off + k)) (by rw [hx]; simp [MemPlace.row]; omega)
      exact this
    · rw [hc k (by omega)]
      have hk' : k < zs.length := by omega
      have hw := hwz zs[k] (List.getElem_mem hk')
      simp only [List.getElem_map, List.getElem_take]
      rw [u8_of_int hw]
      simp [hk']
theorem weights_memN {H : Type} {P : Program} {e : TypeId} {l : List (DataW H)} {k : Nat} (hk : k < l.length) {n : Nat} (h : n ∈ l[k].weights P e) : n ∈ DataW.weightsAll P e l := by
  induction l generalizing k with
  | nil => simp at hk
  | cons d r ih =>
    rw [DataW.weightsAll, List.mem_append]
    match k, hk with
    | 0, _ => left; simpa using h
    | k + 1, hk => right; exact ih (by simpa using hk) (by simpa using h)
theorem cells1bytesN : Tryz.prog.cellsOf 24 = 1 := by kernel_rfl
end Go.Proofs.YtjlbahgjjdfaeaaGreat.Nz
