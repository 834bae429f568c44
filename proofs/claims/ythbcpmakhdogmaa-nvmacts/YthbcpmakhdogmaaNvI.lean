/- Contracts: slices.Chunk and what it hands back. -/
import Derived.Test.YthbcpmakhdogmaaNvE
import Derived.RangeFuncNested
import Derived.RangeFuncBound
import Derived.RangeFuncCalls
import Derived.RangeFuncLeaves
import Derived.RangeFuncBox
import Derived.Shelf.Abstract
import Derived.OwnWalkIn
import Derived.TacticsInMore
import Derived.LoopNIn
import Derived.LoopIn
import Derived.Sort.QuietIn
namespace Go.Proofs.Ythbcpmakhdogmaa
open Go.RowKit Go.Shelf Go.Proofs.Ty Go.Proofs.Nv Go.Proofs.Bits
set_option linter.unusedVariables false
set_option maxRecDepth 1000000
set_option linter.unusedSimpArgs false
attribute [local go_sem] Oper.semAt_some
/-- The part of a slice that a round has. -/
def chV (b off len j : Nat) : Value := .slice (some ⟨b, off + 8 * j, none⟩) (min 8 (len - 8 * j)) (min 8 (len - 8 * j))
theorem chunk_sl (b off len cap j e : Nat) (h1 : 8 * j < len) (h2 : len ≤ cap) (he : e = 8 * j + min 8 (len - 8 * j)) (W : World) : (Instr.sliceAt 30 (.slice (some ⟨b, off, none⟩) len cap) (some (.int .i64 (8 * j : Nat))) (some (.int .i64 (e : Nat))) (some (.int .i64 (e : Nat)))).run Try.prog W = .ok (chV b off len j) W := by
  obtain ⟨i0, hi0, hz0, hz1, hz2⟩ := info_parts info5
  have a0 : (0 : Int) ≤ ((8 * j : Nat) : Int) := by omega
  have a1 : ((8 * j : Nat) : Int) ≤ (e : Int) := by omega
  have a2 : (e : Int) ≤ (cap : Int) := by omega
  have a3 : ¬ (e = 8 * j) := by omega
  have a4 : e - 8 * j = min 8 (len - 8 * j) := by omega
  unfold chV
  rw [← a4]
  generalize 8 * j = x at *
  simp [Instr.sliceAt, run_underlying Try.underlying30, go_sem, sizeOf, typeInfo, hi0, hz1, Addr.add, a0, a1, a2, a3]
  try (intro hx; subst hx; rfl)
theorem chunk_tl (b off len cap j : Nat) (h1 : 8 * j < len) (h2 : len ≤ cap) (W : World) : (Instr.sliceAt 30 (.slice (some ⟨b, off, none⟩) len cap) (some (.int .i64 (8 * j : Nat))) none none).run Try.prog W = .ok (.slice (some ⟨b, off + 8 * j, none⟩) (len - 8 * j) (cap - 8 * j)) W := by
  obtain ⟨i0, hi0, hz0, hz1, hz2⟩ := info_parts info5
  have a0 : (0 : Int) ≤ ((8 * j : Nat) : Int) := by omega
  have a1 : ((8 * j : Nat) : Int) ≤ (len : Int) := by omega
  have a2 : (len : Int) ≤ (cap : Int) := by omega
  have a3 : ¬ (cap = 8 * j) := by omega
  generalize 8 * j = x at *
  simp [Instr.sliceAt, run_underlying Try.underlying30, go_sem, sizeOf, typeInfo, hi0, hz1, Addr.add, a0, a1, a2, a3]
  try (intro hx; subst hx; rfl)
/-- Two blocks stay. -/
def Kpp (s n : Nat) (W W' : World) : Prop := W'.heap[s]? = W.heap[s]? ∧ W'.heap[n]? = W.heap[n]?
theorem Kpp.trans {s n : Nat} {A B C : World} (h : Kpp s n A B) (k : Kpp s n B C) : Kpp s n A C := ⟨k.1.trans h.1, k.2.trans h.2⟩
set_option maxRecDepth 100000 in
set_option maxHeartbeats 4000000 in
theorem chunk1_in (l Bs Bn len cap b off : Nat) (h2 : len ≤ cap) (hr : len ≤ 1000000) (hl0 : 0 < len) (J Jx : List Nat → World → Prop)
    (hJd : ∀ s W n, J s W → J s (W.drewN n))
    (hY : ∀ pre x W, J pre W → pre.length < (len + 7) / 8 → YieldAt Fence.wide (3 - 1) Try.prog l #[chV b off len x] W fun e W' =>
      (e = .returned (.bool true) ∧ J (pre ++ [x]) W' ∧ Kpp Bs Bn W W') ∨ (e = .returned (.bool false) ∧ Jx (pre ++ [x]) W'))
    (W : World) (hBs : W.heap[Bs]? = some (.cells #[.slice (some ⟨b, off, none⟩) len cap] 30 (0, 0))) (hBn : W.heap[Bn]? = some (.cells #[.int .i64 8] 3 (0, 0))) (h0 : J [] W) :
    CallsIn Fence.wide 3 Try.prog 46 #[.func (.yield l) #[] #[], .pointer (some ⟨Bs, 0, none⟩), .pointer (some ⟨Bn, 0, none⟩)] W fun e W' => (∃ v, e = .returned v) ∧
      ((∃ ys, ys = List.range ((len + 7) / 8) ∧ J ys W') ∨ (∃ pre, (∃ k, k ≤ (len + 7) / 8 ∧ pre = List.range k) ∧ Jx pre W')) := by
  refine callsIn_of_wp Try.func46 rfl trivial ?_ rfl
  simp only [Try.ntmps46, List.size_toArray, List.length_cons, List.length_nil, Nat.reduceAdd, Nat.reduceSub, Array.replicate_succ, Array.replicate_zero, List.push_toArray, List.append_toArray, List.nil_append, List.cons_append]
  gi_wp2
  gi_loopw [4] (fun i wr => ∃ k : Nat, k ≤ (len + 7) / 8 ∧ i = .int .i64 (8 * k : Nat) ∧ J (List.range k) wr ∧ Kpp Bs Bn W wr)
    (fun i _ => len + 8 - (intOf i).toNat)
  case atStart => exact ⟨0, Nat.zero_le _, rfl, h0, rfl, rfl⟩
  case round =>
    obtain ⟨k, hk, rfl, hJs, hkp⟩ := hrel
    have hs := hkp.1.trans hBs
    have hn := hkp.2.trans hBn
    have cs : wr.cell? ⟨Bs, 0, none⟩ = some (.slice (some ⟨b, off, none⟩) len cap) := Lib.cell_of_heap hs 0
    have cn : wr.cell? ⟨Bn, 0, none⟩ = some (.int .i64 8) := Lib.cell_of_heap hn 0
    by_cases hlt : 8 * k < len
    · obtain ⟨x, hx⟩ : ∃ x, 8 * k = x := ⟨_, rfl⟩
      obtain ⟨N, hN⟩ : ∃ N, len - x = N := ⟨_, rfl⟩
      obtain ⟨m, hm⟩ : ∃ m, min 8 N = m := ⟨_, rfl⟩
      have htl := chunk_tl b off len cap k hlt h2
      have hsl := chunk_sl b off len cap k (x + m) hlt h2 (by rw [hx, hN, hm])
      rw [hx] at htl hsl hlt ⊢
      rw [hN] at htl
      rw [Int.natCast_add] at hsl
      have hmn : min (8 : Int) (N : Int) = (m : Int) := by omega
      have hyd := fun nq => hY (List.range k) k (wr.drewN nq) (hJd _ _ nq hJs) (by rw [List.length_range]; omega)
      have HX := hidOf hx
      have HJd := hidOf hJd
      have hb1 : m ≤ 8 := by omega
      have hx1 : x < len := hlt
      have hd : decide ((x : Int) < (len : Int)) = true := by simp; omega
      have HK := hidOf hkp
      have HFN : Hid (∀ nq W3, Kpp Bs Bn (wr.drewN nq) W3 → Kpp Bs Bn W W3) := fun nq W3 h3 => hkp.trans h3
      have HN2 : Hid (∀ nq W3, Kpp Bs Bn (wr.drewN nq) W3 → W3.cell? ⟨Bn, 0, none⟩ = some (.int .i64 8)) := fun nq W3 h3 => Lib.cell_of_heap (h3.2.trans hn) 0
      clear hx hN hm hkp hs hn hY hBs hBn
      gi_wp2_with fail
      gi_quiet (fail)
      obtain ⟨fn, tmps, assign, body, hy, hR⟩ := hyd nq
      clear hyd
      gi_wp2
      refine hR.mono ?_
      rintro e W3 (⟨rfl, hJ3, hk3⟩ | ⟨rfl, hJx3⟩)
      · have cn3 := HN2.out nq W3 hk3
        have HK3 := hidOf (HFN.out nq W3 hk3)
        clear hk3 HN2 HFN hR hy
        gi_wp2
        go_roundw
        case rel => exact ⟨k + 1, by have := HX.out; omega, val_intM (by have := HX.out; omega), by rw [List.range_succ]; exact hJ3, HK3.out⟩
        case measure => simp [intOf]; omega
      · clear HN2 HFN hR hy
        gi_wp2
        refine bodyPost_ret (results_none rfl _ _ _) rfl ?_
        exact ⟨⟨_, rfl⟩, .inr ⟨_, ⟨k + 1, by have := HX.out; omega, List.range_succ.symm⟩, hJx3⟩⟩
    · have hd : decide (((8 * k : Nat) : Int) < (len : Int)) = false := by simp; omega
      obtain rfl : k = (len + 7) / 8 := by omega
      gi_wp2
      go_end0
      exact ⟨⟨_, rfl⟩, .inl ⟨_, rfl, hJs⟩⟩
set_option maxRecDepth 100000 in
set_option maxHeartbeats 4000000 in
theorem chunk0_in (l Bs Bn cap : Nat) (ao : Option Addr) (J : List Nat → World → Prop)
    (W : World) (hBs : W.heap[Bs]? = some (.cells #[.slice ao 0 cap] 30 (0, 0))) (h0 : J [] W) :
    CallsIn Fence.wide 3 Try.prog 46 #[.func (.yield l) #[] #[], .pointer (some ⟨Bs, 0, none⟩), .pointer (some ⟨Bn, 0, none⟩)] W fun e W' => (∃ v, e = .returned v) ∧ J [] W' := by
  have cs : W.cell? ⟨Bs, 0, none⟩ = some (.slice ao 0 cap) := Lib.cell_of_heap hBs 0
  refine callsIn_of_wp Try.func46 rfl trivial ?_ rfl
  simp only [Try.ntmps46, List.size_toArray, List.length_cons, List.length_nil, Nat.reduceAdd, Nat.reduceSub, Array.replicate_succ, Array.replicate_zero, List.push_toArray, List.append_toArray, List.nil_append, List.cons_append]
  gi_wp2
  gi_loopw [4] (fun i wr => i = .int .i64 0 ∧ wr = W) (fun _ _ => 0)
  case atStart => exact ⟨rfl, rfl⟩
  case round =>
    obtain ⟨rfl, rfl⟩ := hrel
    gi_wp2
    go_end0
    exact ⟨⟨_, rfl⟩, h0⟩
theorem Chunk_any (v : Value) (w : World) (hv : v.oneCell' = true) (hs : ∃ ao n c, v = .slice ao n c) : CallsIn Fence.wide 3 Try.prog 37 #[v, .int .i64 8] w fun e w' => e = .returned (.func (.func 46) #[] #[.pointer (some ⟨w.heap.size, 0, none⟩), .pointer (some ⟨w.heap.size + 1, 0, none⟩)]) ∧ w' = (w.alloc (.cells #[v] 30)).alloc (.cells #[.int .i64 8] 3) := by
  obtain ⟨ao, n, c, rfl⟩ := hs
  refine callsIn_of_wp Try.func37 rfl trivial ?_ rfl
  simp only [Try.ntmps37, List.size_toArray, List.length_cons, List.length_nil, Nat.reduceAdd, Nat.reduceSub, Array.replicate_succ, Array.replicate_zero, List.push_toArray, List.append_toArray, List.nil_append, List.cons_append]
  gi_wp2
  go_ret
  exact ⟨rfl, rfl⟩
/-- What Chunk hands back hands on the parts one behind the other, or the first ones of them. -/
theorem chunk_stops (Bs Bn len cap b off : Nat) (ao : Option Addr) (w : World) (h2 : len ≤ cap) (hr : len ≤ 1000000) (hao : 0 < len → ao = some ⟨b, off, none⟩)
    (hBs : w.heap[Bs]? = some (.cells #[.slice ao len cap] 30 (0, 0))) (hBn : w.heap[Bn]? = some (.cells #[.int .i64 8] 3 (0, 0))) :
    SeqStopsK Fence.wide 3 Try.prog 46 #[.pointer (some ⟨Bs, 0, none⟩), .pointer (some ⟨Bn, 0, none⟩)] (fun x : Nat => #[chV b off len x]) (Kpp Bs Bn) (fun ys => ys = List.range ((len + 7) / 8)) (fun pre => ∃ k, k ≤ (len + 7) / 8 ∧ pre = List.range k) ((len + 7) / 8) w := fun l J Jx W hW hJ _ hY h0 => by
  have hs := (hW.block Bs (Array.getElem?_eq_some_iff.1 hBs).1).trans hBs
  have hn := (hW.block Bn (Array.getElem?_eq_some_iff.1 hBn).1).trans hBn
  have hJd : ∀ s W n, J s W → J s (W.drewN n) := fun s A n hs => hJ s A (A.drewN n) none hs ⟨rfl, rfl, rfl, Nat.le_refl _, fun _ _ _ => rfl⟩ (fun r e => by cases e)
  by_cases h : 0 < len
  · obtain rfl := hao h
    exact chunk1_in l Bs Bn len cap b off h2 hr h J Jx hJd hY W hs hn h0
  · obtain rfl : len = 0 := by omega
    exact (chunk0_in l Bs Bn cap ao J W hs h0).mono fun e W' ⟨he, hj⟩ => ⟨he, .inl ⟨_, rfl, hj⟩⟩
end Go.Proofs.Ythbcpmakhdogmaa
