/- Contracts: number, putNumber. -/
import Derived.Test.YthbcpmakhdogmaaNvW
import Derived.Test.YthbcpmakhdogmaaTyB
import Derived.Laws.BitsAllLaws
namespace Go.Proofs.Ythbcpmakhdogmaa
open Go.RowKit Go.Proofs.Ty Go.Proofs.Nv
set_option linter.unusedVariables false
set_option maxRecDepth 1000000
set_option linter.unusedSimpArgs false
theorem num_join (l : List UInt8) : num l = joinL l := by
  induction l with
  | nil => rfl
  | cons x r ih => simp only [num, joinL, ih]
theorem le_low (n k : Nat) : le n k = lowL n k := by
  induction k with
  | zero => rfl
  | succ k ih =>
    rw [le_snoc, lowL_snoc, ih]
    congr 2
    apply UInt8.toNat_inj.1
    simp
theorem val_intM {k : IntKind} {a b : Int} (h : a = b) : Value.int k a = .int k b := by rw [h]
theorem two8N (k : Nat) : 2 ^ (k * 8) = 256 ^ k := by rw [Nat.mul_comm, Nat.pow_mul]
theorem two8iN (k : Nat) : (2 : Int) ^ (k * 8) = ((256 ^ k : Nat) : Int) := by
  rw [← two8N]
  simp
theorem wrapUN (n : Int) : IntKind.u64.wrap n = n % 18446744073709551616 := by simp [IntKind.wrap, IntKind.bits, IntKind.signed]
theorem join_stepN (l : List UInt8) (k : Nat) (hk : k < l.length) (h8 : l.length ≤ 8) :
    bits BinOp.or IntKind.u64 ((joinL (l.take k) : Nat) : Int) (IntKind.u64.wrap ((l[k].toNat : Int) * 2 ^ (k * 8))) = ((joinL (l.take (k + 1)) : Nat) : Int) := by
  have hc := l[k].toNat_lt
  have hlen : (l.take k).length = k := by rw [List.length_take]; omega
  have h1 := joinL_lt (l.take k)
  rw [hlen] at h1
  have hp : 256 ^ k ≤ 256 ^ 7 := Nat.pow_le_pow_right (by omega) (by omega)
  have hx : l[k].toNat * 256 ^ k < 18446744073709551616 := by
    have : l[k].toNat * 256 ^ k ≤ 255 * 256 ^ 7 := Nat.mul_le_mul (by omega) hp
    have e : 255 * 256 ^ 7 < 18446744073709551616 := by decide
    omega
  have e : ((l[k].toNat : Int) * 2 ^ (k * 8)) = ((l[k].toNat * 256 ^ k : Nat) : Int) := by rw [two8iN]; simp
  have ew : IntKind.u64.wrap ((l[k].toNat * 256 ^ k : Nat) : Int) = ((l[k].toNat * 256 ^ k : Nat) : Int) := by
    rw [wrapUN]
    omega
  have e7 : (256 : Nat) ^ 7 < 18446744073709551616 := by decide
  rw [e, ew, u64_or_nat _ _ (by omega) hx, Nat.or_comm, nat_join (k * 8) _ _ (by rw [two8N]; exact Nat.mul_mod_left _ _) (by rw [two8N]; exact h1), List.take_succ_eq_append_getElem hk, joinL_snoc, hlen, Nat.add_comm]
set_option maxHeartbeats 1000000 in
theorem number_any (x : Value) (l : List UInt8) (w : World) (h8 : l.length ≤ 8) (hB : Bytes w x l) :
    Calls Try.prog 44 #[x] w fun e w' => e = .returned (.int .u64 (num l)) ∧ w' = w := by
  rw [num_join]
  obtain ⟨ao, cap, rfl, h0, hc⟩ := hB
  have HS := hidOf (join_stepN l)
  go_enter Try.func44, Try.ntmps44
  go_wp2
  go_loop [3, 8] (fun n i => ∃ k : Nat, k ≤ l.length ∧ i = .int .i64 k ∧ n = .int .u64 (joinL (l.take k))) (fun _ i => l.length - (intOf i).toNat)
  case atStart => exact ⟨0, Nat.zero_le _, rfl, rfl⟩
  case round =>
    obtain ⟨k, hk, rfl, rfl⟩ := hrel
    by_cases hkl : k < l.length
    · obtain ⟨b, off, rfl, hlt, hcell⟩ := hc k hkl
      have H1 := hidOf (HS.out k hkl h8)
      have hcl := l[k].toNat_lt
      generalize hJ : joinL (l.take k) = J at *
      go_wp2
      go_round
      case rel => exact ⟨k + 1, by omega, by go_num, val_intM (by first | exact H1.out | (rw [← H1.out]; simp))⟩
      case measure => simp [intOf]; omega
    · go_wp2
      go_ret
      obtain rfl : k = l.length := by omega
      exact ⟨ret_int (by rw [List.take_of_length_le (Nat.le_refl _)]), rfl⟩
theorem byte_atN (n k : Nat) : ((n : Int) / 2 ^ (k * 8) % 256) = ((UInt8.ofNat (n / 256 ^ k)).toNat : Int) := by
  have e : (2 : Int) ^ (k * 8) = ((256 ^ k : Nat) : Int) := by
    rw [Nat.mul_comm, Int.pow_mul]
    simp
  rw [e, show (UInt8.ofNat (n / 256 ^ k)).toNat = n / 256 ^ k % 256 by simp]
  simp
theorem byC_setN (l : List UInt8) (k : Nat) (c : UInt8) : (byC l).set k (.int .u8 c.toNat) = byC (l.set k c) := by
  simp [Lib.byteCells, List.map_set]
theorem splice_set {h b : List UInt8} {o : Nat} (x : UInt8) (hb : o + b.length < h.length) : (splice h o b).set (o + b.length) x = splice h o (b ++ [x]) := by
  apply List.ext_getElem?
  intro k
  rw [List.getElem?_set, splice_get (by omega), splice_get (by simp; omega), splice_len (by omega)]
  by_cases e : o + b.length = k
  · subst e
    rw [if_pos rfl, if_pos hb, if_pos (by simp)]
    simp
  · rw [if_neg e]
    by_cases e2 : o ≤ k ∧ k < o + b.length
    · rw [if_pos e2, if_pos (by simp; omega), List.getElem?_append_left (by omega)]
    · rw [if_neg e2, if_neg (by simp; omega)]
set_option maxHeartbeats 1000000 in
theorem putNumber_any (q o k cap n : Nat) (h : List UInt8) (w : World) (hn : n < 18446744073709551616) (hk : k ≤ 8) (ho : o + k ≤ h.length) (hq : w.heap[q]? = some (.cells (byC h).toArray 38 (0, 0))) :
    Calls Try.prog 39 #[.slice (some ⟨q, o, none⟩) k cap, .int .u64 n] w fun e w' => (∃ v, e = .returned v) ∧ w'.heap[q]? = some (.cells (byC (splice h o (le n k))).toArray 38 (0, 0)) ∧ Two q q w w' := by
  have HS : Hid (∀ j, byC (splice h o (lowL n j)) = byC (splice h o (lowL n j))) := fun _ => rfl
  rw [le_low]
  go_enter Try.func39, Try.ntmps39
  go_wp2
  go_loopw [7] (fun i wr => ∃ j : Nat, j ≤ k ∧ i = .int .i64 j ∧ wr.heap[q]? = some (.cells (byC (splice h o (lowL n j))).toArray 38 (0, 0)) ∧ Two q q w wr) (fun i _ => k - (intOf i).toNat)
  case atStart => exact ⟨0, Nat.zero_le _, rfl, by rw [show lowL n 0 = [] from rfl, splice_nil]; exact hq, Two.refl _ _ _⟩
  case round =>
    obtain ⟨j, hj, rfl, hqj, hT⟩ := hrel
    by_cases hjk : j < k
    · have hlen : (lowL n j).length = j := lowL_length n j
      have hsz : o + j < (byC (splice h o (lowL n j))).length := by rw [byC_len, splice_len (by rw [hlen]; omega)]; omega
      have hcell : (wr.cell? ⟨q, o + j, none⟩).isSome = true := by rw [Lib.cell_of_heap hqj]; simp; exact hsz
      obtain ⟨v0, hv0⟩ := Option.isSome_iff_exists.1 hcell
      have hfr : wr.frozen? ⟨q, o + j, none⟩ = false := Lib.frozen_of_heap hqj _
      have hB := hidOf (byte_atN n j)
      have HN : Hid ((wr.setCell ⟨q, o + j, none⟩ (.int .u8 ((UInt8.ofNat (n / 256 ^ j)).toNat))).heap[q]? = some (.cells (byC (splice h o (lowL n (j + 1)))).toArray 38 (0, 0))) := by
        show _ = _
        simp only [World.setCell, Array.getElem?_modify, hqj]
        rw [lowL_snoc, ← splice_set _ (by rw [hlen]; omega), ← byC_setN, hlen]
        simp
      have HTw := hidOf (hT.at0 (o + j) (.int .u8 ((UInt8.ofNat (n / 256 ^ j)).toNat)))
      clear hcell hqj
      rw [← hB.out] at HN HTw
      go_wp2
      go_roundw
      case rel => exact ⟨j + 1, by omega, by go_num, HN.out, HTw.out⟩
      case measure => simp [intOf]; omega
    · obtain rfl : j = k := by omega
      go_wp2
      go_end0
      exact ⟨⟨_, rfl⟩, hqj, hT⟩
end Go.Proofs.Ythbcpmakhdogmaa
