/- Contracts of the document's own: Size, Is, Signed, low, Wide. -/
import Derived.Test.YthalhidebkhclaaTyE
import Derived.Test.YthalhidebkhclaaTy6
namespace Go.Proofs.Ythalhidebkhclaa
open Go.RowKit Go.Proofs.Ty
set_option linter.unusedVariables false
set_option maxRecDepth 1000000

set_option maxHeartbeats 1000000 in
theorem r7Size_any (t : Int) (w : World) :
    Calls Try.prog 24 #[.int .i64 t] w fun e w' => e = .returned (.int .i64 (siz t)) ∧ w' = w := by
  go_enter Try.func24, Try.ntmps24
  go_wp2
  all_goals go_ret
  all_goals exact ⟨ret_int (by simp_all [siz]), rfl⟩
set_option maxHeartbeats 1000000 in
theorem r7Is_any (t : Int) (w : World) :
    Calls Try.prog 50 #[.int .i64 t] w fun e w' => e = .returned (.bool (kind t != 0)) ∧ w' = w := by
  have hS := r7Size_any t
  have hz := siz_zero t
  have HB : Hid ((kind t != 0) = (decide (0 < siz t) || t == 9 || t == 10 || t == 15)) := by
    show (kind t != 0) = _
    unfold kind siz
    (repeat' split) <;> simp_all <;> omega
  generalize (kind t != 0) = B at *
  clear hz
  by_cases hz : 0 < siz t
  · have dz : decide (0 < siz t) = true := by simpa using hz
    have e1 := hidOf (show B = true by rw [HB.out]; simp [hz])
    clear HB
    generalize siz t = z at *
    go_enter Try.func50, Try.ntmps50
    go_wp2_with (go_at_call 24; refine (hS _).mono ?_; rintro e w1 ⟨rfl, rfl⟩)
    go_ret
    exact ⟨ret_bool (by rw [e1.out]), rfl⟩
  · have h0 : siz t = 0 := by omega
    rw [h0] at hS
    have e1 := hidOf (show B = (t == 9 || t == 10 || t == 15) by rw [HB.out, h0]; simp)
    clear HB h0 hz
    by_cases h9 : t = 9
    · subst h9
      go_enter Try.func50, Try.ntmps50
      go_wp2_with (go_at_call 24; refine (hS _).mono ?_; rintro e w1 ⟨rfl, rfl⟩)
      go_ret
      exact ⟨ret_bool (by rw [e1.out]; rfl), rfl⟩
    · have d9 : (t == 9) = false := by simpa using h9
      by_cases h10 : t = 10
      · subst h10
        go_enter Try.func50, Try.ntmps50
        go_wp2_with (go_at_call 24; refine (hS _).mono ?_; rintro e w1 ⟨rfl, rfl⟩)
        go_ret
        exact ⟨ret_bool (by rw [e1.out]; rfl), rfl⟩
      · have d10 : (t == 10) = false := by simpa using h10
        go_enter Try.func50, Try.ntmps50
        go_wp2_with (go_at_call 24; refine (hS _).mono ?_; rintro e w1 ⟨rfl, rfl⟩)
        go_ret
        exact ⟨ret_bool (by rw [e1.out, d9, d10]; simp), rfl⟩
set_option maxHeartbeats 1000000 in
theorem r7Signed_any (t : Int) (w : World) :
    Calls Try.prog 93 #[.int .i64 t] w fun e w' => e = .returned (.bool (kind t == 2)) ∧ w' = w := by
  have HB : Hid ((kind t == 2) = (t == 2 || t == 3 || t == 4 || t == 21)) := by
    show (kind t == 2) = _
    unfold kind
    (repeat' split) <;> simp_all <;> omega
  generalize (kind t == 2) = B at *
  by_cases h2 : t = 2
  · subst h2
    go_enter Try.func93, Try.ntmps93
    go_wp2
    go_ret
    exact ⟨ret_bool (by rw [HB.out]; rfl), rfl⟩
  · have d2 : (t == 2) = false := by simpa using h2
    by_cases h3 : t = 3
    · subst h3
      go_enter Try.func93, Try.ntmps93
      go_wp2
      go_ret
      exact ⟨ret_bool (by rw [HB.out]; rfl), rfl⟩
    · have d3 : (t == 3) = false := by simpa using h3
      by_cases h4 : t = 4
      · subst h4
        go_enter Try.func93, Try.ntmps93
        go_wp2
        go_ret
        exact ⟨ret_bool (by rw [HB.out]; rfl), rfl⟩
      · have d4 : (t == 4) = false := by simpa using h4
        go_enter Try.func93, Try.ntmps93
        go_wp2
        go_ret
        exact ⟨ret_bool (by rw [HB.out, d2, d3, d4]; simp), rfl⟩
set_option maxHeartbeats 1000000 in
theorem r7low_any (n z : Nat) (hz : z ≤ 8) (w : World) :
    Calls Try.prog 83 #[.int .u64 n, .int .i64 z] w fun e w' => ∃ x, e = .returned x ∧ Bytes w' x (lowL n z) ∧ Below w.heap.size w w' := by
  have hown0 := own_empty w
  go_enter Try.func83, Try.ntmps83
  go_wp2
  go_loopw [5, 6] (fun v i wr => ∃ k : Nat, k ≤ z ∧ i = .int .i64 k ∧ wr.ownsRow w.heap.size 5 1 v (lowL n k).length (Lib.byteCells (lowL n k)) ∧ Below w.heap.size w wr) (fun _ i _ => z - (intOf i).toNat)
  case atStart => exact ⟨0, Nat.zero_le _, rfl, hown0, (Below.refl _ _).alloc (Nat.le_refl _) _⟩
  case round =>
    obtain ⟨k, hk, rfl, hown, hb⟩ := hrel
    by_cases hkz : k < z
    · have hsn := hidOf (lowL_snoc n k)
      have hlen := lowL_length n k
      have szw := hb.size
      have hcb := byte_at n k
      rw [Nat.mul_comm] at hcb
      have hcell := cell_new wr (.int .u8 (UInt8.ofNat (n / 256 ^ k)).toNat) 5
      have hown2 := ownsRow_alloc hown (.cells #[.int .u8 (UInt8.ofNat (n / 256 ^ k)).toNat] 5)
      have hlt := own_lt hown
      generalize UInt8.ofNat (n / 256 ^ k) = c at *
      generalize lowL n k = acc at *
      go_wp2_with (at_builtin; refine append_one rfl _ _ rfl w.heap.size _ acc rfl hown2 ⟨wr.heap.size, 0, none⟩ c rfl hcell (by omega) (by rw [size_alloc]; omega) ?_)
      intro v' w1 o1 g1
      have b1 : Below w.heap.size w w1 := (hb.alloc szw _).grown g1 (by rw [size_alloc]; omega) hlt
      rw [← hsn.out] at o1
      clear hown2 g1 hcell
      go_wp2
      go_roundw
      case rel => exact ⟨k + 1, by omega, by go_num, by rw [lowL_length]; exact o1, b1⟩
      case measure => simp [intOf]; omega
    · obtain rfl : k = z := by omega
      go_wp2
      go_ret
      exact ⟨_, rfl, bytes_of_own hown, hb⟩
/-- A number of at most eight bytes, with its sign. -/
def wideN (sg : Bool) (l : List UInt8) : Nat := if sg = true ∧ 0 < l.length ∧ 128 ≤ (l.getLast?.getD 0).toNat then joinL l + (18446744073709551616 - 256 ^ l.length) else joinL l
theorem fill_step (J m k : Nat) (hJ : J < 256 ^ m) (hm : m ≤ k) (hk : k < 8) :
    bits BinOp.or IntKind.u64 (((J + (256 ^ k - 256 ^ m)) : Nat) : Int) (IntKind.u64.wrap (255 * 2 ^ (8 * k))) = (((J + (256 ^ (k + 1) - 256 ^ m)) : Nat) : Int) := by
  have h1 : 256 ^ m ≤ 256 ^ k := Nat.pow_le_pow_right (by omega) hm
  have hp : 256 ^ k ≤ 256 ^ 7 := Nat.pow_le_pow_right (by omega) (by omega)
  have e7 : (256 : Nat) ^ 7 = 72057594037927936 := by decide
  have e : ((255 : Int) * 2 ^ (8 * k)) = ((255 * 256 ^ k : Nat) : Int) := by rw [Nat.mul_comm, two8i]; simp
  have ew : IntKind.u64.wrap ((255 * 256 ^ k : Nat) : Int) = ((255 * 256 ^ k : Nat) : Int) := by
    rw [wrapU]
    omega
  rw [e, ew, u64_or_nat _ _ (by omega) (by omega), Nat.or_comm, nat_join (k * 8) _ _ (by rw [two8]; exact Nat.mul_mod_left _ _) (by rw [two8]; omega), Nat.pow_succ]
  omega
set_option maxHeartbeats 1000000 in
theorem r7Wide_v (t : Int) (x : Value) (l : List UInt8) (w : World) (h8 : l.length ≤ 8) (hB : Bytes w x l) :
    Calls Try.prog 82 #[.int .i64 t, x] w fun e w' => e = .returned (.int .u64 (wideN (kind t == 2) l)) ∧ w' = w := by
  obtain ⟨ao, cap, rfl, h0, hc⟩ := hB
  have HS := hidOf (join_step l)
  have hG := r7Signed_any t
  have HW : Hid (wideN (kind t == 2) l = if (kind t == 2) = true ∧ 0 < l.length ∧ 128 ≤ (l.getLast?.getD 0).toNat then joinL l + (18446744073709551616 - 256 ^ l.length) else joinL l) := rfl
  have hJl := joinL_lt l
  generalize wideN (kind t == 2) l = V at *
  generalize (kind t == 2) = sg at *
  go_enter Try.func82, Try.ntmps82
  go_wp2
  go_loop [5, 6] (fun n i => ∃ k : Nat, k ≤ l.length ∧ i = .int .i64 k ∧ n = .int .u64 (joinL (l.take k))) (fun _ i => l.length - (intOf i).toNat)
  case atStart => exact ⟨0, Nat.zero_le _, rfl, rfl⟩
  case round =>
    obtain ⟨k, hk, rfl, rfl⟩ := hrel
    by_cases hkl : k < l.length
    · obtain ⟨b, off, rfl, hlt, hcell⟩ := hc k hkl
      have H1 := HS.out k hkl h8
      rw [Nat.mul_comm] at H1
      have H2 := hidOf H1
      clear H1
      have hk8 : k < 8 := by omega
      have dk : decide (k < 8) = true := by simpa using hk8
      have di : decide ((k : Int) < 8) = true := by simp; omega
      have hcl := l[k].toNat_lt
      generalize hJ : joinL (l.take k) = J at *
      go_wp2
      go_round
      case rel => exact ⟨k + 1, by omega, by go_num, val_int (by exact H2.out)⟩
      case measure => simp [intOf]; omega
    · obtain rfl : k = l.length := by omega
      rw [List.take_of_length_le (Nat.le_refl _)]
      have dk : decide ((l.length : Int) < (l.length : Int)) = false := by simp
      by_cases hs : sg = true
      · subst hs
        by_cases hl0 : 0 < l.length
        · obtain ⟨b, off, rfl, hlt, hcell⟩ := hc (l.length - 1) (by omega)
          have hlast : l.getLast?.getD 0 = l[l.length - 1] := by
            rw [List.getLast?_eq_getElem?, List.getElem?_eq_getElem (by omega)]
            rfl
          rw [hlast] at HW
          by_cases h128 : 128 ≤ l[l.length - 1].toNat
          · have e1 := hidOf (show V = joinL l + (18446744073709551616 - 256 ^ l.length) by rw [HW.out, if_pos ⟨rfl, hl0, h128⟩])
            have d1 : decide ((128 : Int) ≤ (l[l.length - 1].toNat : Int)) = true := by simp; omega
            clear HW HS
            go_wp2_with (go_at_call 93; refine (hG _).mono ?_; rintro e w1 ⟨rfl, rfl⟩)
            go_loop [5, 7] (fun n i => ∃ k : Nat, l.length ≤ k ∧ k ≤ 8 ∧ i = .int .i64 k ∧ n = .int .u64 ((joinL l + (256 ^ k - 256 ^ l.length) : Nat))) (fun _ i => 8 - (intOf i).toNat)
            case atStart => exact ⟨l.length, Nat.le_refl _, h8, rfl, val_int (by rw [Nat.sub_self]; rfl)⟩
            case round =>
              obtain ⟨k, hk1, hk2, rfl, rfl⟩ := hrel
              by_cases hk8 : k < 8
              · have H1 := hidOf (fill_step (joinL l) l.length k hJl hk1 hk8)
                have dk8 : decide ((k : Int) < 8) = true := by simp; omega
                generalize joinL l + (256 ^ k - 256 ^ l.length) = J at *
                go_wp2
                go_round
                case rel => exact ⟨k + 1, by omega, by omega, by go_num, val_int (by exact H1.out)⟩
                case measure => simp [intOf]; omega
              · have dk8 : decide ((k : Int) < 8) = false := by simp; omega
                obtain rfl : k = 8 := by omega
                go_wp2
                go_ret
                exact ⟨ret_int (by rw [e1.out]; rfl), rfl⟩
          · have e1 := hidOf (show V = joinL l by rw [HW.out, if_neg (fun h => h128 h.2.2)])
            have d1 : decide ((128 : Int) ≤ (l[l.length - 1].toNat : Int)) = false := by simp; omega
            go_wp2_with (go_at_call 93; refine (hG _).mono ?_; rintro e w1 ⟨rfl, rfl⟩)
            go_ret
            exact ⟨ret_int (by rw [e1.out]), rfl⟩
        · have e1 := hidOf (show V = joinL l by rw [HW.out, if_neg (fun h => hl0 h.2.1)])
          have d0 : decide ((0 : Int) < (l.length : Int)) = false := decide_eq_false (by omega)
          have hl0' : l.length = 0 := by omega
          have d0' : decide (0 < l.length) = false := decide_eq_false (by omega)
          clear HW HS
          go_wp2_with (go_at_call 93; refine (hG _).mono ?_; rintro e w1 ⟨rfl, rfl⟩)
          go_ret
          exact ⟨ret_int (by rw [e1.out]), rfl⟩
      · have hs : sg = false := by simpa using hs
        subst hs
        have e1 := hidOf (show V = joinL l by rw [HW.out]; simp)
        clear HW
        go_wp2_with (go_at_call 93; refine (hG _).mono ?_; rintro e w1 ⟨rfl, rfl⟩)
        go_ret
        exact ⟨ret_int (by rw [e1.out]), rfl⟩
end Go.Proofs.Ythalhidebkhclaa
