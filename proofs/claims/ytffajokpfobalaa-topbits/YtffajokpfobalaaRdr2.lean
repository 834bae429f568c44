/- Contracts of a reader's mark, number and fixed. -/
import Derived.Test.YtffajokpfobalaaRdr
import Derived.Test.YtffajokpfobalaaNum
namespace Go.Proofs.Ytffajokpfobalaa
open Go.RowKit Go.Proofs.Bits
set_option linter.unusedVariables false
set_option maxRecDepth 1000000

section
variable {t : List UInt8} {s : RS} {g : Nat} {w : World}

def markV (b : UInt8) : Value := .bool (decide (b = 49))
theorem mark_eq (b : UInt8) : ((b.toNat : Int) == 49) = decide (b = 49) := by
  by_cases h : b = 49
  · subst h; rfl
  · have : b.toNat ≠ 49 := fun e => h (UInt8.toNat_inj.1 e)
    simp [h]; omega

set_option maxHeartbeats 1000000 in
theorem mark_any {r : Except Flt (UInt8 × RS)} (ht : t.length ≤ 65536) (hall : t.all isBit = true) (h : Rd t s g w) (hrow : s.row ≤ 4) (hr : bitS t s = r) :
    Calls Try.prog 36 #[.pointer (some ⟨g, 0, none⟩)] w (PostR g t w markV r) := by
  have HR : Hid (bitS t s = r) := hr
  clear hr
  go_enter Try.func36, Try.ntmps36
  go_wp2_with fail
  refine (bit_any ht hall h hrow HR.out).mono ?_
  intro e w1 hP
  cases r with
  | error f =>
    obtain ⟨rfl, b1⟩ := hP.error
    exact ⟨rfl, PostR.of_error rfl b1⟩
  | ok q =>
    obtain ⟨b, s1⟩ := q
    obtain ⟨rfl, h1, b1⟩ := hP.ok
    have hm := mark_eq b
    unfold u8V
    clear HR hP
    go_wp2
    go_ret
    exact PostR.of_ok (a := b) rfl (by simp [markV]) h1 b1

set_option maxHeartbeats 1000000 in
theorem fixed_any {r : Except Flt (Unit × RS)} (lv : UInt8) (er : Int) (ht : t.length ≤ 65536) (h : Rd t s g w) (hr : fixS t lv er s = r) :
    Calls Try.prog 39 #[.pointer (some ⟨g, 0, none⟩), .int .u8 lv.toNat, .int .i64 er] w (PostR g t w unitV r) := by
  have HR : Hid (fixS t lv er s = r) := hr
  clear hr
  obtain ⟨c0, c1, c2, c3, hf⟩ := h.cells
  clear c0 c2 c3 hf
  go_enter Try.func39, Try.ntmps39
  go_wp2_with fail
  refine (next_any ht h).mono ?_
  intro e w1 hP
  cases hg : t[s.pos]? with
  | none =>
    have hn : nextS t s = .error (s.pos, 3) := by simp [nextS, hg]
    have hF : r = .error (s.pos, 3) := by rw [← HR.out]; simp [fixS, hg]
    rw [hn] at hP
    obtain ⟨rfl, b1⟩ := hP.error
    exact ⟨rfl, PostR.of_error hF b1⟩
  | some b =>
    have hn : nextS t s = .ok (b, { s with pos := s.pos + 1 }) := by simp [nextS, hg]
    rw [hn] at hP
    obtain ⟨rfl, h1, b1⟩ := hP.ok
    unfold u8V
    by_cases hb : b = lv
    · have hF : Hid (r = .ok ((), { s with pos := s.pos + 1 })) := by show r = _; rw [← HR.out]; simp [fixS, hg, hb]
      have he : ((b.toNat : Int) == (lv.toNat : Int)) = true := by rw [hb]; simp
      subst hb
      clear HR hP hn hg
      go_wp2
      go_end0
      exact PostR.of_ok hF.out rfl h1 b1
    · have hF : Hid (r = .error (s.pos, er)) := by show r = _; rw [← HR.out]; simp [fixS, hg, hb]
      have he := u8_ne hb
      clear HR hP hn hg
      go_wp2
      exact ⟨rfl, PostR.of_error hF.out b1⟩

def u32V (bs : List UInt8) : Value := .int .u32 (val bs)
theorem val_step32 (x : Nat) (b : UInt8) (hb : b.toNat = 48 ∨ b.toNat = 49) (hx : x < 262144) :
    bits BinOp.or IntKind.u32 ((x : Int) * 2) ((b.toNat : Int) - 48) = ((valStep x b : Nat) : Int) := by
  rw [show ((b.toNat : Int) - 48) = ((b.toNat - 48 : Nat) : Int) by omega, show ((x : Int) * 2) = ((x * 2 : Nat) : Int) by omega, u32_or_nat _ _ (by omega) (by omega), or_bit _ _ (by omega)]
  rfl

set_option maxHeartbeats 1000000 in
theorem number_any {r : Except Flt (List UInt8 × RS)} (n : Nat) (hn : n ≤ 18) (ht : t.length ≤ 65536) (hall : t.all isBit = true) (h : Rd t s g w) (hrow : s.row ≤ 4) (hr : takeS t n s = r) :
    Calls Try.prog 38 #[.pointer (some ⟨g, 0, none⟩), .int .i64 n] w (PostR g t w u32V r) := by
  have HR : Hid (takeS t n s = r) := hr
  clear hr
  go_enter Try.func38, Try.ntmps38
  go_wp2_with fail
  go_loopw [5, 7] (fun x i wr => ∃ (k : Nat) (bs : List UInt8) (s1 : RS), k ≤ n ∧ i = .int .i64 k ∧ x = .int .u32 (val bs) ∧ takeS t k s = .ok (bs, s1) ∧ Rd t s1 g wr ∧ s1.row ≤ 4 ∧ Kp g w wr) (fun _ i _ => n - (intOf i).toNat)
  case atStart => exact ⟨0, [], s, Nat.zero_le _, rfl, rfl, rfl, h, hrow, Kp.refl _ _⟩
  case round =>
    obtain ⟨k, bs, s1, hk, rfl, rfl, htk, h1, hr1, b1⟩ := hrel
    have HT : Hid (takeS t k s = .ok (bs, s1)) := htk
    have hlt : val bs < 262144 := by
      have := takeS_lt hall htk
      exact Nat.lt_of_lt_of_le this (Nat.pow_le_pow_right (n := 2) (j := 18) (by omega) (by omega))
    clear htk h
    by_cases hkn : k < n
    · go_wp2_with fail
      refine (bit_any ht hall h1 hr1 rfl).mono ?_
      intro e w2 hP
      cases hbit : bitS t s1 with
      | error f =>
        rw [hbit] at hP
        obtain ⟨rfl, b2⟩ := hP.error
        have hF : r = .error f := by
          rw [← HR.out, show n = (k + 1) + (n - (k + 1)) by omega]
          exact takeS_stays (takeS_fault HT.out hbit) _
        exact ⟨rfl, PostR.of_error hF (b1.trans b2)⟩
      | ok q =>
        obtain ⟨b, s2⟩ := q
        rw [hbit] at hP
        obtain ⟨rfl, h2, b2⟩ := hP.ok
        have HT2 : Hid (takeS t (k + 1) s = .ok (bs ++ [b], s2)) := takeS_next HT.out hbit
        have hr2 := bitS_row hbit hr1
        have hb : b.toNat = 48 ∨ b.toNat = 49 := by
          rw [List.all_eq_true] at hall
          exact isBit_cases (hall b (bitS_bit hbit))
        have HV : Hid (val (bs ++ [b]) = valStep (val bs) b) := val_snoc bs b
        unfold u8V
        clear hP hbit HT h1
        generalize val bs = x at *
        go_wp2
        go_roundw
        case rel => exact ⟨k + 1, bs ++ [b], s2, by omega, by go_num, val_int (by rw [HV.out]; exact val_step32 x b hb hlt), HT2.out, h2, hr2, b1.trans b2⟩
        case measure => simp [intOf]; omega
    · obtain rfl : k = n := by omega
      have HF : Hid (r = .ok (bs, s1)) := HR.out.symm.trans HT.out
      clear HR HT
      go_wp2
      go_ret
      exact PostR.of_ok HF.out rfl h1 b1
end
end Go.Proofs.Ytffajokpfobalaa
