/- Contracts: placeOf, place, the tests handed to the library. -/
import Derived.Test.YthalhidebkhclaaO1
namespace Go.Proofs.Ythalhidebkhclaa
open Go.RowKit Go.Proofs.Ty
set_option linter.unusedVariables false
set_option maxRecDepth 1000000
set_option linter.unusedSimpArgs false
theorem or_place (a b : Nat) (ha : a < 65536) (hb : b < 256) : bits BinOp.or IntKind.u32 ((a : Int) * 256) (b : Int) = ((a * 256 + b : Nat) : Int) := by
  have h1 : a * 256 ||| b = a * 256 + b := by
    have := Nat.shiftLeft_add_eq_or_of_lt (i := 8) (b := b) (by omega) a
    rw [Nat.shiftLeft_eq] at this
    simpa using this.symm
  have e : ((a : Int) * 256) = ((a * 256 : Nat) : Int) := by omega
  have h2 : (((a * 256 : Nat) : Int) % 4294967296).toNat = a * 256 := by omega
  have h3 : (((b : Nat) : Int) % 4294967296).toNat = b := by omega
  rw [e]
  show IntKind.u32.wrap ((((((a * 256 : Nat) : Int) % 4294967296).toNat ||| (((b : Nat) : Int) % 4294967296).toNat : Nat)) : Int) = _
  rw [h2, h3, h1]
  simp [IntKind.wrap, IntKind.bits, IntKind.signed]
  omega
theorem placeOf_any (a b : Nat) (ha : a < 65536) (hb : b < 256) (w : World) : Calls Try.prog 34 #[.int .u16 a, .int .u8 b] w fun e w' => e = .returned (.int .u32 (a * 256 + b : Nat)) ∧ w' = w := by
  have ho := or_place a b ha hb
  go_enter Try.func34, Try.ntmps34
  go_wp2
  go_ret
  refine ⟨ret_int ?_, rfl⟩
  first | (rw [ho]; done) | omega
theorem iplace_any {q : Nat} {e : En} {v : Vl} {w : World} (h : Ib q e v w) : Calls Try.prog 42 #[ptrI q] w fun x w' => x = .returned (.int .u32 e.pl) ∧ ∃ n, w' = w.drewN n := by
  have hp := placeOf_any e.ix e.sb e.hix e.hsb
  obtain ⟨c0, c1, _⟩ := h.c
  have HX : Hid (e.pl = e.ix * 256 + e.sb) := rfl
  generalize e.pl = P at *
  clear h
  generalize e.ix = A at *
  generalize e.sb = B at *
  have HC := hidOf2 (show (P : Int) = ((A * 256 + B : Nat) : Int) by rw [HX.out])
  generalize ((A * 256 + B : Nat) : Int) = C at *
  unfold ptrI
  go_enter Try.func42, Try.ntmps42
  go_upto_region 1 with fail
  go_quiet (first | (go_at_call 34; refine Calls.quiet_of_same (hp _)))
  go_wp2
  go_ret
  exact ⟨ret_int HC.out.symm, _, rfl⟩
theorem NaNp_any (x : Int) (w : World) : Calls Try.prog 58 #[.int .u32 x] w fun e w' => e = .returned (.bool false) ∧ w' = w := by
  go_enter Try.func58, Try.ntmps58
  go_wp2
  go_ret
  exact ⟨ret_bool (by simp), rfl⟩
theorem Cmpp_any (x y : Int) (w : World) : Calls Try.prog 41 #[.int .u32 x, .int .u32 y] w fun e w' => e = .returned (.int .i64 (cmpI x y)) ∧ w' = w := by
  have hx := NaNp_any x
  have hy := NaNp_any y
  have HV : Hid (cmpI x y = if x < y then -1 else if y < x then 1 else 0) := rfl
  generalize cmpI x y = V at *
  go_enter Try.func41, Try.ntmps41
  by_cases h1 : x < y
  · have d1 : decide (x < y) = true := decide_eq_true h1
    have e1 := hidOf (show V = -1 by rw [HV.out, if_pos h1])
    go_wp2_with (first | (go_at_call 58; refine (hx _).mono ?_; rintro e w1 ⟨rfl, rfl⟩) | (go_at_call 58; refine (hy _).mono ?_; rintro e w1 ⟨rfl, rfl⟩))
    go_ret
    exact ⟨ret_int e1.out.symm, rfl⟩
  · have d1 : decide (x < y) = false := decide_eq_false h1
    by_cases h2 : y < x
    · have d2 : decide (y < x) = true := decide_eq_true h2
      have e1 := hidOf (show V = 1 by rw [HV.out, if_neg h1, if_pos h2])
      go_wp2_with (first | (go_at_call 58; refine (hx _).mono ?_; rintro e w1 ⟨rfl, rfl⟩) | (go_at_call 58; refine (hy _).mono ?_; rintro e w1 ⟨rfl, rfl⟩))
      go_ret
      exact ⟨ret_int e1.out.symm, rfl⟩
    · have d2 : decide (y < x) = false := decide_eq_false h2
      have e1 := hidOf (show V = 0 by rw [HV.out, if_neg h1, if_neg h2])
      go_wp2_with (first | (go_at_call 58; refine (hx _).mono ?_; rintro e w1 ⟨rfl, rfl⟩) | (go_at_call 58; refine (hy _).mono ?_; rintro e w1 ⟨rfl, rfl⟩))
      go_ret
      exact ⟨ret_int e1.out.symm, rfl⟩
theorem Ib.drew {q : Nat} {e : En} {v : Vl} {w : World} (h : Ib q e v w) (n : Nat) : Ib q e v (w.drewN n) := h
/-- The order of two items. -/
theorem sort_cmp {a b : Nat} {ea eb : En} {va vb : Vl} {w : World} (ha : Ib a ea va w) (hb : Ib b eb vb w) : Calls Try.prog 48 #[ptrI a, ptrI b] w fun x w' => x = .returned (.int .i64 (cmpI ea.pl eb.pl)) ∧ ∃ n, w' = w.drewN n := by
  have h1 := iplace_any ha
  have h2 := fun n => iplace_any (hb.drew n)
  have h3 := Cmpp_any ea.pl eb.pl
  generalize cmpI ea.pl eb.pl = V at *
  clear ha hb
  go_enter Try.func48, Try.ntmps48
  go_wp2_with fail
  refine h1.mono ?_
  rintro x w1 ⟨rfl, n1, rfl⟩
  go_wp2_with fail
  refine (h2 n1).mono ?_
  rintro x w1 ⟨rfl, n2, rfl⟩
  go_wp2_with (go_at_call 41; refine (h3 _).mono ?_; rintro e w1 ⟨rfl, rfl⟩)
  go_ret
  exact ⟨rfl, _, rfl⟩
/-- An item against a place. -/
theorem find_cmp {a : Nat} {ea : En} {va : Vl} {w : World} (ha : Ib a ea va w) (t : Int) : Calls Try.prog 40 #[ptrI a, .int .u32 t] w fun x w' => x = .returned (.int .i64 (cmpI ea.pl t)) ∧ ∃ n, w' = w.drewN n := by
  have h1 := iplace_any ha
  have h3 := Cmpp_any ea.pl t
  generalize cmpI ea.pl t = V at *
  clear ha
  go_enter Try.func40, Try.ntmps40
  go_wp2_with fail
  refine h1.mono ?_
  rintro x w1 ⟨rfl, n1, rfl⟩
  go_wp2_with (go_at_call 41; refine (h3 _).mono ?_; rintro e w1 ⟨rfl, rfl⟩)
  go_ret
  exact ⟨rfl, _, rfl⟩
/-- An item's index against one in a block. -/
theorem find_ix {a q : Nat} {ea : En} {va : Vl} {w : World} (ha : Ib a ea va w) (i : Int) (hq : w.cell? ⟨q, 0, none⟩ = some (.int .u16 i)) : Calls Try.prog 44 #[ptrI a, .pointer (some ⟨q, 0, none⟩)] w fun x w' => x = .returned (.bool (decide ((ea.ix : Int) = i))) ∧ ∃ n, w' = w.drewN n := by
  obtain ⟨c0, _⟩ := ha.c
  have HV : Hid (decide ((ea.ix : Int) = i) = ((ea.ix : Int) == i)) := rfl
  generalize decide ((ea.ix : Int) = i) = V at *
  clear ha
  unfold ptrI
  go_enter Try.func44, Try.ntmps44
  go_upto_region 1 with fail
  go_quiet (fail)
  go_wp2
  go_ret
  exact ⟨ret_bool (by rw [HV.out]), _, rfl⟩
end Go.Proofs.Ythalhidebkhclaa
