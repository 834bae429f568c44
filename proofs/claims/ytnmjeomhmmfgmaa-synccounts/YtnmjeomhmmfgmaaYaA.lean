/- Small calls of a beat: within, first, behind, what may be an end; blocks that stand. -/
import Derived.Test.YtnmjeomhmmfgmaaYaM
import Derived.Test.YtnmjeomhmmfgmaaProg
import Derived.WalkKit
import Derived.WalkSmall
import Derived.Deep.QuietTactic
import Derived.BigQuiet
import Derived.Deep.WholeRow
import Derived.Below
import Derived.Deep.RegionWith
namespace Go.Proofs.Ytnmjeomhmmfgmaa
open Go.RowKit
set_option linter.unusedVariables false
set_option maxRecDepth 1000000

theorem ret_int {k : IntKind} {a b : Int} (h : a = b) : Ending.returned (.int k a) = .returned (.int k b) := by rw [h]
theorem ret_bool {a b : Bool} (h : a = b) : Ending.returned (.bool a) = .returned (.bool b) := by rw [h]
theorem wri {z : Int} (h : -9223372036854775808 ≤ z) (h2 : z < 9223372036854775808) : IntKind.i64.wrap z = z := by
  simp [IntKind.wrap, IntKind.bits, IntKind.signed]
  omega
theorem wru {z : Int} (h : 0 ≤ z) (h2 : z < 18446744073709551616) : IntKind.u64.wrap z = z := by
  simp only [IntKind.wrap, IntKind.bits, IntKind.signed]
  simp
  omega
theorem within_any (w : World) (n l m : Int) (h : l ≤ m) : Calls Try.prog 28 #[.int .i64 n, .int .i64 l, .int .i64 m] w fun e w' => e = .returned (.bool (decide (l ≤ n) && decide (n ≤ m))) ∧ w' = w := by
  have HO : Hid ((decide (l ≤ n) && decide (n ≤ m)) = (n == max l (min n m))) := by
    show _ = _
    rw [Bool.eq_iff_iff, Bool.and_eq_true, decide_eq_true_eq, decide_eq_true_eq, beq_iff_eq]
    omega
  generalize (decide (l ≤ n) && decide (n ≤ m)) = o at *
  go_enter Try.func28, Try.ntmps28
  go_wp2
  all_goals
    go_ret
    refine ⟨ret_bool ?_, rfl⟩
    rw [HO.out, Bool.eq_iff_iff]
    simp
    try omega
theorem first_any (w : World) (ov : Nat) : Calls Try.prog 29 #[.int .i64 ov] w fun e w' => e = .returned (.int .i64 (min (ov : Int) 1)) ∧ w' = w := by
  go_enter Try.func29, Try.ntmps29
  go_wp2
  all_goals
    go_ret
    exact ⟨ret_int (by omega), rfl⟩
theorem behind_any (w : World) (c ov : Nat) (hc : c ≤ 240) (ho : ov ≤ 240) : Calls Try.prog 27 #[.int .i64 c, .int .i64 ov] w fun e w' => e = .returned (.int .i64 (nxt ov c)) ∧ ∃ n, w' = w.drewN n := by
  have HF := first_any
  by_cases h : ov = 0
  · subst h
    have e2 : min ((0 : Nat) : Int) 1 = 0 := by omega
    have HN : Hid (((nxt 0 c : Nat) : Int) = 0) := by show _ = _; simp [nxt]
    generalize nxt 0 c = o at *
    go_enter Try.func27, Try.ntmps27
    go_wp2_with fail
    go_quiet ((go_at_call 29; exact Calls.quiet_of_same (HF _ _)))
    all_goals
      go_wp2
      go_ret
      exact ⟨ret_int (by rw [HN.out]; try omega), _, rfl⟩
  · have e1 : (c : Int).tmod (ov : Int) = ((c % ov : Nat) : Int) := rfl
    have e2 : min (ov : Int) 1 = 1 := by omega
    have e4 : decide ((ov : Int) < 1) = false := by simp; omega
    have e3 : c % ov < ov := Nat.mod_lt _ (by omega)
    have HN : Hid (((nxt ov c : Nat) : Int) = ((c % ov : Nat) : Int) + 1) := by show _ = _; simp [nxt, h]
    generalize nxt ov c = o at *
    generalize c % ov = m at *
    go_enter Try.func27, Try.ntmps27
    go_wp2_with fail
    go_quiet ((go_at_call 29; exact Calls.quiet_of_same (HF _ _)))
    all_goals
      go_wp2
      go_ret
      exact ⟨ret_int (by rw [HN.out]; try omega), _, rfl⟩
theorem may_any (w : World) (n : Int) : Calls Try.prog 26 #[.int .i64 n] w fun e w' => e = .returned (.bool (ovO n)) ∧ w' = w := by
  have HW := within_any w n 2 240 (by omega)
  have HO : Hid (ovO n = (decide (n = 0) || decide (2 ≤ n) && decide (n ≤ 240))) := rfl
  generalize ovO n = o at *
  generalize (decide (2 ≤ n) && decide (n ≤ 240)) = z at *
  by_cases h : n = 0
  · have h1 : (n == 0) = true := by simp [h]
    rw [decide_eq_true h] at HO
    clear h
    go_enter Try.func26, Try.ntmps26
    go_wp2_with (go_at_call 28; refine HW.mono ?_; rintro e w' ⟨rfl, rfl⟩)
    go_ret
    exact ⟨ret_bool (by rw [HO.out]; rfl), rfl⟩
  · have h1 : (n == 0) = false := by simp [h]
    rw [decide_eq_false h] at HO
    clear h
    go_enter Try.func26, Try.ntmps26
    go_wp2_with (go_at_call 28; refine HW.mono ?_; rintro e w' ⟨rfl, rfl⟩)
    go_ret
    exact ⟨ret_bool (by rw [HO.out]; rfl), rfl⟩
theorem counts_any (w : World) (n : Int) : Calls Try.prog 9 #[.int .i64 n] w fun e w' => e = .returned (.bool (ovO n)) ∧ w' = w := by
  have HO : Hid (ovO n = (decide (n = 0) || decide (2 ≤ n) && decide (n ≤ 240))) := rfl
  generalize ovO n = o at *
  by_cases h : n = 0
  · have h1 : (n == 0) = true := by simp [h]
    rw [decide_eq_true h] at HO
    clear h
    go_enter Try.func9, Try.ntmps9
    go_wp2
    go_ret
    exact ⟨ret_bool (by rw [HO.out]; rfl), rfl⟩
  · have h1 : (n == 0) = false := by simp [h]
    rw [decide_eq_false h] at HO
    by_cases h2 : 2 ≤ n
    · have h3 : decide (2 ≤ n) = true := by simp [h2]
      rw [h3] at HO
      clear h
      go_enter Try.func9, Try.ntmps9
      go_wp2
      go_ret
      exact ⟨ret_bool (by rw [HO.out]; simp), rfl⟩
    · have h3 : decide (2 ≤ n) = false := by simp [h2]
      rw [h3] at HO
      clear h
      go_enter Try.func9, Try.ntmps9
      go_wp2
      go_ret
      exact ⟨ret_bool (by rw [HO.out]; simp), rfl⟩
/-- Blocks other than g and h stand; nothing else is changed. -/
structure Two (g h : Nat) (w w' : World) : Prop where
  os : w'.os = w.os
  tape : w'.tape = w.tape
  output : w'.output = w.output
  size : w.heap.size ≤ w'.heap.size
  block : ∀ k, k < w.heap.size → k ≠ g → k ≠ h → w'.heap[k]? = w.heap[k]?
section
variable {g h : Nat} {a b c w : World}
theorem Two.refl (g h : Nat) (w : World) : Two g h w w := ⟨rfl, rfl, rfl, Nat.le_refl _, fun _ _ _ _ => rfl⟩
theorem Two.trans (x : Two g h a b) (y : Two g h b c) : Two g h a c :=
  ⟨y.os.trans x.os, y.tape.trans x.tape, y.output.trans x.output, Nat.le_trans x.size y.size, fun k hk h1 h2 => (y.block k (Nat.lt_of_lt_of_le hk x.size) h1 h2).trans (x.block k hk h1 h2)⟩
theorem Two.setCell (x : Two g h a w) {p : Addr} (hp : p.block = g ∨ p.block = h ∨ a.heap.size ≤ p.block) (v : Value) : Two g h a (w.setCell p v) :=
  ⟨x.os, x.tape, x.output, by simpa [World.setCell] using x.size, fun k hk h1 h2 => (Below.heap_setCell w p v k (by omega)).trans (x.block k hk h1 h2)⟩
theorem Two.alloc (x : Two g h a w) (o : Obj) : Two g h a (w.alloc o) :=
  ⟨x.os, x.tape, x.output, Nat.le_trans x.size (by simp), fun k hk h1 h2 => (Below.heap_alloc _ _ _ (Nat.lt_of_lt_of_le hk x.size)).trans (x.block k hk h1 h2)⟩
theorem Two.drawn (x : Two g h a w) (n : Nat) : Two g h a (w.drewN n) := ⟨x.os, x.tape, x.output, x.size, x.block⟩
theorem Two.row (x : Two g h a w) (q : Nat) (hq : q = g ∨ q = h) (cs : Array Value) : Two g h a (w.setRow q cs) :=
  ⟨x.os, x.tape, x.output, by simpa [World.setRow] using x.size, fun k hk h1 h2 => (setRow_other w q k _ (by omega)).trans (x.block k hk h1 h2)⟩
theorem Two.at0 (x : Two g h a w) (i : Nat) (v : Value) : Two g h a (w.setCell ⟨g, i, none⟩ v) := x.setCell (p := ⟨g, i, none⟩) (.inl rfl) v
theorem Two.at1 (x : Two g h a w) (i : Nat) (v : Value) : Two g h a (w.setCell ⟨h, i, none⟩ v) := x.setCell (p := ⟨h, i, none⟩) (.inr (.inl rfl)) v
theorem Two.left (x : Two g g a w) (h : Nat) : Two g h a w := ⟨x.os, x.tape, x.output, x.size, fun k hk h1 h2 => x.block k hk h1 h1⟩
theorem Two.right (x : Two h h a w) (g : Nat) : Two g h a w := ⟨x.os, x.tape, x.output, x.size, fun k hk h1 h2 => x.block k hk h2 h2⟩
theorem Two.below (x : Two g h a w) {B : Nat} (hB : B ≤ a.heap.size) (hg : B ≤ g) (hh : B ≤ h) : Below B a w :=
  ⟨x.os, x.tape, x.output, x.size, fun k hk => x.block k (by omega) (by omega) (by omega)⟩
end

end Go.Proofs.Ytnmjeomhmmfgmaa
