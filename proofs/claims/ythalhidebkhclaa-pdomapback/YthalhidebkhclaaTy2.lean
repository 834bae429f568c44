/- Contracts: Check, Plain. -/
import Derived.Test.YthalhidebkhclaaTy1
import Derived.Lib.Builder
namespace Go.Proofs.Ythalhidebkhclaa
open Go.RowKit Go.Proofs.Ty
set_option linter.unusedVariables false
set_option maxRecDepth 1000000

theorem bdr {B : Nat} {a w : World} (h : Below B a w) (n : Nat) : Below B a (w.drewN n) := ⟨h.os, h.tape, h.output, h.size, h.block⟩
theorem hidOf {P : Prop} (h : P) : Hid P := h
/-- A value's cells in a new block. -/
theorem new_cells (w : World) (a b c : Value) (T : TypeId) : (w.alloc (.cells #[a, b, c] T)).cell? ⟨w.heap.size, 0, none⟩ = some a ∧ (w.alloc (.cells #[a, b, c] T)).cell? ⟨w.heap.size, 1, none⟩ = some b ∧ (w.alloc (.cells #[a, b, c] T)).cell? ⟨w.heap.size, 2, none⟩ = some c := by
  have h : (w.alloc (.cells #[a, b, c] T)).heap[w.heap.size]? = some (.cells #[a, b, c] T (0, 0)) := by
    show (w.heap.push _)[w.heap.size]? = _
    simp
  exact ⟨Lib.cell_of_heap h 0, Lib.cell_of_heap h 1, Lib.cell_of_heap h 2⟩
/-- A value's cells. -/
def vA (t : Int) (n : Nat) (s : ByteArray) : Array Value := #[.int .i64 t, .int .u64 n, .string s]
/-- A value without what plays no part. -/
def plN (t : Int) (n : Nat) : Nat := if kind t = 3 ∨ kind t = 4 then 0 else n
def plS (t : Int) (s : ByteArray) : ByteArray := if kind t = 1 ∨ kind t = 2 then ⟨#[]⟩ else s

set_option maxHeartbeats 1000000 in
theorem Check_any (t : Int) (n : Nat) (s : ByteArray) (hn : n < 18446744073709551616) (w : World) :
    Calls Try.prog 51 #[.agg #[.int .i64 t, .int .u64 n, .string s]] w fun e w' => e = .returned (.int .i64 (chk t n s)) ∧ Below w.heap.size w w' := by
  have hK := kindOf_any t
  have hk := kind_le t
  have hc := cut_any t n hn
  have he := extend_any t n hn
  have bn : Below w.heap.size w (w.alloc (.cells #[.int .i64 t, .int .u64 n, .string s] 42)) := (Below.refl _ _).alloc (Nat.le_refl _) _
  obtain ⟨c0, c1, c2⟩ := new_cells w (.int .i64 t) (.int .u64 n) (.string s) 42
  obtain ⟨W, hW⟩ : ∃ W, w.alloc (.cells #[.int .i64 t, .int .u64 n, .string s] 42) = W := ⟨_, rfl⟩
  obtain ⟨q, hq⟩ : ∃ q, w.heap.size = q := ⟨_, rfl⟩
  rw [hW, hq] at c0 c1 c2
  rw [hW] at bn
  have HV : Hid (chk t n s = if kind t = 1 then (if n % 2 ^ wid t = n then 0 else 1)
      else if kind t = 2 then (if extN (wid t) n = n then 0 else 1)
      else if kind t = 0 then 1
      else if 65536 < s.size then 2 else if t = 9 ∧ prn s.data.toList = false then 1 else 0) := rfl
  have HT : Hid (kind t = 3 ↔ t = 9) := kind_text t
  generalize chk t n s = V at *
  generalize kind t = K at *
  generalize n % 2 ^ wid t = C at *
  generalize extN (wid t) n = E at *
  go_enter Try.func51, Try.ntmps51
  by_cases h1 : K = 1
  · subst h1
    have hcc := hc rfl
    clear hc
    have e1 := hidOf (show V = if C = n then 0 else 1 by rw [HV.out]; simp)
    clear HV he HT
    by_cases hc' : C = n
    · subst hc'
      go_wp2_with (go_at_call 60; refine (hK _).mono ?_; rintro e w1 ⟨rfl, rfl⟩)
      go_quiet (first | (go_at_call 65; refine Calls.quiet_of_same (hcc _)))
      go_wp2
      go_ret
      exact ⟨ret_int (by rw [e1.out]; simp), bdr bn _⟩
    · have hd : ((C : Int) == (n : Int)) = false := by simp; omega
      go_wp2_with (go_at_call 60; refine (hK _).mono ?_; rintro e w1 ⟨rfl, rfl⟩)
      go_quiet (first | (go_at_call 65; refine Calls.quiet_of_same (hcc _)))
      go_wp2
      go_ret
      exact ⟨ret_int (by rw [e1.out]; simp [hc']), bdr bn _⟩
  · by_cases h2 : K = 2
    · subst h2
      have hee := he rfl
      clear he
      have e1 := hidOf (show V = if E = n then 0 else 1 by rw [HV.out]; simp)
      clear HV hc HT
      by_cases hc' : E = n
      · subst hc'
        go_wp2_with (go_at_call 60; refine (hK _).mono ?_; rintro e w1 ⟨rfl, rfl⟩)
        go_quiet (first | (go_at_call 66; refine Calls.quiet_of_same (hee _)))
        go_wp2
        go_ret
        exact ⟨ret_int (by rw [e1.out]; simp), bdr bn _⟩
      · have hd : ((E : Int) == (n : Int)) = false := by simp; omega
        go_wp2_with (go_at_call 60; refine (hK _).mono ?_; rintro e w1 ⟨rfl, rfl⟩)
        go_quiet (first | (go_at_call 66; refine Calls.quiet_of_same (hee _)))
        go_wp2
        go_ret
        exact ⟨ret_int (by rw [e1.out]; simp [hc']), bdr bn _⟩
    · by_cases h0 : K = 0
      · subst h0
        have e1 := hidOf (show V = 1 by rw [HV.out]; simp)
        clear HV hc HT he
        go_wp2_with (go_at_call 60; refine (hK _).mono ?_; rintro e w1 ⟨rfl, rfl⟩)
        go_ret
        exact ⟨ret_int (by rw [e1.out]; rfl), bn⟩
      · by_cases hl : 65536 < s.size
        · have e1 := hidOf (show V = 2 by rw [HV.out]; simp [h1, h2, h0, hl])
          clear HV hc HT he
          obtain rfl | rfl : K = 3 ∨ K = 4 := by omega
          all_goals
            go_wp2_with (go_at_call 60; refine (hK _).mono ?_; rintro e w1 ⟨rfl, rfl⟩)
            go_ret
            exact ⟨ret_int (by rw [e1.out]; rfl), bn⟩
        · have hP := printable_any s (by omega)
          by_cases h3 : K = 3
          · subst h3
            obtain rfl : t = 9 := HT.out.1 rfl
            have e1 := hidOf (show V = if prn s.data.toList = false then 1 else 0 by rw [HV.out]; simp [hl])
            clear HV hc HT he
            generalize prn s.data.toList = b at *
            cases b
            all_goals
              go_wp2_with (first | (go_at_call 60; refine (hK _).mono ?_; rintro e w1 ⟨rfl, rfl⟩) | (go_at_call 67; refine (hP _).mono ?_; rintro e w1 ⟨rfl, rfl⟩))
              go_ret
              exact ⟨ret_int (by rw [e1.out]; rfl), bn⟩
          · have h9 : t ≠ 9 := fun e => h3 (HT.out.2 e)
            have e1 := hidOf (show V = 0 by rw [HV.out]; simp [h1, h2, h0, hl, h9])
            have d9 : (t != 9) = true := by simpa using h9
            obtain rfl : K = 4 := by omega
            clear HV hc HT he
            go_wp2_with (go_at_call 60; refine (hK _).mono ?_; rintro e w1 ⟨rfl, rfl⟩)
            go_ret
            exact ⟨ret_int (by rw [e1.out]; rfl), bn⟩
end Go.Proofs.Ythalhidebkhclaa
