/- Plain facts on values: no program is named here. Contracts: kindOf, width, Size, cut, extend, printable. Contracts: Check, Plain. Plain facts on bytes of numbers: no program is named here. Values in memory, held against each other; contracts: Plain, Encode. Contracts: Compare; which of two values is greater, in plain facts. Rows of cells that the call itself made; bytes that came in. -/
import Derived.Below
import Derived.Test.YtahfnknbmikmkaaGreatProg
import Derived.WalkKit
import Derived.WalkSmall
import Derived.Deep.QuietTactic
import Derived.BigQuiet
import Derived.Lib.Builder
import Derived.DeepKeys
import Derived.Lib.UnsafeStr
import Derived.Laws.IdiomStrings
import Derived.Deep.OwnRows
import Derived.Deep.WholeRow
import Derived.ProofKit
import Derived.OpenShut
import Derived.Sort.Walk0
namespace Go.Proofs.Ty

/-- 1 without a sign, 2 with one, 3 a text, 4 octets, 0 none. -/
def kind (t : Int) : Nat := if t = 1 ∨ t = 5 ∨ t = 6 ∨ t = 7 ∨ t = 27 then 1 else if t = 2 ∨ t = 3 ∨ t = 4 ∨ t = 21 then 2 else if t = 9 then 3 else if t = 10 ∨ t = 15 then 4 else 0
def wid (t : Int) : Nat := if t = 1 then 1 else if t = 2 ∨ t = 5 then 8 else if t = 3 ∨ t = 6 then 16 else if t = 4 ∨ t = 7 then 32 else if t = 21 ∨ t = 27 then 64 else 0
def siz (t : Int) : Nat := if t = 1 ∨ t = 2 ∨ t = 5 then 1 else if t = 3 ∨ t = 6 then 2 else if t = 4 ∨ t = 7 then 4 else if t = 21 ∨ t = 27 then 8 else 0
/-- So many bits, without and with a sign. -/
def extN (b n : Nat) : Nat := if n % 2 ^ b < 2 ^ (b - 1) then n % 2 ^ b else n % 2 ^ b + (18446744073709551616 - 2 ^ b)
def prn (l : List UInt8) : Bool := l.all fun c => decide (32 ≤ c.toNat) && decide (c.toNat ≤ 126)
def chk (t : Int) (n : Nat) (s : ByteArray) : Nat :=
  if kind t = 1 then (if n % 2 ^ wid t = n then 0 else 1)
  else if kind t = 2 then (if extN (wid t) n = n then 0 else 1)
  else if kind t = 0 then 1
  else if 65536 < s.size then 2 else if t = 9 ∧ prn s.data.toList = false then 1 else 0

theorem kind_le (t : Int) : kind t ≤ 4 := by unfold kind; (repeat' split) <;> omega
theorem kind_text (t : Int) : kind t = 3 ↔ t = 9 := by unfold kind; (repeat' split) <;> omega
theorem wid_cases (t : Int) : wid t = 1 ∨ wid t = 8 ∨ wid t = 16 ∨ wid t = 32 ∨ wid t = 64 ∨ wid t = 0 := by unfold wid; (repeat' split) <;> omega
theorem kind_wid1 {t : Int} (h : kind t = 1) : wid t = 1 ∨ wid t = 8 ∨ wid t = 16 ∨ wid t = 32 ∨ wid t = 64 := by
  unfold kind at h; unfold wid; (repeat' split at h) <;> (repeat' split) <;> omega
theorem kind_wid2 {t : Int} (h : kind t = 2) : wid t = 8 ∨ wid t = 16 ∨ wid t = 32 ∨ wid t = 64 := by
  unfold kind at h; unfold wid; (repeat' split at h) <;> (repeat' split) <;> omega
theorem siz_wid (t : Int) : siz t = (wid t + 7) / 8 := by
  unfold siz wid; (repeat' split) <;> omega
theorem siz_zero (t : Int) : siz t = 0 ↔ kind t ≠ 1 ∧ kind t ≠ 2 := by
  unfold siz kind; (repeat' split) <;> omega
theorem chk_le (t : Int) (n : Nat) (s : ByteArray) : chk t n s ≤ 2 := by unfold chk; (repeat' split) <;> omega

theorem take_snoc (s : ByteArray) (k : Nat) (h : k < s.size) : s.data.toList.take (k + 1) = s.data.toList.take k ++ [s[k]] := by
  rw [List.take_succ_eq_append_getElem (by simpa using h)]; rfl
theorem take_all (s : ByteArray) : s.data.toList.take s.size = s.data.toList := by
  rw [List.take_of_length_le]; simp
theorem prn_snoc {l : List UInt8} {c : UInt8} (h : prn l = true) (h1 : 32 ≤ c.toNat) (h2 : c.toNat ≤ 126) : prn (l ++ [c]) = true := by
  unfold prn at h ⊢
  rw [List.all_append, h]
  simp [h1, h2]
theorem prn_not {s : ByteArray} (k : Nat) (hk : k < s.size) (h : s[k].toNat < 32 ∨ 126 < s[k].toNat) : prn s.data.toList = false := by
  rw [← Bool.not_eq_true]
  unfold prn
  rw [List.all_eq_true]
  intro hh
  have := hh s[k] (by show s.data[k] ∈ _; simp)
  simp at this
  omega
end Go.Proofs.Ty
namespace Go.Proofs.YtahfnknbmikmkaaGreat
open Go.RowKit Go.Proofs.Ty
set_option linter.unusedVariables false
set_option maxRecDepth 1000000

theorem ret_int {k : IntKind} {a b : Int} (h : a = b) : Ending.returned (.int k a) = .returned (.int k b) := by rw [h]
theorem ret_bool {a b : Bool} (h : a = b) : Ending.returned (.bool a) = .returned (.bool b) := by rw [h]

set_option maxHeartbeats 1000000 in
theorem kindOf_any (t : Int) (w : World) :
    Calls Tryz.prog 80 #[.int .i64 t] w fun e w' => e = .returned (.int .i64 (kind t)) ∧ w' = w := by
  go_enter Tryz.func80, Tryz.ntmps80
  go_wp2
  all_goals go_ret
  all_goals exact ⟨ret_int (by simp_all [kind]), rfl⟩
set_option maxHeartbeats 1000000 in
theorem width_any (t : Int) (w : World) :
    Calls Tryz.prog 116 #[.int .i64 t] w fun e w' => e = .returned (.int .i64 (wid t)) ∧ w' = w := by
  go_enter Tryz.func116, Tryz.ntmps116
  go_wp2
  all_goals go_ret
  all_goals exact ⟨ret_int (by simp_all [wid]), rfl⟩
theorem Size_any (t : Int) (w : World) :
    Calls Tryz.prog 118 #[.int .i64 t] w fun e w' => e = .returned (.tuple #[.int .i64 (siz t), .bool (decide (0 < siz t))]) ∧ w' = w := by
  have hs := siz_wid t
  have h := wid_cases t
  have hC := width_any t
  generalize wid t = b at *
  generalize siz t = z at *
  go_enter Tryz.func118, Tryz.ntmps118
  rcases h with rfl | rfl | rfl | rfl | rfl | rfl
  all_goals
    go_wp2_with (go_at_call 116; refine (hC _).mono ?_; rintro e w1 ⟨rfl, rfl⟩)
    go_ret2
    subst hs
    exact ⟨rfl, rfl⟩
theorem cut_any (t : Int) (n : Nat) (hn : n < 18446744073709551616) (hk : kind t = 1) (w : World) :
    Calls Tryz.prog 81 #[.int .i64 t, .int .u64 n] w fun e w' => e = .returned (.int .u64 (n % 2 ^ wid t : Nat)) ∧ w' = w := by
  have h := kind_wid1 hk
  have hC := width_any t
  generalize wid t = b at *
  clear hk
  go_enter Tryz.func81, Tryz.ntmps81
  rcases h with rfl | rfl | rfl | rfl | rfl
  all_goals
    go_wp2_with (go_at_call 116; refine (hC _).mono ?_; rintro e w1 ⟨rfl, rfl⟩)
    go_ret
    refine ⟨ret_int ?_, rfl⟩
    simp [IntKind.wrap, IntKind.bits, IntKind.signed]
    omega
theorem extend_any (t : Int) (n : Nat) (hn : n < 18446744073709551616) (hk : kind t = 2) (w : World) :
    Calls Tryz.prog 82 #[.int .i64 t, .int .u64 n] w fun e w' => e = .returned (.int .u64 (extN (wid t) n)) ∧ w' = w := by
  have h := kind_wid2 hk
  have hC := width_any t
  generalize wid t = b at *
  clear hk
  go_enter Tryz.func82, Tryz.ntmps82
  rcases h with rfl | rfl | rfl | rfl
  all_goals
    go_wp2_with (go_at_call 116; refine (hC _).mono ?_; rintro e w1 ⟨rfl, rfl⟩)
    go_ret
    refine ⟨ret_int ?_, rfl⟩
    simp [wrap64, IntKind.wrap, IntKind.bits, IntKind.signed, extN]
    try ((try split) <;> omega)
set_option maxHeartbeats 400000 in
theorem printable_any (s : ByteArray) (hs : s.size ≤ 65536) (w : World) :
    Calls Tryz.prog 83 #[.string s] w fun e w' => e = .returned (.bool (prn s.data.toList)) ∧ w' = w := by
  go_enter Tryz.func83, Tryz.ntmps83
  go_wp2
  go_loop [6] (fun i => ∃ k : Nat, k ≤ s.size ∧ i = .int .i64 k ∧ prn (s.data.toList.take k) = true) (fun i => s.size - (intOf i).toNat)
  case atStart => exact ⟨0, Nat.zero_le _, rfl, by simp [prn]⟩
  case round =>
    obtain ⟨k, hle, rfl, hall⟩ := hrel
    by_cases hp : k < s.size
    · by_cases h1 : s[k].toNat < 32
      · have H : Hid (prn s.data.toList = false) := prn_not k hp (.inl h1)
        have d1 : decide ((s[k].toNat : Int) < 32) = true := by simp; omega
        go_wp2
        go_ret
        exact ⟨ret_bool H.out.symm, rfl⟩
      · have d1 : decide ((s[k].toNat : Int) < 32) = false := by simp; omega
        by_cases h2 : 126 < s[k].toNat
        · have H : Hid (prn s.data.toList = false) := prn_not k hp (.inr h2)
          have d2 : decide (126 < (s[k].toNat : Int)) = true := by simp; omega
          go_wp2
          go_ret
          exact ⟨ret_bool H.out.symm, rfl⟩
        · have d2 : decide (126 < (s[k].toNat : Int)) = false := by simp; omega
          have H : Hid (prn (s.data.toList.take (k + 1)) = true) := by
            show prn _ = true
            rw [take_snoc s k hp]; exact prn_snoc hall (by omega) (by omega)
          go_wp2
          go_round
          case rel => exact ⟨k + 1, by omega, by go_num, H.out⟩
          case measure => simp [intOf]; omega
    · go_wp2
      go_ret
      obtain rfl : k = s.size := by omega
      rw [take_all] at hall
      exact ⟨ret_bool hall.symm, rfl⟩
end Go.Proofs.YtahfnknbmikmkaaGreat
namespace Go.Proofs.YtahfnknbmikmkaaGreat
open Go.RowKit Go.Proofs.Ty
set_option linter.unusedVariables false
set_option maxRecDepth 1000000

theorem bdr {B : Nat} {a w : World} (h : Below B a w) (n : Nat) : Below B a (w.drewN n) := ⟨h.os, h.tape, h.output, h.size, h.block⟩
theorem hidOf {P : Prop} (h : P) : Hid P := h
/-- A value's cells in a new block. -/
theorem new_cells (w : World) (a b c : Value) (T : TypeId) : (w.alloc (.cells #[a, b, c] T)).cell? ⟨w.heap.size, 0, none⟩ = some a ∧ (w.alloc (.cells #[a, b, c] T)).cell? ⟨w.heap.size, 1, none⟩ = some b ∧ (w.alloc (.cells #[a, b, c] T)).cell? ⟨w.heap.size, 2, none⟩ = some c := by
  have h : (w.alloc (.cells #[a, b, c] T)).heap[w.heap.size]? = some (.cells #[a, b, c] T (0, 0)) := by
    show (w.heap.push _)[w.heap.size]? = _
    simp
  exact ⟨Lib.cell_of_heap h 0, Lib.cell_of_heap h 1, Lib.cell_of_heap h 2⟩
/-- A value without what plays no part. -/
def plN (t : Int) (n : Nat) : Nat := if kind t = 3 ∨ kind t = 4 then 0 else n
def plS (t : Int) (s : ByteArray) : ByteArray := if kind t = 1 ∨ kind t = 2 then ⟨#[]⟩ else s

set_option maxHeartbeats 1000000 in
theorem Check_any (t : Int) (n : Nat) (s : ByteArray) (hn : n < 18446744073709551616) (w : World) :
    Calls Tryz.prog 43 #[.agg #[.int .i64 t, .int .u64 n, .string s]] w fun e w' => e = .returned (.int .i64 (chk t n s)) ∧ Below w.heap.size w w' := by
  have hK := kindOf_any t
  have hk := kind_le t
  have hc := cut_any t n hn
  have he := extend_any t n hn
  have bn : Below w.heap.size w (w.alloc (.cells #[.int .i64 t, .int .u64 n, .string s] 52)) := (Below.refl _ _).alloc (Nat.le_refl _) _
  obtain ⟨c0, c1, c2⟩ := new_cells w (.int .i64 t) (.int .u64 n) (.string s) 52
  obtain ⟨W, hW⟩ : ∃ W, w.alloc (.cells #[.int .i64 t, .int .u64 n, .string s] 52) = W := ⟨_, rfl⟩
  obtain ⟨q, hq⟩ : ∃ q, w.heap.size = q := ⟨_, rfl⟩
  rw [hW, hq] at c0 c1 c2
  rw [hW] at bn
  have HV : Hid (chk t n s = if kind t = 1 then (if n % 2 ^ wid t = n then 0 else 1)
      else if kind t = 2 then (if extN (wid t) n = n then 0 else 1)
      else if kind t = 0 then 1
      else if 65536 < s.size then 2 else if t = 9 ∧ prn s.data.toList = false then 1 else 0) := rfl
  have HT : Hid (kind t = 3 ↔ t = 9) := kind_text t
  generalize chk t n s = V at *
  generalize kind t = K at *
  generalize n % 2 ^ wid t = C at *
  generalize extN (wid t) n = E at *
  go_enter Tryz.func43, Tryz.ntmps43
  by_cases h1 : K = 1
  · subst h1
    have hcc := hc rfl
    clear hc
    have e1 := hidOf (show V = if C = n then 0 else 1 by rw [HV.out]; simp)
    clear HV he HT
    by_cases hc' : C = n
    · subst hc'
      go_wp2_with (go_at_call 80; refine (hK _).mono ?_; rintro e w1 ⟨rfl, rfl⟩)
      go_quiet (first | (go_at_call 81; refine Calls.quiet_of_same (hcc _)))
      go_wp2
      go_ret
      exact ⟨ret_int (by rw [e1.out]; simp), bdr bn _⟩
    · have hd : ((C : Int) == (n : Int)) = false := by simp; omega
      go_wp2_with (go_at_call 80; refine (hK _).mono ?_; rintro e w1 ⟨rfl, rfl⟩)
      go_quiet (first | (go_at_call 81; refine Calls.quiet_of_same (hcc _)))
      go_wp2
      go_ret
      exact ⟨ret_int (by rw [e1.out]; simp [hc']), bdr bn _⟩
  · by_cases h2 : K = 2
    · subst h2
      have hee := he rfl
      clear he
      have e1 := hidOf (show V = if E = n then 0 else 1 by rw [HV.out]; simp)
      clear HV hc HT
      by_cases hc' : E = n
      · subst hc'
        go_wp2_with (go_at_call 80; refine (hK _).mono ?_; rintro e w1 ⟨rfl, rfl⟩)
        go_quiet (first | (go_at_call 82; refine Calls.quiet_of_same (hee _)))
        go_wp2
        go_ret
        exact ⟨ret_int (by rw [e1.out]; simp), bdr bn _⟩
      · have hd : ((E : Int) == (n : Int)) = false := by simp; omega
        go_wp2_with (go_at_call 80; refine (hK _).mono ?_; rintro e w1 ⟨rfl, rfl⟩)
        go_quiet (first | (go_at_call 82; refine Calls.quiet_of_same (hee _)))
        go_wp2
        go_ret
        exact ⟨ret_int (by rw [e1.out]; simp [hc']), bdr bn _⟩
    · by_cases h0 : K = 0
      · subst h0
        have e1 := hidOf (show V = 1 by rw [HV.out]; simp)
        clear HV hc HT he
        go_wp2_with (go_at_call 80; refine (hK _).mono ?_; rintro e w1 ⟨rfl, rfl⟩)
        go_ret
        exact ⟨ret_int (by rw [e1.out]; rfl), bn⟩
      · by_cases hl : 65536 < s.size
        · have e1 := hidOf (show V = 2 by rw [HV.out]; simp [h1, h2, h0, hl])
          clear HV hc HT he
          obtain rfl | rfl : K = 3 ∨ K = 4 := by omega
          all_goals
            go_wp2_with (go_at_call 80; refine (hK _).mono ?_; rintro e w1 ⟨rfl, rfl⟩)
            go_ret
            exact ⟨ret_int (by rw [e1.out]; rfl), bn⟩
        · have hP := printable_any s (by omega)
          by_cases h3 : K = 3
          · subst h3
            obtain rfl : t = 9 := HT.out.1 rfl
            have e1 := hidOf (show V = if prn s.data.toList = false then 1 else 0 by rw [HV.out]; simp [hl])
            clear HV hc HT he
            generalize prn s.data.toList = b at *
            cases b
            all_goals
              go_wp2_with (first | (go_at_call 80; refine (hK _).mono ?_; rintro e w1 ⟨rfl, rfl⟩) | (go_at_call 83; refine (hP _).mono ?_; rintro e w1 ⟨rfl, rfl⟩))
              go_ret
              exact ⟨ret_int (by rw [e1.out]; rfl), bn⟩
          · have h9 : t ≠ 9 := fun e => h3 (HT.out.2 e)
            have e1 := hidOf (show V = 0 by rw [HV.out]; simp [h1, h2, h0, hl, h9])
            have d9 : (t != 9) = true := by simpa using h9
            obtain rfl : K = 4 := by omega
            clear HV hc HT he
            go_wp2_with (go_at_call 80; refine (hK _).mono ?_; rintro e w1 ⟨rfl, rfl⟩)
            go_ret
            exact ⟨ret_int (by rw [e1.out]; rfl), bn⟩
end Go.Proofs.YtahfnknbmikmkaaGreat
namespace Go.Proofs.Ty

/-- A number's bytes, the lowest first; the number of bytes. -/
def lowL (n k : Nat) : List UInt8 := (List.range k).map fun i => UInt8.ofNat (n / 256 ^ i)
def joinL : List UInt8 → Nat
  | [] => 0
  | c :: r => c.toNat + 256 * joinL r
theorem lowL_length (n k : Nat) : (lowL n k).length = k := by simp [lowL]
theorem lowL_snoc (n k : Nat) : lowL n (k + 1) = lowL n k ++ [UInt8.ofNat (n / 256 ^ k)] := by simp [lowL, List.range_succ]
theorem lowL_cons (n k : Nat) : lowL n (k + 1) = UInt8.ofNat n :: lowL (n / 256) k := by
  rw [lowL, List.range_succ_eq_map, List.map_cons, List.map_map, Nat.pow_zero, Nat.div_one]
  congr 1
  simp only [lowL]
  apply List.map_congr_left
  intro i _
  show UInt8.ofNat (n / 256 ^ (i + 1)) = UInt8.ofNat (n / 256 / 256 ^ i)
  rw [Nat.div_div_eq_div_mul, Nat.pow_succ, Nat.mul_comm]
theorem joinL_lt (l : List UInt8) : joinL l < 256 ^ l.length := by
  induction l with
  | nil => simp [joinL]
  | cons c r ih =>
    have := c.toNat_lt
    simp only [joinL, List.length_cons, Nat.pow_succ]
    omega
theorem joinL_snoc (l : List UInt8) (c : UInt8) : joinL (l ++ [c]) = joinL l + c.toNat * 256 ^ l.length := by
  induction l with
  | nil => simp [joinL]
  | cons d r ih =>
    simp only [List.cons_append, joinL, ih, List.length_cons, Nat.pow_succ]
    have e : 256 * (c.toNat * 256 ^ r.length) = c.toNat * (256 ^ r.length * 256) := by rw [Nat.mul_left_comm, Nat.mul_comm 256]
    rw [Nat.mul_add, e]
    omega
theorem ofNat_toNat (n : Nat) : (UInt8.ofNat n).toNat = n % 256 := by simp
theorem join_low (n k : Nat) : joinL (lowL n k) = n % 256 ^ k := by
  induction k generalizing n with
  | zero => simp [lowL, joinL, Nat.mod_one]
  | succ k ih =>
    rw [lowL_cons, joinL, ih, ofNat_toNat, Nat.pow_succ]
    have h1 := Nat.div_add_mod n 256
    have h2 := Nat.div_add_mod (n / 256) (256 ^ k)
    rw [Nat.mul_comm (256 ^ k) 256, Nat.mod_mul]
theorem low_join (l : List UInt8) : lowL (joinL l) l.length = l := by
  induction l with
  | nil => rfl
  | cons c r ih =>
    have hc := c.toNat_lt
    rw [List.length_cons, lowL_cons, joinL]
    have e : (c.toNat + 256 * joinL r) / 256 = joinL r := by omega
    rw [e, ih]
    congr 1
    apply UInt8.toNat_inj.1
    rw [ofNat_toNat]
    omega
theorem low_set (n z k : Nat) (h : k < z) : (lowL n k ++ List.replicate (z - k) 0).set k (UInt8.ofNat (n / 256 ^ k)) = lowL n (k + 1) ++ List.replicate (z - (k + 1)) 0 := by
  rw [show z - k = (z - (k + 1)) + 1 by omega, List.replicate_succ, List.set_append_right _ _ (by rw [lowL_length]; omega), lowL_length, Nat.sub_self, List.set_cons_zero, lowL_snoc]
  simp
/-- What Encode tells. -/
def encL (t : Int) (n : Nat) (s : ByteArray) : List UInt8 := if 0 < siz t then lowL n (siz t) else s.data.toList
def encV (t : Int) (n : Nat) (s : ByteArray) : List UInt8 := if chk t n s = 0 then encL t n s else []
theorem siz_le (t : Int) : siz t ≤ 8 := by unfold siz; (repeat' split) <;> omega
end Go.Proofs.Ty
namespace Go.Proofs.YtahfnknbmikmkaaGreat
open Go.RowKit Go.Proofs.Ty
set_option linter.unusedVariables false
set_option maxRecDepth 1000000

/-- A value. -/
structure Vl where
  t : Int
  n : Nat
  s : ByteArray
  ht : -9223372036854775808 ≤ t ∧ t < 9223372036854775808
  hn : n < 18446744073709551616
  hs : s.size ≤ maxLen
def Vl.arr (v : Vl) : Array Value := #[.int .i64 v.t, .int .u64 v.n, .string v.s]
def Vl.chk (v : Vl) : Nat := Ty.chk v.t v.n v.s
def Vl.nul : Vl := ⟨0, 0, ⟨#[]⟩, by decide, by decide, by decide⟩
def Vl.plain (v : Vl) : Vl := ⟨v.t, plN v.t v.n, plS v.t v.s, v.ht, by unfold plN; split <;> first | omega | exact v.hn, by unfold plS; split <;> first | decide | exact v.hs⟩
def Vl.enc (v : Vl) : List UInt8 := encV v.t v.n v.s
theorem Vl.arr_size (v : Vl) : v.arr.size = 3 := rfl
theorem Vl.one (v : Vl) : v.arr.all (·.oneCell') = true := by simp [Vl.arr, Value.oneCell']
theorem infoV : (Tryz.prog.info? 52).map (·.size) = some 3 := by kernel_rfl
theorem size_alloc (w : World) (o : Obj) : (w.alloc o).heap.size = w.heap.size + 1 := by simp only [World.alloc, Array.size_push]
theorem heap_alloc_new (w : World) (o : Obj) : (w.alloc o).heap[w.heap.size]? = some o := by show (w.heap.push _)[w.heap.size]? = _; simp
theorem setRow_heap (w : World) (q : Nat) (c c' : Array Value) (T : TypeId) (z : Nat × Nat) (h : w.heap[q]? = some (.cells c T z)) : (w.setRow q c').heap[q]? = some (.cells c' T z) := by
  simp [World.setRow, Array.getElem?_modify, h]
theorem setRow_other (w : World) (q k : Nat) (c : Array Value) (h : k ≠ q) : (w.setRow q c).heap[k]? = w.heap[k]? := by
  simp only [World.setRow, Array.getElem?_modify]
  rw [if_neg (fun e => h e.symm)]
/-- The value v lies in block q. -/
def Va (q : Nat) (v : Vl) (w : World) : Prop := w.heap[q]? = some (.cells v.arr 52 (0, 0))
section
variable {q : Nat} {v : Vl} {w : World}
theorem Va.lt (h : Va q v w) : q < w.heap.size := (Array.getElem?_eq_some_iff.1 h).1
theorem Va.new (w : World) (v : Vl) : Va w.heap.size v (w.alloc (.cells v.arr 52)) := heap_alloc_new w _
theorem Va.alloc (h : Va q v w) (o : Obj) : Va q v (w.alloc o) := (Lib.alloc_old w o q h.lt).trans h
theorem Va.below {w' : World} (h : Va q v w) (hb : Below w.heap.size w w') : Va q v w' := (hb.block q h.lt).trans h
theorem Va.other (h : Va q v w) {p : Addr} (hp : q ≠ p.block) (x : Value) : Va q v (w.setCell p x) := (Below.heap_setCell w p x q hp).trans h
theorem Va.row (h : Va q v w) (v' : Vl) : Va q v' (w.setRow q v'.arr) := setRow_heap w q v.arr _ 52 _ h
theorem Va.set (h : Va q v w) (i : Nat) (x : Value) : (w.setCell ⟨q, i, none⟩ x).heap[q]? = some (.cells (v.arr.setIfInBounds i x) 52 (0, 0)) := by
  have h : w.heap[q]? = some (.cells v.arr 52 (0, 0)) := h
  simp only [World.setCell, Array.getElem?_modify, h]
  simp
theorem Va.frozen (h : Va q v w) (k : Nat) : w.frozen? ⟨q, k, none⟩ = false := Lib.frozen_of_heap h k
theorem Va.c0 (h : Va q v w) : w.cell? ⟨q, 0, none⟩ = some (.int .i64 v.t) := Lib.cell_of_heap h 0
theorem Va.c1 (h : Va q v w) : w.cell? ⟨q, 1, none⟩ = some (.int .u64 v.n) := Lib.cell_of_heap h 1
theorem Va.c2 (h : Va q v w) : w.cell? ⟨q, 2, none⟩ = some (.string v.s) := Lib.cell_of_heap h 2
theorem Va.load (h : Va q v w) : (loadVar 52 ⟨q, 0, none⟩).run Tryz.prog w = .ok (.agg v.arr) w :=
  run_loadVar_row w q 52 52 v.arr (0, 0) _ h Tryz.underlying52 rfl (by rw [v.arr_size]; exact infoV)
theorem Va.ld {ops : Array Oper} {rest : List Oper} {o : Oper} {a : Act} {Q : Exit → Act → World → Prop} (h : Va q v w) (hgd : Region.wanted o (yielded ops a.tmps) = true) (x : Operand) (ho : o.op = .load 52 x) (hx : a.eval x = .pointer (some ⟨q, 0, none⟩))
    (hh : wpList Tryz.prog ops Q rest (a.put o.dst (.agg v.arr)) w) : wpList Tryz.prog ops Q (o :: rest) a w :=
  BigFrame.wpList_want hgd fun _ hK => wp_load_row 52 x ho q hx 52 v.arr (0, 0) _ h Tryz.underlying52 rfl (by rw [v.arr_size]; exact infoV) (hK _ _ hh)
theorem Va.sd {ops : Array Oper} {rest : List Oper} {o : Oper} {a : Act} {Q : Exit → Act → World → Prop} (h : Va q v w) (v' : Vl) (hgd : o.guard = none) (x y : Operand) (ho : o.op = .store 52 x y) (hx : a.eval x = .pointer (some ⟨q, 0, none⟩)) (hy : a.eval y = .agg v'.arr)
    (hh : wpList Tryz.prog ops Q rest (a.put o.dst undef) (w.setRow q v'.arr)) : wpList Tryz.prog ops Q (o :: rest) a w :=
  wpList_store_row hgd 52 x y ho q v'.arr hx hy 52 v.arr h (by rw [v'.arr_size]; exact infoV) (by rw [v.arr_size, v'.arr_size]) v'.one hh
end
theorem setRow_kept (w : World) (q : Nat) (c : Array Value) : w.grownBy (w.setRow q c) (some q) :=
  ⟨rfl, rfl, rfl, by simp [World.setRow], fun k _ hk => setRow_other w q k c (fun e => hk (by rw [e]))⟩
theorem below_row {q : Nat} {w : World} {B : Nat} {a : World} (h : Below B a w) (hq : B ≤ q) (hl : B ≤ w.heap.size) (c : Array Value) : Below B a (w.setRow q c) := h.grown (setRow_kept w q c) hl (fun k hk => by cases hk; omega)

/-- Values held against each other. -/
def vlB (v u : Vl) : Bool := v.t == u.t && v.n == u.n && v.s.data.toList == u.s.data.toList
theorem vlB_iff (v u : Vl) : vlB v u = true ↔ v = u := by
  obtain ⟨t, n, s, h1, h2, h3⟩ := v
  obtain ⟨t', n', s', h1', h2', h3'⟩ := u
  simp only [vlB, Bool.and_eq_true, beq_iff_eq, Vl.mk.injEq]
  constructor
  · rintro ⟨⟨a, b⟩, c⟩
    exact ⟨a, b, by cases s; cases s'; simp only [ByteArray.mk.injEq]; exact Array.toList_inj.1 c⟩
  · rintro ⟨a, b, c⟩; exact ⟨⟨a, b⟩, by rw [c]⟩
theorem Check_v (v : Vl) (w : World) : Calls Tryz.prog 43 #[.agg v.arr] w fun e w' => e = .returned (.int .i64 v.chk) ∧ Below w.heap.size w w' := Check_any v.t v.n v.s v.hn w
end Go.Proofs.YtahfnknbmikmkaaGreat
namespace Go.Proofs.YtahfnknbmikmkaaGreat
open Go.RowKit Go.Proofs.Ty
set_option linter.unusedVariables false
set_option maxRecDepth 1000000
def cmpI (x y : Int) : Int := if x < y then -1 else if y < x then 1 else 0
def cmpL (x y : List UInt8) : Int := if x < y then -1 else if y < x then 1 else 0
theorem NaNu_any (x : Int) (w : World) : Calls Tryz.prog 157 #[.int .u64 x] w fun e w' => e = .returned (.bool false) ∧ w' = w := by
  go_enter Tryz.func157, Tryz.ntmps157
  go_wp2
  go_ret
  exact ⟨ret_bool (by simp), rfl⟩
theorem NaNi_any (x : Int) (w : World) : Calls Tryz.prog 158 #[.int .i64 x] w fun e w' => e = .returned (.bool false) ∧ w' = w := by
  go_enter Tryz.func158, Tryz.ntmps158
  go_wp2
  go_ret
  exact ⟨ret_bool (by simp), rfl⟩
theorem NaNs_any (x : ByteArray) (w : World) : Calls Tryz.prog 159 #[.string x] w fun e w' => e = .returned (.bool false) ∧ w' = w := by
  go_enter Tryz.func159, Tryz.ntmps159
  go_wp2
  go_ret
  exact ⟨ret_bool (by simp), rfl⟩
theorem Cmpu_any (x y : Int) (w : World) : Calls Tryz.prog 147 #[.int .u64 x, .int .u64 y] w fun e w' => e = .returned (.int .i64 (cmpI x y)) ∧ w' = w := by
  have hx := NaNu_any x
  have hy := NaNu_any y
  have HV : Hid (cmpI x y = if x < y then -1 else if y < x then 1 else 0) := rfl
  generalize cmpI x y = V at *
  go_enter Tryz.func147, Tryz.ntmps147
  by_cases h1 : x < y
  · have d1 : decide (x < y) = true := decide_eq_true h1
    have e1 := hidOf (show V = -1 by rw [HV.out, if_pos h1])
    go_wp2_with (first | (go_at_call 157; refine (hx _).mono ?_; rintro e w1 ⟨rfl, rfl⟩) | (go_at_call 157; refine (hy _).mono ?_; rintro e w1 ⟨rfl, rfl⟩))
    go_ret
    exact ⟨ret_int e1.out.symm, rfl⟩
  · have d1 : decide (x < y) = false := decide_eq_false h1
    by_cases h2 : y < x
    · have d2 : decide (y < x) = true := decide_eq_true h2
      have e1 := hidOf (show V = 1 by rw [HV.out, if_neg h1, if_pos h2])
      go_wp2_with (first | (go_at_call 157; refine (hx _).mono ?_; rintro e w1 ⟨rfl, rfl⟩) | (go_at_call 157; refine (hy _).mono ?_; rintro e w1 ⟨rfl, rfl⟩))
      go_ret
      exact ⟨ret_int e1.out.symm, rfl⟩
    · have d2 : decide (y < x) = false := decide_eq_false h2
      have e1 := hidOf (show V = 0 by rw [HV.out, if_neg h1, if_neg h2])
      go_wp2_with (first | (go_at_call 157; refine (hx _).mono ?_; rintro e w1 ⟨rfl, rfl⟩) | (go_at_call 157; refine (hy _).mono ?_; rintro e w1 ⟨rfl, rfl⟩))
      go_ret
      exact ⟨ret_int e1.out.symm, rfl⟩
theorem Cmpi_any (x y : Int) (w : World) : Calls Tryz.prog 148 #[.int .i64 x, .int .i64 y] w fun e w' => e = .returned (.int .i64 (cmpI x y)) ∧ w' = w := by
  have hx := NaNi_any x
  have hy := NaNi_any y
  have HV : Hid (cmpI x y = if x < y then -1 else if y < x then 1 else 0) := rfl
  generalize cmpI x y = V at *
  go_enter Tryz.func148, Tryz.ntmps148
  by_cases h1 : x < y
  · have d1 : decide (x < y) = true := decide_eq_true h1
    have e1 := hidOf (show V = -1 by rw [HV.out, if_pos h1])
    go_wp2_with (first | (go_at_call 158; refine (hx _).mono ?_; rintro e w1 ⟨rfl, rfl⟩) | (go_at_call 158; refine (hy _).mono ?_; rintro e w1 ⟨rfl, rfl⟩))
    go_ret
    exact ⟨ret_int e1.out.symm, rfl⟩
  · have d1 : decide (x < y) = false := decide_eq_false h1
    by_cases h2 : y < x
    · have d2 : decide (y < x) = true := decide_eq_true h2
      have e1 := hidOf (show V = 1 by rw [HV.out, if_neg h1, if_pos h2])
      go_wp2_with (first | (go_at_call 158; refine (hx _).mono ?_; rintro e w1 ⟨rfl, rfl⟩) | (go_at_call 158; refine (hy _).mono ?_; rintro e w1 ⟨rfl, rfl⟩))
      go_ret
      exact ⟨ret_int e1.out.symm, rfl⟩
    · have d2 : decide (y < x) = false := decide_eq_false h2
      have e1 := hidOf (show V = 0 by rw [HV.out, if_neg h1, if_neg h2])
      go_wp2_with (first | (go_at_call 158; refine (hx _).mono ?_; rintro e w1 ⟨rfl, rfl⟩) | (go_at_call 158; refine (hy _).mono ?_; rintro e w1 ⟨rfl, rfl⟩))
      go_ret
      exact ⟨ret_int e1.out.symm, rfl⟩
theorem toL (A : ByteArray) : A.toList = A.data.toList := by
  have h : A = (⟨A.data.toList.toArray⟩ : ByteArray) := by cases A; simp
  rw [h, Lib.toList_data]
theorem run_gtr (A B : ByteArray) (x : World) : (binOp BinOp.gtr 9 (.string A) (.string B)).run Tryz.prog x = .ok (.bool (decide (B.data.toList < A.data.toList))) x := by
  have e : decide (B.data.toList < A.data.toList) = !(Op.bytesLess A.toList B.toList || A.toList == B.toList) := by
    rw [Go.Proofs.bytesLess_eq, toL, toL, Bool.eq_iff_iff]
    simp
    constructor
    · intro h; exact ⟨Std.le_of_lt h, fun e => Std.lt_irrefl (e ▸ h)⟩
    · rintro ⟨h1, h2⟩; exact Std.lt_of_le_of_ne h1 (fun e => h2 (by rw [e]))
  rw [e]
  first
  | rfl
  | simp [binOp, run_underlying Tryz.underlying9, Op.stringBin, go_sem]
  | simp [binOp, go_sem]
theorem less_eq (A B : ByteArray) : Op.bytesLess A.toList B.toList = decide (A.data.toList < B.data.toList) := by rw [Go.Proofs.bytesLess_eq, toL, toL]
theorem Cmps_any (x y : ByteArray) (w : World) : Calls Tryz.prog 149 #[.string x, .string y] w fun e w' => e = .returned (.int .i64 (cmpL x.data.toList y.data.toList)) ∧ w' = w := by
  have hx := NaNs_any x
  have hy := NaNs_any y
  have HV : Hid (cmpL x.data.toList y.data.toList = if x.data.toList < y.data.toList then -1 else if y.data.toList < x.data.toList then 1 else 0) := rfl
  have hl := less_eq x y
  have hg := run_gtr x y
  generalize cmpL x.data.toList y.data.toList = V at *
  go_enter Tryz.func149, Tryz.ntmps149
  by_cases h1 : x.data.toList < y.data.toList
  · have d1 : Op.bytesLess x.toList y.toList = true := hl.trans (decide_eq_true h1)
    have e1 := hidOf (show V = -1 by rw [HV.out, if_pos h1])
    clear hl
    go_wp2_with (first | (go_at_call 159; refine (hx _).mono ?_; rintro e w1 ⟨rfl, rfl⟩) | (go_at_call 159; refine (hy _).mono ?_; rintro e w1 ⟨rfl, rfl⟩))
    go_ret
    exact ⟨ret_int e1.out.symm, rfl⟩
  · have d1 : Op.bytesLess x.toList y.toList = false := hl.trans (decide_eq_false h1)
    clear hl
    by_cases h2 : y.data.toList < x.data.toList
    · have d2 : decide (y.data.toList < x.data.toList) = true := decide_eq_true h2
      have e1 := hidOf (show V = 1 by rw [HV.out, if_neg h1, if_pos h2])
      rw [d2] at hg
      go_wp2_with (first | (go_at_call 159; refine (hx _).mono ?_; rintro e w1 ⟨rfl, rfl⟩) | (go_at_call 159; refine (hy _).mono ?_; rintro e w1 ⟨rfl, rfl⟩))
      go_ret
      exact ⟨ret_int e1.out.symm, rfl⟩
    · have d2 : decide (y.data.toList < x.data.toList) = false := decide_eq_false h2
      have e1 := hidOf (show V = 0 by rw [HV.out, if_neg h1, if_neg h2])
      rw [d2] at hg
      go_wp2_with (first | (go_at_call 159; refine (hx _).mono ?_; rintro e w1 ⟨rfl, rfl⟩) | (go_at_call 159; refine (hy _).mono ?_; rintro e w1 ⟨rfl, rfl⟩))
      go_ret
      exact ⟨ret_int e1.out.symm, rfl⟩
end Go.Proofs.YtahfnknbmikmkaaGreat
namespace Go.Proofs.YtahfnknbmikmkaaGreat
open Go.RowKit Go.Proofs.Ty
set_option linter.unusedVariables false
set_option maxRecDepth 1000000

/-- Block g begins with these cells, none of them frozen. -/
def Row (w : World) (g : Nat) (cs : List Value) : Prop :=
  ∃ cur T lo hi, w.heap[g]? = some (.cells cur T (lo, hi)) ∧ cs.length ≤ cur.size ∧ (cs.length ≤ lo ∨ hi = 0) ∧ cur.toList.take cs.length = cs
section
variable {w w' : World} {g : Nat} {cs : List Value}
theorem Row.lt (h : Row w g cs) : g < w.heap.size := by
  obtain ⟨cur, T, lo, hi, hh, _⟩ := h
  exact (Array.getElem?_eq_some_iff.1 hh).1
theorem Row.cell (h : Row w g cs) (k : Nat) (hk : k < cs.length) : w.cell? ⟨g, k, none⟩ = some cs[k] := by
  obtain ⟨cur, T, lo, hi, hh, hl, _, ht⟩ := h
  rw [Lib.cell_of_heap hh]
  have e : cs[k]? = cur.toList[k]? := by rw [← ht, List.getElem?_take, if_pos hk]
  rw [List.getElem?_eq_getElem hk] at e
  rw [e]; simp
theorem Row.free (h : Row w g cs) (k : Nat) (hk : k < cs.length) : w.frozen? ⟨g, k, none⟩ = false := by
  obtain ⟨cur, T, lo, hi, hh, hl, hf, ht⟩ := h
  simp [World.frozen?, hh]
  omega
theorem Row.set (h : Row w g cs) (k : Nat) (v : Value) : Row (w.setCell ⟨g, k, none⟩ v) g (cs.set k v) := by
  obtain ⟨cur, T, lo, hi, hh, hl, hf, ht⟩ := h
  refine ⟨cur.setIfInBounds k v, T, lo, hi, ?_, by simpa using hl, by simpa using hf, ?_⟩
  · simp [World.setCell, Array.getElem?_modify, hh]
  · rw [Array.toList_setIfInBounds, List.length_set, List.take_set, ht]
theorem Row.kept (h : Row w g cs) (hk : w'.heap[g]? = w.heap[g]?) : Row w' g cs := by
  obtain ⟨cur, T, lo, hi, hh, rest⟩ := h
  exact ⟨cur, T, lo, hi, hk.trans hh, rest⟩
theorem Row.below (h : Row w g cs) (hb : Below w.heap.size w w') : Row w' g cs := h.kept (hb.block g h.lt)
end
theorem Row.made (w : World) (z : Value) (n : Nat) (T : TypeId) : Row (w.alloc (.cells (madeCells #[z] n) T)) w.heap.size (List.replicate n z) := by
  refine ⟨madeCells #[z] n, T, 0, 0, ?_, by simp [size_madeCells], .inr rfl, ?_⟩
  · show (w.heap.push _)[w.heap.size]? = _
    simp
  · rw [List.length_replicate, List.take_of_length_le (by simp [size_madeCells])]
    apply List.ext_getElem
    · simp [size_madeCells]
    · intro i h1 h2
      simp [madeCells, Nat.mod_one]
theorem Row.ofText (w : World) (s : ByteArray) (cap : Nat) (T : TypeId) : Row (w.alloc (.cells (bytesRow s cap) T ((bytesRow s cap).size, (bytesRow s cap).size + 1))) w.heap.size (Lib.byteCells s.data.toList) := by
  refine ⟨bytesRow s cap, T, (bytesRow s cap).size, (bytesRow s cap).size + 1, ?_, by simp [bytesRow, Lib.byteCells], .inl (by simp [bytesRow, Lib.byteCells]), ?_⟩
  · show (w.heap.push _)[w.heap.size]? = _
    simp
  · simp [bytesRow, Lib.byteCells]

/-- A slice of bytes that came in: nil, or cells in an old block (where there is none, whatever address). -/
def Bytes (w : World) (v : Value) (l : List UInt8) : Prop :=
  ∃ ao cap, v = .slice ao l.length cap ∧ (ao = none → l = [] ∧ cap = 0) ∧ ∀ k (h : k < l.length), ∃ b off, ao = some ⟨b, off, none⟩ ∧ b < w.heap.size ∧ w.cell? ⟨b, off + k, none⟩ = some (.int .u8 l[k].toNat)
theorem Bytes.below {w w' : World} {v : Value} {l : List UInt8} (h : Bytes w v l) (hb : Below w.heap.size w w') : Bytes w' v l := by
  obtain ⟨ao, cap, hv, h0, hc⟩ := h
  refine ⟨ao, cap, hv, h0, fun k hk => ?_⟩
  obtain ⟨b, off, ha, hlt, hcell⟩ := hc k hk
  exact ⟨b, off, ha, Nat.lt_of_lt_of_le hlt hb.size, (hb.cell (p := ⟨b, off + k, none⟩) hlt).trans hcell⟩
theorem Bytes.of_row {w : World} {g : Nat} {l : List UInt8} (h : Row w g (Lib.byteCells l)) (cap : Nat) : Bytes w (.slice (some ⟨g, 0, none⟩) l.length cap) l :=
  ⟨some ⟨g, 0, none⟩, cap, rfl, (fun h => by cases h), fun k hk => ⟨g, 0, rfl, h.lt, by
    have := h.cell k (by rw [Lib.byteCells_length]; exact hk)
    rw [Nat.zero_add, this]
    simp [Lib.byteCells]⟩⟩
theorem Bytes.nil (w : World) : Bytes w (.slice none 0 0) [] := ⟨none, 0, rfl, fun _ => ⟨rfl, rfl⟩, fun k hk => by simp at hk⟩
theorem add_off (b off j : Nat) : (⟨b, off, none⟩ : Addr).add j = ⟨b, off + j, none⟩ := by
  unfold Addr.add
  split
  · rename_i h; subst h; rfl
  · rfl
/-- Such bytes as a text. -/
theorem Bytes.text {w : World} {v : Value} {l : List UInt8} (h : Bytes w v l) : (convert 47 9 v).run Tryz.prog w = .ok (.string ⟨l.toArray⟩) w := by
  obtain ⟨ao, cap, rfl, h0, hc⟩ := h
  cases ao with
  | none =>
    obtain ⟨rfl, rfl⟩ := h0 rfl
    simp [convert, run_underlying Tryz.underlying47, run_underlying Tryz.underlying5, run_underlying Tryz.underlying9]
    rfl
  | some ad =>
    refine run_convert_bytes_back (P := Tryz.prog) w 47 9 5 ad cap l Tryz.underlying47 Tryz.underlying5 Tryz.underlying9 ?_
    intro j hj
    obtain ⟨b, off, ha, _, hcell⟩ := hc j hj
    simp at ha
    subst ha
    rw [add_off, hcell]
theorem info5 : (Tryz.prog.info? 5).map (fun i => (i.zero, i.size, i.bytes)) = some (some (.int .u8 0), 1, 1) := by kernel_rfl
theorem info_parts {T : TypeId} {z : Option Value} {s b : Nat} (h : (Tryz.prog.info? T).map (fun i => (i.zero, i.size, i.bytes)) = some (z, s, b)) : ∃ i, Tryz.prog.info? T = some i ∧ i.zero = z ∧ i.size = s ∧ i.bytes = b := by
  cases hi : Tryz.prog.info? T with
  | none => rw [hi] at h; cases h
  | some i =>
    rw [hi] at h
    simp only [Option.map_some, Option.some.injEq, Prod.mk.injEq] at h
    exact ⟨i, rfl, h.1, h.2.1, h.2.2⟩
end Go.Proofs.YtahfnknbmikmkaaGreat
