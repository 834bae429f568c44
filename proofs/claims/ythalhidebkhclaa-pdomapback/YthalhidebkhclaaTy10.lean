/- Contracts of the document's own: Check, Plain, Encode. -/
import Derived.Test.YthalhidebkhclaaTy9b
namespace Go.Proofs.Ythalhidebkhclaa
open Go.RowKit Go.Proofs.Ty
set_option linter.unusedVariables false
set_option maxRecDepth 1000000

theorem low_last (n k : Nat) : ((lowL n (k + 1)).getLast?.getD 0).toNat = n / 256 ^ k % 256 := by
  rw [lowL_snoc, List.getLast?_concat]
  show (UInt8.ofNat (n / 256 ^ k)).toNat = _
  rw [ofNat_toNat]
theorem wide_low (n z : Nat) (b : Nat) (h : (z = 1 ∧ b = 8) ∨ (z = 2 ∧ b = 16) ∨ (z = 4 ∧ b = 32) ∨ (z = 8 ∧ b = 64)) : wideN true (lowL n z) = extN b n := by
  rcases h with ⟨rfl, rfl⟩ | ⟨rfl, rfl⟩ | ⟨rfl, rfl⟩ | ⟨rfl, rfl⟩
  · unfold wideN extN
    rw [lowL_length, join_low, low_last n 0]
    by_cases h : n % 2 ^ 8 < 2 ^ (8 - 1)
    · rw [if_pos h, if_neg (by omega)]
    · rw [if_neg h, if_pos ⟨rfl, by omega, by omega⟩]
  · unfold wideN extN
    rw [lowL_length, join_low, low_last n 1]
    by_cases h : n % 2 ^ 16 < 2 ^ (16 - 1)
    · rw [if_pos h, if_neg (by omega)]
    · rw [if_neg h, if_pos ⟨rfl, by omega, by omega⟩]
  · unfold wideN extN
    rw [lowL_length, join_low, low_last n 3]
    by_cases h : n % 2 ^ 32 < 2 ^ (32 - 1)
    · rw [if_pos h, if_neg (by omega)]
    · rw [if_neg h, if_pos ⟨rfl, by omega, by omega⟩]
  · unfold wideN extN
    rw [lowL_length, join_low, low_last n 7]
    by_cases h : n % 2 ^ 64 < 2 ^ (64 - 1)
    · rw [if_pos h, if_neg (by omega)]
    · rw [if_neg h, if_pos ⟨rfl, by omega, by omega⟩]
theorem sz2 {t : Int} (h : kind t = 2) : (siz t = 1 ∧ wid t = 8) ∨ (siz t = 2 ∧ wid t = 16) ∨ (siz t = 4 ∧ wid t = 32) ∨ (siz t = 8 ∧ wid t = 64) := by
  unfold kind at h; unfold siz wid; (repeat' split at h) <;> (repeat' split) <;> omega
theorem sz1 {t : Int} (h : kind t = 1) (h1 : t ≠ 1) : (siz t = 1 ∧ wid t = 8) ∨ (siz t = 2 ∧ wid t = 16) ∨ (siz t = 4 ∧ wid t = 32) ∨ (siz t = 8 ∧ wid t = 64) := by
  unfold kind at h; unfold siz wid; (repeat' split at h) <;> (repeat' split) <;> omega
theorem wv_signed {v : Vl} (h : kind v.t = 2) : wv v = extN (wid v.t) v.n := by
  unfold wv
  rw [h]
  exact wide_low _ _ _ (sz2 h)
theorem wv_unsigned {v : Vl} (h : kind v.t = 1) : wv v = v.n % 256 ^ siz v.t := by
  unfold wv wideN
  rw [h, if_neg (by simp), join_low]
theorem chk_num2 {v : Vl} (h : kind v.t = 2) : v.chk = if wv v = v.n then 0 else 1 := by
  unfold Vl.chk chk
  rw [if_neg (by omega), if_pos h, wv_signed h]
theorem chk_num1 {v : Vl} (h : kind v.t = 1) (h1 : v.t ≠ 1) : v.chk = if wv v = v.n then 0 else 1 := by
  unfold Vl.chk chk
  rw [if_pos h, wv_unsigned h]
  rcases sz1 h h1 with ⟨e1, e2⟩ | ⟨e1, e2⟩ | ⟨e1, e2⟩ | ⟨e1, e2⟩ <;> rw [e1, e2] <;> rfl
theorem chk_bool {v : Vl} (h : v.t = 1) : v.chk = if wv v = v.n ∧ ¬ 1 < v.n then 0 else 1 := by
  have hk : kind v.t = 1 := by rw [h]; rfl
  have hw : wid v.t = 1 := by rw [h]; rfl
  have hs : siz v.t = 1 := by rw [h]; rfl
  unfold Vl.chk chk
  rw [if_pos hk, wv_unsigned hk, hw, hs]
  by_cases hn : v.n % 2 ^ 1 = v.n
  · rw [if_pos hn, if_pos (by omega)]
  · rw [if_neg hn, if_neg (by omega)]
theorem r7Check_num (v : Vl) (hz : 0 < siz v.t) (w : World) :
    Calls Try.prog 63 #[.agg v.arr] w fun e w' => e = .returned (.int .i64 v.chk) ∧ Below w.heap.size w w' := by
  have hk : kind v.t = 1 ∨ kind v.t = 2 := by
    have := siz_zero v.t
    omega
  by_cases he : wv v = v.n
  · by_cases h1 : v.t = 1
    · by_cases hn : 1 < v.n
      · have := r7Check_b1 v hz he h1 hn w
        rw [chk_bool h1, if_neg (fun h => h.2 hn)]
        exact this
      · have := r7Check_b0 v hz he h1 hn w
        rw [chk_bool h1, if_pos ⟨he, hn⟩]
        exact this
    · have := r7Check_other v hz he h1 w
      have e : v.chk = 0 := by
        rcases hk with hk | hk
        · rw [chk_num1 hk h1, if_pos he]
        · rw [chk_num2 hk, if_pos he]
      rw [e]
      exact this
  · have := r7Check_ne v hz he w
    have e : v.chk = 1 := by
      by_cases h1 : v.t = 1
      · rw [chk_bool h1, if_neg (fun h => he h.1)]
      · rcases hk with hk | hk
        · rw [chk_num1 hk h1, if_neg he]
        · rw [chk_num2 hk, if_neg he]
    rw [e]
    exact this
set_option maxHeartbeats 1000000 in
theorem r7Check_txt (v : Vl) (hz : ¬ 0 < siz v.t) (w : World) :
    Calls Try.prog 63 #[.agg v.arr] w fun e w' => e = .returned (.int .i64 v.chk) ∧ Below w.heap.size w w' := by
  have fA := Va.new w v
  have bA : Below w.heap.size w (w.alloc (.cells v.arr 42)) := (Below.refl _ _).alloc (Nat.le_refl _) _
  have hI := r7Is_any v.t
  have hS7 := r7Size_any v.t
  have hk := siz_zero v.t
  have hz0 : siz v.t = 0 := by omega
  rw [hz0] at hS7
  have HT := hidOf (kind_text v.t)
  have HV : Hid (v.chk = if kind v.t = 1 then (if v.n % 2 ^ wid v.t = v.n then 0 else 1)
      else if kind v.t = 2 then (if extN (wid v.t) v.n = v.n then 0 else 1)
      else if kind v.t = 0 then 1
      else if 65536 < v.s.size then 2 else if v.t = 9 ∧ prn v.s.data.toList = false then 1 else 0) := rfl
  obtain ⟨W, hW⟩ : ∃ W, w.alloc (.cells v.arr 42) = W := ⟨_, rfl⟩
  obtain ⟨q, hq⟩ : ∃ q, w.heap.size = q := ⟨_, rfl⟩
  rw [hW, hq] at fA
  rw [hW] at bA
  have bq : Below q w W := by rw [← hq]; exact bA
  have c0 := fA.c0
  have c2 := fA.c2
  have hk1 : kind v.t ≠ 1 := by omega
  have hk2 : kind v.t ≠ 2 := by omega
  generalize v.chk = C at *
  by_cases h0 : kind v.t = 0
  · have e1 := hidOf (show C = 1 by rw [HV.out]; simp [h0])
    have dk : (kind v.t != 0) = false := by simp [h0]
    rw [dk] at hI
    clear HV
    go_enter Try.func63, Try.ntmps63
    go_wp2_with (first | (go_at_call 50; refine (hI _).mono ?_; rintro e w1 ⟨rfl, rfl⟩) | (go_at_call 24; refine (hS7 _).mono ?_; rintro e w1 ⟨rfl, rfl⟩))
    go_ret
    exact ⟨ret_int (by rw [e1.out]; rfl), by first | exact bA | exact bq⟩
  · have dk : (kind v.t != 0) = true := by simp [h0]
    rw [dk] at hI
    by_cases hl : 65536 < v.s.size
    · have e1 := hidOf (show C = 2 by rw [HV.out]; simp [h0, hk1, hk2, hl])
      clear HV
      go_enter Try.func63, Try.ntmps63
      go_wp2_with (first | (go_at_call 50; refine (hI _).mono ?_; rintro e w1 ⟨rfl, rfl⟩) | (go_at_call 24; refine (hS7 _).mono ?_; rintro e w1 ⟨rfl, rfl⟩))
      go_ret
      exact ⟨ret_int (by rw [e1.out]; rfl), by first | exact bA | exact bq⟩
    · by_cases h9 : v.t = 9
      · have e1 := hidOf (show C = if prn v.s.data.toList = false then 1 else 0 by rw [HV.out, if_neg hk1, if_neg hk2, if_neg h0, if_neg hl]; simp [h9])
        clear HV HT
        generalize hs : v.s = s at *
        rw [h9] at c0 hI hS7
        go_enter Try.func63, Try.ntmps63
        go_wp2_with (first | (go_at_call 50; refine (hI _).mono ?_; rintro e w1 ⟨rfl, rfl⟩) | (go_at_call 24; refine (hS7 _).mono ?_; rintro e w1 ⟨rfl, rfl⟩))
        go_loop [4] (fun i => ∃ k : Nat, k ≤ s.size ∧ i = .int .i64 k ∧ prn (s.data.toList.take k) = true) (fun i => s.size - (intOf i).toNat)
        case atStart => exact ⟨0, Nat.zero_le _, rfl, by simp [prn]⟩
        case round =>
          obtain ⟨k, hle, rfl, hall⟩ := hrel
          by_cases hp : k < s.size
          · have dp : decide ((k : Int) < (s.size : Int)) = true := decide_eq_true (by omega)
            by_cases g1 : s[k].toNat < 32
            · have H : Hid (prn s.data.toList = false) := prn_not k hp (.inl g1)
              have d1 : decide ((s[k].toNat : Int) < 32) = true := by simp; omega
              go_wp2
              go_ret
              exact ⟨ret_int (by rw [e1.out, H.out]; rfl), by first | exact bA | exact bq⟩
            · have d1 : decide ((s[k].toNat : Int) < 32) = false := by simp; omega
              by_cases g2 : 126 < s[k].toNat
              · have H : Hid (prn s.data.toList = false) := prn_not k hp (.inr g2)
                have d2 : decide (126 < (s[k].toNat : Int)) = true := by simp; omega
                go_wp2
                go_ret
                exact ⟨ret_int (by rw [e1.out, H.out]; rfl), by first | exact bA | exact bq⟩
              · have d2 : decide (126 < (s[k].toNat : Int)) = false := by simp; omega
                have H : Hid (prn (s.data.toList.take (k + 1)) = true) := by
                  show prn _ = true
                  rw [take_snoc s k hp]; exact prn_snoc hall (by omega) (by omega)
                go_wp2
                go_round
                case rel => exact ⟨k + 1, by omega, by go_num, H.out⟩
                case measure => simp [intOf]; omega
          · have dp : decide ((k : Int) < (s.size : Int)) = false := decide_eq_false (by omega)
            go_wp2
            go_ret
            obtain rfl : k = s.size := by omega
            rw [take_all] at hall
            exact ⟨ret_int (by rw [e1.out, hall]; rfl), by first | exact bA | exact bq⟩
      · have e1 := hidOf (show C = 0 by rw [HV.out]; simp [h0, hk1, hk2, hl, h9])
        have d9 : (v.t == 9) = false := by simpa using h9
        clear HV HT
        go_enter Try.func63, Try.ntmps63
        go_wp2_with (first | (go_at_call 50; refine (hI _).mono ?_; rintro e w1 ⟨rfl, rfl⟩) | (go_at_call 24; refine (hS7 _).mono ?_; rintro e w1 ⟨rfl, rfl⟩))
        go_loop [4] (fun i => i = .int .i64 0) (fun i => 0)
        case atStart => rfl
        case round =>
          obtain rfl := hrel
          by_cases hp : 0 < v.s.size
          · have dp : decide ((0 : Int) < (v.s.size : Int)) = true := decide_eq_true (by omega)
            go_wp2
            go_ret
            exact ⟨ret_int (by rw [e1.out]; rfl), by first | exact bA | exact bq⟩
          · have dp : decide ((0 : Int) < (v.s.size : Int)) = false := decide_eq_false (by omega)
            go_wp2
            go_ret
            exact ⟨ret_int (by rw [e1.out]; rfl), by first | exact bA | exact bq⟩
theorem r7Check_v (v : Vl) (w : World) : Calls Try.prog 63 #[.agg v.arr] w fun e w' => e = .returned (.int .i64 v.chk) ∧ Below w.heap.size w w' := by
  by_cases hz : 0 < siz v.t
  · exact r7Check_num v hz w
  · exact r7Check_txt v hz w
end Go.Proofs.Ythalhidebkhclaa
