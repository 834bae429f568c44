/- WheelEvery: the law's walk. -/
import Derived.Test.YtbfcoobngicpnaaW20
namespace Go.Proofs.Ytbfcoobngicpnaa
open Go.RowKit Go.Maps Go.WideMaps
set_option linter.unusedVariables false
set_option maxRecDepth 1000000
set_option linter.unusedSimpArgs false
set_option maxHeartbeats 4000000 in
theorem wevery_nat (a b c : Nat) (ha : a < 65536) (hb : b < 65536) (hc : c < 65536) (w : World) : Calls Try.prog 6 #[.int .u16 a, .int .u16 b, .int .u16 c] w fun e w' => e = .returned (.bool true) ∧ Below w.heap.size w w' := by
  have hN : Calls Try.prog 7 #[.int .i64 8] w _ := New_any 8 (by omega) (by omega) w
  have hA1 : a % 300 < 300 := Nat.mod_lt _ (by omega)
  have hB1 : b % 50 < 50 := Nat.mod_lt _ (by omega)
  have hC1 : c % 2000 < 2000 := Nat.mod_lt _ (by omega)
  have hra : (a : Int).tmod 300 = ((a % 300 : Nat) : Int) := by rfl
  have hrb : (b : Int).tmod 50 = ((b % 50 : Nat) : Int) := by rfl
  have hrc : (c : Int).tmod 2000 = ((c % 2000 : Nat) : Int) := by rfl
  have hpa : (1 : Int) + ((a % 300 : Nat) : Int) = ((1 + a % 300 : Nat) : Int) := by omega
  have hpb : (1 : Int) + ((b % 50 : Nat) : Int) = ((1 + b % 50 : Nat) : Int) := by omega
  obtain ⟨p, hp⟩ : ∃ p, 1 + a % 300 = p := ⟨_, rfl⟩
  obtain ⟨q, hq⟩ : ∃ q, 1 + b % 50 = q := ⟨_, rfl⟩
  rw [hp] at hpa
  rw [hq] at hpb
  have hp1 : 1 ≤ p ∧ p ≤ 300 := by omega
  have hq1 : 1 ≤ q ∧ q ≤ 50 := by omega
  clear hp hq
  generalize a % 300 = a1 at *
  generalize b % 50 = b1 at *
  generalize c % 2000 = m at *
  go_enter Try.func6, Try.ntmps6
  go_wp2_with fail
  refine hN.mono ?_
  rintro e w1 ⟨g, bt, S, rfl, l1, l2, l3, h1, d1⟩
  clear hN
  have hV : Calls Try.prog 14 #[.pointer (some ⟨g, 0, none⟩), .int .u64 p, .int .u64 q, .int .i64 3] w1 _ := Every_ok h1 p q 3 (by omega) (by omega) (by decide) (by omega)
  clear h1
  have s1 := d1.size
  go_wp2_with fail
  refine hV.mono ?_
  rintro e w2 ⟨rfl, sm2, h2, k2, m2⟩
  clear hV
  have d2 : Below w.heap.size w w2 := kw_below d1 k2 (fun k hk e => by
    rcases e with e | e | e | ⟨i, hi, e⟩
    · omega
    · omega
    · omega
    · cases e)
  have hW2 : Wh g 0 1 8 [⟨1, 0 + p, q, 3, w1.heap.size⟩] [⟨1, 0 + p, q, 3, w1.heap.size⟩] bt S sm2 w2 := h2
  rw [Nat.zero_add] at hW2
  obtain ⟨bk, hbk⟩ : ∃ x, w1.heap.size = x := ⟨_, rfl⟩
  rw [hbk] at hW2
  obtain ⟨C, D, hO⟩ := one_any (p := p) (q := q) bk (by omega) (by omega) m
  obtain ⟨o1, o2⟩ := one_want hO (by omega) (by omega)
  have hGd : Good 0 [(⟨1, p, q, 3, bk⟩ : Tm)] := ⟨fun x hx y hy e => by simp at hx hy; rw [hx, hy], by simp, fun t ht => by simp at ht; subst ht; simp; omega⟩
  have hTk := Tick_calm hW2 hGd m (by omega) (by omega) (fun c hc => by
    have h9 := tkW_len 0 [(⟨1, p, q, 3, bk⟩ : Tm)] c
    simp at h9
    omega)
  have hCb : C ≤ 2000 := by
    have h9 := tkW_len 0 [(⟨1, p, q, 3, bk⟩ : Tm)] m
    rw [hO.w] at h9
    simp at h9
    omega
  have hDb := hO.lt
  have hDb2 : D ≤ 10000000 := by
    have := hO.d
    have h8 : C * q ≤ 2000 * 50 := Nat.mul_le_mul hCb hq1.2
    omega
  have HM : Hid (∀ k i, i < 8 → sm2 i = some k → w.heap.size ≤ k) := fun k i hi e => by
    rcases m2 i k hi e with e | e
    · cases e
    · omega
  have HO : Hid (OneT p q bk m C D) := hO
  have HD : Hid (Below w.heap.size w w2 ∧ w.heap.size ≤ bk) := ⟨d2, by omega⟩
  clear h2 k2 m2 hW2 hGd hO d1 d2 hbk
  by_cases hpm : p ≤ m
  · obtain ⟨x1, x2, x3⟩ := o2 hpm
    clear o1 o2
    have hdp : decide ((p : Int) ≤ (m : Int)) = true := by simp; omega
    have hsub : (m : Int) - (p : Int) = ((m - p : Nat) : Int) := by omega
    have hdiv : ((m - p : Nat) : Int).tdiv (q : Int) = (((m - p) / q : Nat) : Int) := by rfl
    have hw1 : (1 : Int) + (((m - p) / q : Nat) : Int) = (C : Int) := by omega
    have hqn : ¬ (q : Int) = 0 := by omega
    have hqn2 : ((q : Int) == 0) = false := by rw [beq_eq_false_iff_ne]; omega
    have hqn3 : ¬ q = 0 := by omega
    have hmp : m - p < 2000 := by omega
    have hdb : (m - p) / q < 2000 := Nat.lt_of_le_of_lt (Nat.div_le_self _ _) hmp
    have hC0 : 0 < C := by rw [x1]; exact Nat.lt_of_lt_of_le Nat.zero_lt_one (Nat.le_add_right 1 _)
    have hC3 : C ≤ 2000 := hCb
    clear x1
    generalize (m - p) / q = dv at *
    generalize m - p = mp at *
    go_wp2_with fail
    refine hTk.mono ?_
    rintro e w3 ⟨tv3, sm3, rfl, T3⟩
    obtain ⟨ao, cap, rfl⟩ := row_shape T3.row
    have hO := HO.out
    have hlen : ([] ++ tkW m 0 [(⟨1, p, q, 3, bk⟩ : Tm)]).length = C := by simpa using hO.w
    have d3 : Below w.heap.size w w3 := kw_below HD.out.1 T3.kw (fun k hk e => by
      rcases e with ((e | e | e | ⟨i, hi, e⟩) | ⟨y, hy, e⟩) | e
      · omega
      · omega
      · omega
      · have := HM.out k i hi e; omega
      · simp at hy; subst hy; simp at e; have := HD.out.2; omega
      · cases e)
    have hW3 := T3.wh
    rw [hO.t, Nat.zero_add] at hW3
    have hLf := Left_any hW3 1 (by omega) (fun t ht => by simp at ht; subst ht; simp; omega)
    have e1 : leftF m [(⟨1, D, q, 3, bk⟩ : Tm)] 1 = (D - m, true) := by simp [leftF, findT]
    obtain ⟨L1, hL1⟩ : ∃ x, D - m = x := ⟨_, rfl⟩
    rw [e1, hL1] at hLf
    rw [hlen]
    clear hTk T3 hO hW3 e1 hlen HO
    have HB3 : Hid (Below w.heap.size w w3) := d3
    clear d3 HD HM
    go_wp2_with fail
    refine hLf.mono ?_
    rintro e w4 ⟨rfl, d4⟩
    have HB4 : Hid (Below w.heap.size w w4) := HB3.out.trans (d4.mono HB3.out.size)
    have hLi := lives6_any w4
    clear hLf d4 HB3
    have hge : 1 ≤ L1 := by omega
    have hge2 : L1 ≤ 10000000 := by omega
    have hdge : decide ((1 : Int) ≤ (L1 : Int)) = true := by simp; omega
    have hgt : decide ((0 : Int) < (C : Int)) = true := by simp; omega
    have hs1 : (m : Int) + (L1 : Int) = (D : Int) := by omega
    have hs2 : (D : Int) - (p : Int) = ((D - p : Nat) : Int) := by omega
    have hs3 : ((D - p : Nat) : Int).tmod (q : Int) = (((D - p) % q : Nat) : Int) := by rfl
    rw [x2] at hs3
    have hDp : D - p ≤ 10000000 := by omega
    generalize D - p = dp at *
    clear x2 x3 hL1
    go_wp2_with fail
    refine hLi.mono ?_
    rintro e w5 ⟨rfl, d5⟩
    have HB5 : Hid (Below w.heap.size w w5) := HB4.out.trans (d5.mono HB4.out.size)
    clear hLi d5
    go_wp2
    go_ret
    exact ⟨rfl, HB5.out⟩
  · obtain ⟨x1, x2⟩ := o1 (by omega)
    clear o1 o2
    have hdp : decide ((p : Int) ≤ (m : Int)) = false := by simp; omega
    subst x1
    subst x2
    go_wp2_with fail
    refine hTk.mono ?_
    rintro e w3 ⟨tv3, sm3, rfl, T3⟩
    obtain ⟨ao, cap, rfl⟩ := row_shape T3.row
    have hO := HO.out
    have hlen : ([] ++ tkW m 0 [(⟨1, D, q, 3, bk⟩ : Tm)]).length = 0 := by simpa using hO.w
    have d3 : Below w.heap.size w w3 := kw_below HD.out.1 T3.kw (fun k hk e => by
      rcases e with ((e | e | e | ⟨i, hi, e⟩) | ⟨y, hy, e⟩) | e
      · omega
      · omega
      · omega
      · have := HM.out k i hi e; omega
      · simp at hy; subst hy; simp at e; have := HD.out.2; omega
      · cases e)
    have hW3 := T3.wh
    rw [hO.t, Nat.zero_add] at hW3
    have hLf := Left_any hW3 1 (by omega) (fun t ht => by simp at ht; subst ht; simp; omega)
    have e1 : leftF m [(⟨1, D, q, 3, bk⟩ : Tm)] 1 = (D - m, true) := by simp [leftF, findT]
    obtain ⟨L1, hL1⟩ : ∃ x, D - m = x := ⟨_, rfl⟩
    rw [e1, hL1] at hLf
    rw [hlen]
    clear hTk T3 hO hW3 e1 hlen HO
    have HB3 : Hid (Below w.heap.size w w3) := d3
    clear d3 HD HM
    go_wp2_with fail
    refine hLf.mono ?_
    rintro e w4 ⟨rfl, d4⟩
    have HB4 : Hid (Below w.heap.size w w4) := HB3.out.trans (d4.mono HB3.out.size)
    have hLi := lives6_any w4
    clear hLf d4 HB3
    have hge : 1 ≤ L1 := by omega
    have hge2 : L1 ≤ 10000000 := by omega
    have hdge : decide ((1 : Int) ≤ (L1 : Int)) = true := by simp; omega
    have hs1 : (m : Int) + (L1 : Int) = (D : Int) := by omega
    clear hL1
    go_wp2_with fail
    refine hLi.mono ?_
    rintro e w5 ⟨rfl, d5⟩
    have HB5 : Hid (Below w.heap.size w w5) := HB4.out.trans (d5.mono HB4.out.size)
    clear hLi d5
    go_wp2
    go_ret
    exact ⟨rfl, HB5.out⟩
end Go.Proofs.Ytbfcoobngicpnaa
