/- The document's check of what is to be watched. -/
import Derived.Test.YtceomfefffngaaaBwK
namespace Go.Proofs.Ytceomfefffngaaa
open Go.RowKit
set_option linter.unusedVariables false
set_option maxRecDepth 1000000
set_option linter.unusedSimpArgs false
set_option maxHeartbeats 4000000 in
theorem dcheck_any (lv : Value) (L : List Wq) (w : World) (hB : Wide 2 Wq.qs w lv L) (hl : L.length ≤ 140737488351232) : Calls Try.prog 14 #[lv] w fun e y => e = .returned (.int .i64 (chkW [] L)) ∧ Below w.heap.size w y := by
  obtain ⟨ao, cap, rfl, _, hc⟩ := hB
  obtain ⟨p, hp⟩ : ∃ p, w.heap.size = p := ⟨_, rfl⟩
  have HC : Hid (∀ (y : World), Below p w y → ∀ k (hk : k < L.length), ∃ b off, ao = some ⟨b, off, none⟩ ∧ b < p ∧ y.rangeAt b (off + k * 2) (Wq.qs L[k])) := fun y hb k hk => by have := Wide.at hc (by rw [hp]; exact hb) k hk; rwa [hp] at this
  have HI : Hid (Below p w w) := Below.refl _ _
  rw [hp]
  obtain ⟨M, hM⟩ : ∃ M, L.length = M := ⟨_, rfl⟩
  have HM := hidOf2 hM
  rw [hM] at hl ⊢
  clear hc hM
  go_enter Try.func14, Try.ntmps14
  go_wp2_with fail
  go_loopw [3] (fun s3 y => ∃ k, k ≤ M ∧ s3 = .int .i64 (k : Nat) ∧ Below p w y ∧ chkW [] L = chkW (L.take k) (L.drop k)) (fun s3 _ => M - (intOf s3).toNat)
  case atStart => exact ⟨0, by omega, rfl, HI.out, by simp⟩
  case round =>
    clear HI
    obtain ⟨k, hk, rfl, hb, hck⟩ := hrel
    have HBw := hidOf2 hb
    by_cases hkl : k < M
    · have hd : decide ((k : Int) < (M : Int)) = true := by simp; omega
      have hkL : k < L.length := by rw [HM.out]; exact hkl
      obtain ⟨b, off, rfl, hbp, hR⟩ := HC.out wr hb k hkL
      obtain ⟨t1, t2, t3⟩ := chkW_take L k hkL hck
      have HT3 := hidOf2 t3
      have HT2 := hidOf2 t2
      obtain ⟨q, hq⟩ : ∃ q, L[k] = q := ⟨_, rfl⟩
      have HQ := hidOf2 hq
      rw [hq] at hR t1
      have c0 : wr.cell? ⟨b, off + k * 2, none⟩ = some (.int .i64 q.nd) := hR 0 _ rfl
      have c1 : wr.cell? ⟨b, off + k * 2 + 1, none⟩ = some (.int .u64 q.tk) := hR 1 _ rfl
      obtain ⟨N, hN⟩ : ∃ N, q.nd = N := ⟨_, rfl⟩
      obtain ⟨T, hT⟩ : ∃ T, q.tk = T := ⟨_, rfl⟩
      rw [hN] at c0
      rw [hT] at c1
      have HN : Hid (q.nd = N) := hN
      by_cases hbad : q.bad = true
      · have HE := hidOf2 (t1 hbad)
        have hbd : (decide (N < 1) || decide (127 < N) || decide (T < 1) || decide (4294967296 < T)) = true := by rw [← hN, ← hT]; exact hbad
        clear t1 t2 t3 HT2 HT3 hR hb hck HC HQ hq hN hT hbad
        by_cases h1 : N < 1
        · have d1 : decide (N < 1) = true := by simp [h1]
          clear hbd h1
          clear HN
          go_wp2_with fail
          go_ret
          exact ⟨ret_int (by rw [HE.out]), HBw.out⟩
        · have d1 : decide (N < 1) = false := by simp; omega
          by_cases h2 : 127 < N
          · have d2 : decide (127 < N) = true := by simp [h2]
            clear hbd h1 h2
            clear HN
            go_wp2_with fail
            go_ret
            exact ⟨ret_int (by rw [HE.out]), HBw.out⟩
          · have d2 : decide (127 < N) = false := by simp; omega
            by_cases h3 : T < 1
            · have d3 : decide ((T : Int) < 1) = true := by simp; omega
              have d3' : decide (T < 1) = true := by simp; omega
              have h3' : T = 0 := by omega
              clear hbd h1 h2 h3
              clear HN
              go_wp2_with fail
              go_ret
              exact ⟨ret_int (by rw [HE.out]), HBw.out⟩
            · have d3 : decide ((T : Int) < 1) = false := by simp; omega
              have d3' : decide (T < 1) = false := by simp; omega
              have h4 : 4294967296 < T := by simpa [h1, h2, h3] using hbd
              have d4 : decide ((4294967296 : Int) < (T : Int)) = true := by simp; omega
              have d4' : decide (4294967296 < T) = true := by simp; omega
              clear hbd h1 h2 h3 h4
              clear HN
              go_wp2_with fail
              go_ret
              exact ⟨ret_int (by rw [HE.out]), HBw.out⟩
      · have hbad' : q.bad = false := by simpa using hbad
        have hbd : (decide (N < 1) || decide (127 < N) || decide (T < 1) || decide (4294967296 < T)) = false := by rw [← hN, ← hT]; exact hbad'
        simp only [Bool.or_eq_false_iff] at hbd
        obtain ⟨⟨⟨d1, d2⟩, d3'⟩, d4'⟩ := hbd
        have d3 : decide ((T : Int) < 1) = false := by simp at d3' ⊢; omega
        have d4 : decide ((4294967296 : Int) < (T : Int)) = false := by simp at d4' ⊢; omega
        have HBD := hidOf2 hbad'
        have HKL := hidOf2 hkl
        clear t1 t2 t3 hR hb hck hq hN hT hbad hbad'
        go_wp2_with fail
        go_loopw [4] (fun s4 y => ∃ j, j ≤ k ∧ s4 = .int .i64 (j : Nat) ∧ Below p w y ∧ ∀ i (hi : i < L.length), i < j → L[i].nd ≠ N) (fun s4 _ => k - (intOf s4).toNat)
        case atStart => exact ⟨0, by omega, rfl, HBw.out, fun i _ h => absurd h (by omega)⟩
        case round =>
          clear HBw c0 c1
          obtain ⟨j, hj, rfl, hb, hn⟩ := hrel
          have HNE := hidOf2 hn
          have HBw := hidOf2 hb
          clear hn
          by_cases hjk : j < k
          · have hd2 : decide ((j : Int) < (k : Int)) = true := by simp; omega
            have hjL : j < L.length := by rw [HM.out]; omega
            obtain ⟨b1, off1, e1, _, hR1⟩ := HC.out wr hb j hjL
            injection e1 with e1; injection e1 with e1 e2; subst e1; subst e2
            obtain ⟨b2, off2, e1, _, hR2⟩ := HC.out wr hb k hkL
            injection e1 with e1; injection e1 with e1 e2; subst e1; subst e2
            have c0 : wr.cell? ⟨b, off + k * 2, none⟩ = some (.int .i64 L[k].nd) := hR2 0 _ rfl
            have c1 : wr.cell? ⟨b, off + j * 2, none⟩ = some (.int .i64 L[j].nd) := hR1 0 _ rfl
            rw [HQ.out, HN.out] at c0
            obtain ⟨J, hJ⟩ : ∃ J, L[j].nd = J := ⟨_, rfl⟩
            rw [hJ] at c1
            have hjM : (j : Int) < (M : Int) := by omega
            have hkM : (k : Int) < (M : Int) := by omega
            by_cases hq : J = N
            · have HE : Hid (chkW [] L = 5) := HT2.out (by rw [HQ.out]; exact HBD.out) (by
                rw [HQ.out, HN.out, ← hq, ← hJ]
                exact List.mem_map.2 ⟨L[j], by rw [List.mem_take_iff_getElem]; exact ⟨j, by omega, rfl⟩, rfl⟩)
              have dq : (J == N) = true := by simp [hq]
              clear hR1 hR2 hb hq hJ HC HT2 HT3
              go_upto_region 9 with fail
              go_quiet (fail)
              go_wp2_with fail
              go_ret
              exact ⟨ret_int (by rw [HE.out]), below_drawn HBw.out _⟩
            · have HE : Hid (∀ i (hi : i < L.length), i < j + 1 → L[i].nd ≠ N) := fun i hi hij => by
                rcases Nat.lt_succ_iff_lt_or_eq.1 hij with h | rfl
                · exact HNE.out i hi h
                · rw [hJ]; exact hq
              have dq : (J == N) = false := by simp [hq]
              clear hR1 hR2 hb hq hJ HC HT2 HT3
              go_upto_region 9 with fail
              go_quiet (fail)
              go_wp2_with fail
              go_roundw
              case rel => exact ⟨j + 1, by omega, rfl, below_drawn HBw.out _, HE.out⟩
              case measure => simp [intOf]; omega
          · obtain rfl : j = k := by omega
            have hd2 : decide ((j : Int) < (j : Int)) = false := by simp
            have HE : Hid (chkW [] L = chkW (L.take (j + 1)) (L.drop (j + 1))) := HT3.out (by rw [HQ.out]; exact HBD.out) (by
              rw [HQ.out, HN.out]
              intro hm
              obtain ⟨r, hr, hre⟩ := List.mem_map.1 hm
              obtain ⟨i, hi, rfl⟩ := List.mem_take_iff_getElem.1 hr
              exact HNE.out i (by omega) (by omega) hre)
            clear hb HC HT2 HT3 HNE
            go_wp2_with fail
            go_roundw
            case rel => exact ⟨j + 1, by omega, rfl, HBw.out, HE.out⟩
            case measure => simp [intOf]; omega
    · obtain rfl : k = M := by omega
      have hd : decide ((k : Int) < (k : Int)) = false := by simp
      have HE : Hid (chkW [] L = 0) := by
        show _ = _
        rw [hck, List.drop_eq_nil_of_le (by have := HM.out; omega)]
        unfold chkW
        cases L.take k <;> rfl
      clear hb hck HC
      go_wp2_with fail
      go_ret
      exact ⟨ret_int (by rw [HE.out]), HBw.out⟩
end Go.Proofs.Ytceomfefffngaaa
