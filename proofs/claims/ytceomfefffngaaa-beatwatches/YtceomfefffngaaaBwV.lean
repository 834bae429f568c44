/- Both watchers know the same. -/
import Derived.Test.YtceomfefffngaaaBwS
import Derived.Test.YtceomfefffngaaaBwU
namespace Go.Proofs.Ytceomfefffngaaa
open Go.RowKit
set_option linter.unusedVariables false
set_option maxRecDepth 1000000
set_option linter.unusedSimpArgs false
theorem knows_out {l : List Wt} {n : Int} (h : ¬ fw l n < l.length) : stW l n = 0 ∧ isW l n = false := by
  unfold stW isW
  rw [dif_neg h, dif_neg h]
  exact ⟨rfl, rfl⟩
theorem knows_not {l : List Wt} {n : Int} (h : fw l n < l.length) (h1 : l[fw l n].is ≠ 1) : stW l n = 0 ∧ isW l n = false := by
  unfold stW isW
  rw [dif_pos h, dif_pos h, if_neg h1]
  exact ⟨rfl, by simp [h1]⟩
theorem knows_is {l : List Wt} {n : Int} (h : fw l n < l.length) (h1 : l[fw l n].is = 1) : stW l n = l[fw l n].st ∧ isW l n = true := by
  unfold stW isW
  rw [dif_pos h, dif_pos h, if_pos h1]
  exact ⟨rfl, by simp [h1]⟩
section
variable {w x y : World} {p g gw : Nat} {v lv sv : Value} {L : List Wq} {l : List Wt}
set_option maxHeartbeats 8000000 in
theorem tells_any (hA : Lw w p gw v l x) (h : Ld w p g lv sv L l x) : Calls Try.prog 20 #[.pointer (some ⟨gw, 0, none⟩), .pointer (some ⟨g, 0, none⟩)] x fun e y => e = .returned (.bool true) ∧ Below x.heap.size x y := by
  obtain ⟨p0, hp0⟩ : ∃ p, x.heap.size = p := ⟨_, rfl⟩
  have HP0 := hidOf2 hp0
  have HA := hidOf2 hA
  have HD := hidOf2 h
  have HI : Hid (Below p0 x x) := Below.refl _ _
  obtain ⟨ao, cap, hsv⟩ := own_shape5 h.row
  have HV := hidOf2 hsv
  have hll := h.ok.len
  have HO := hidOf2 h.ok
  rw [hp0]
  clear hA h hsv
  go_enter Try.func20, Try.ntmps20
  go_wp2_with fail
  go_loopw [5] (fun s5 y => ∃ k : Nat, k ≤ 130 ∧ s5 = .int .i64 ((k : Int) - 1) ∧ Below p0 x y) (fun s5 _ => (129 - (intOf s5)).toNat)
  case atStart => exact ⟨0, by omega, rfl, HI.out⟩
  case round =>
    clear HI
    obtain ⟨k, hk, rfl, hb⟩ := hrel
    have hx : Below x.heap.size x wr := by rw [HP0.out]; exact hb
    have hW := HA.out.below hx
    have HBw := hidOf2 hb
    have hszw : p0 ≤ wr.heap.size := by have := hb.size; have := HP0.out; omega
    obtain ⟨n, hn⟩ : ∃ n : Int, (k : Int) - 1 = n := ⟨_, rfl⟩
    rw [hn]
    by_cases hkl : k < 130
    · have hd : decide (n < 129) = true := by simp; omega
      have hS := hW.state n
      have hX : Hid (∀ y, Below wr.heap.size wr y → Ld w p g lv sv L l y ∧ Below p0 x y) := fun y hy => by
        have hxy : Below p0 x y := HBw.out.trans (hy.mono hszw)
        exact ⟨HD.out.below (by rw [HP0.out]; exact hxy), hxy⟩
      have hnb : -1 ≤ n ∧ n ≤ 128 := by omega
      have hw1 : IntKind.i64.wrap (n + 1) = n + 1 := by simp [IntKind.wrap, IntKind.bits, IntKind.signed]; omega
      have HK := hidOf2 (show n + 1 = ((k + 1 : Nat) : Int) - 1 ∧ k < 130 ∧ n = (k : Int) - 1 from by omega)
      clear hb hx hW hszw hn hkl
      by_cases hf : fw l n < l.length
      · by_cases h1 : l[fw l n].is = 1
        · rw [(knows_is hf h1).1, (knows_is hf h1).2] at hS
          obtain ⟨S, hSv⟩ : ∃ S, l[fw l n].st = S := ⟨_, rfl⟩
          rw [hSv] at hS
          have HF : Hid (∃ hf : fw l n < l.length, l[fw l n].is = 1 ∧ l[fw l n].st = S) := ⟨hf, h1, hSv⟩
          clear hSv h1 hf
          go_upto_region 5 with (go_at_call 27; with_reducible refine hS.mono ?_; rintro e y1 ⟨rfl, _, b1⟩)
          obtain ⟨hf, h1, hSv⟩ := HF.out
          obtain ⟨hD1, hB1⟩ := hX.out y1 b1
          have hP := find_any hD1 n
          rw [ixw_pos _ _ hf] at hP
          obtain ⟨q, hq⟩ : ∃ q, ao = some ⟨q, 0, none⟩ := by
            rcases hD1.row.2 with ⟨hv, h0⟩ | ⟨q, cap, cur, hv, _⟩
            · omega
            · rw [HV.out] at hv
              injection hv with h1 _ _
              exact ⟨q, h1⟩
          subst hq
          have hvv := HV.out
          subst hvv
          have hR' : y1.rangeAt q (fw l n * 3) l[fw l n].ss := own_getW DS hD1.row hf
          have c0 := (Wt.cells3 hR').1
          have c1 := (Wt.cells3 hR').2.1
          obtain ⟨cg0, cg1⟩ := hD1.cell
          have hg0 : decide (((fw l n : Nat) : Int) < 0) = false := by simp
          have hkn : ((fw l n : Nat) : Int) < (l.length : Int) := by omega
          rw [h1] at c0
          rw [hSv] at c1
          have hq1 : (S != S) = false := by simp
          have HB1 := hidOf2 hB1
          clear hS b1 hR' hX hD1 hB1 HF h1 hSv hf
          generalize fw l n = K1 at *
          generalize l.length = NN at *
          go_wp2_with (go_at_call 31; refine hP.mono ?_; rintro e W ⟨rfl, hW⟩; rw [hW])
          go_roundw
          case rel => exact ⟨k + 1, by have := HK.out; omega, by rw [HK.out.1], HB1.out⟩
          case measure => have := HK.out; simp [intOf]; omega
        · rw [(knows_not hf h1).1, (knows_not hf h1).2] at hS
          have HF : Hid (∃ hf : fw l n < l.length, l[fw l n].is ≠ 1) := ⟨hf, h1⟩
          clear h1 hf
          go_upto_region 5 with (go_at_call 27; with_reducible refine hS.mono ?_; rintro e y1 ⟨rfl, _, b1⟩)
          obtain ⟨hf, h1⟩ := HF.out
          obtain ⟨hD1, hB1⟩ := hX.out y1 b1
          have hP := find_any hD1 n
          rw [ixw_pos _ _ hf] at hP
          obtain ⟨q, hq⟩ : ∃ q, ao = some ⟨q, 0, none⟩ := by
            rcases hD1.row.2 with ⟨hv, h0⟩ | ⟨q, cap, cur, hv, _⟩
            · omega
            · rw [HV.out] at hv
              injection hv with h1 _ _
              exact ⟨q, h1⟩
          subst hq
          have hvv := HV.out
          subst hvv
          have hR' : y1.rangeAt q (fw l n * 3) l[fw l n].ss := own_getW DS hD1.row hf
          have c0 := (Wt.cells3 hR').1
          obtain ⟨cg0, cg1⟩ := hD1.cell
          have hg0 : decide (((fw l n : Nat) : Int) < 0) = false := by simp
          have hkn : ((fw l n : Nat) : Int) < (l.length : Int) := by omega
          obtain ⟨i, hi⟩ : ∃ i, l[fw l n].is = i := ⟨_, rfl⟩
          rw [hi] at c0 h1
          have d1 : ((i : Int) != 1) = true := by simp; omega
          have HB1 := hidOf2 hB1
          clear hS b1 hR' hX hD1 hB1 HF hi h1 hf
          generalize fw l n = K1 at *
          generalize l.length = NN at *
          go_wp2_with (go_at_call 31; refine hP.mono ?_; rintro e W ⟨rfl, hW⟩; rw [hW])
          go_roundw
          case rel => exact ⟨k + 1, by have := HK.out; omega, by rw [HK.out.1], HB1.out⟩
          case measure => have := HK.out; simp [intOf]; omega
      · rw [(knows_out hf).1, (knows_out hf).2] at hS
        have HF := hidOf2 hf
        clear hf
        go_upto_region 5 with (go_at_call 27; with_reducible refine hS.mono ?_; rintro e y1 ⟨rfl, _, b1⟩)
        obtain ⟨hD1, hB1⟩ := hX.out y1 b1
        have hP := find_any hD1 n
        rw [ixw_neg _ _ HF.out] at hP
        have HB1 := hidOf2 hB1
        clear hS b1 hX hD1 hB1 HF
        go_wp2_with (go_at_call 31; refine hP.mono ?_; rintro e W ⟨rfl, hW⟩; rw [hW])
        go_roundw
        case rel => exact ⟨k + 1, by have := HK.out; omega, by rw [HK.out.1], HB1.out⟩
        case measure => have := HK.out; simp [intOf]; omega
    · obtain rfl : k = 130 := by omega
      have hd : decide (n < 129) = false := by simp; omega
      have hS := hW.lost
      have hX : Hid (∀ y, Below wr.heap.size wr y → Ld w p g lv sv L l y ∧ Below p0 x y) := fun y hy => by
        have hxy : Below p0 x y := HBw.out.trans (hy.mono hszw)
        exact ⟨HD.out.below (by rw [HP0.out]; exact hxy), hxy⟩
      have HSZ := hidOf2 hszw
      have hnl : (lostW l).length ≤ 1000 := by have := lost_len l; omega
      clear hb hx hW hszw hkl
      subst hn
      obtain ⟨ls, hls⟩ : ∃ ls, (lostW l).mergeSort (fun x y => decide (x ≤ y)) = ls := ⟨_, rfl⟩
      obtain ⟨NN, hNN⟩ : ∃ n, (lostW l).length = n := ⟨_, rfl⟩
      have hln : Hid (ls.length = NN) := by show _ = _; rw [← hls, List.length_mergeSort, hNN]
      rw [hls, hNN] at hS
      rw [hNN] at hnl
      have HLS := hidOf2 (And.intro hls hNN)
      clear hls hNN
      go_upto_region 11 with fail
      go_upto_region 12 with (first | (go_at_call 21; with_reducible refine hS.mono ?_; rintro e y1 ⟨a1, c1, rfl, I1, _, b1⟩; have hS2 := (hX.out y1 b1).1.lost; rw [HLS.out.1, HLS.out.2] at hS2) | (go_at_call 33; with_reducible refine hS2.mono ?_; rintro e y2 ⟨a2, c2, rfl, I2, b2⟩))
      obtain ⟨p2, hp2⟩ : ∃ p, y2.heap.size = p := ⟨_, rfl⟩
      have B2 : Below p0 x y2 := (hX.out y1 b1).2.trans (b2.mono (Nat.le_trans HSZ.out b1.size))
      have J1 := own_belowE I1 b2
      obtain ⟨a9, c9, h9, _, hc1⟩ := wide_of_own DI J1
      injection h9 with h91 h92 h93
      subst h91; subst h93; clear h92
      obtain ⟨a9, c9, h9, _, hc2⟩ := wide_of_own DI I2
      injection h9 with h91 h92 h93
      subst h91; subst h93; clear h92
      have H1 : Hid (∀ y, Below p2 y2 y → ∀ j (hj : j < ls.length), ∃ b off, a1 = some ⟨b, off, none⟩ ∧ y.cell? ⟨b, off + j, none⟩ = some (.int .i64 ls[j])) := fun y hy j hj => by
        obtain ⟨b, off, h1, _, h3⟩ := Wide.at hc1 (by rw [hp2]; exact hy) j hj
        exact ⟨b, off, h1, by have := h3 0 _ rfl; rwa [show off + j * DI.c + 0 = off + j by show off + j * 1 + 0 = _; omega] at this⟩
      have H2 : Hid (∀ y, Below p2 y2 y → ∀ j (hj : j < ls.length), ∃ b off, a2 = some ⟨b, off, none⟩ ∧ y.cell? ⟨b, off + j, none⟩ = some (.int .i64 ls[j])) := fun y hy j hj => by
        obtain ⟨b, off, h1, _, h3⟩ := Wide.at hc2 (by rw [hp2]; exact hy) j hj
        exact ⟨b, off, h1, by have := h3 0 _ rfl; rwa [show off + j * DI.c + 0 = off + j by show off + j * 1 + 0 = _; omega] at this⟩
      have HB2 := hidOf2 B2
      have HI2 : Hid (Below p2 y2 y2) := Below.refl _ _
      have HE2 : Hid (∀ y, Below p2 y2 y → Below p0 x y) := fun y hy => HB2.out.trans (hy.mono (by have := HB2.out.size; have := HP0.out; omega))
      have dn : ((NN : Int) != (NN : Int)) = false := by simp
      clear hS hS2 hX I1 I2 b1 b2 B2 J1 hc1 hc2 HA HD HV HO HLS HB2
      go_wp2_with fail
      go_loopw [11] (fun s11 y => ∃ j, j ≤ NN ∧ s11 = .int .i64 (j : Nat) ∧ Below p2 y2 y) (fun s11 _ => NN - (intOf s11).toNat)
      case atStart => exact ⟨0, by omega, rfl, HI2.out⟩
      case round =>
        clear HI2
        obtain ⟨j, hj, rfl, hb⟩ := hrel
        have HBj := hidOf2 hb
        by_cases hjN : j < NN
        · have hd3 : decide ((j : Int) < (NN : Int)) = true := by simp; omega
          have hjl : j < ls.length := by rw [hln.out]; exact hjN
          obtain ⟨b1, o1, rfl, k1⟩ := H1.out wr hb j hjl
          obtain ⟨b2, o2, rfl, k2⟩ := H2.out wr hb j hjl
          generalize ls[j] = z at *
          have dz : (z != z) = false := by simp
          clear H1 H2 hb
          go_upto_region 17 with fail
          go_quiet (fail)
          go_wp2_with fail
          go_roundw
          case rel => exact ⟨j + 1, by omega, rfl, below_drawn HBj.out _⟩
          case measure => simp [intOf]; omega
        · obtain rfl : j = NN := by omega
          have hd3 : decide ((j : Int) < (j : Int)) = false := by simp
          clear H1 H2 hb
          go_wp2_with fail
          go_ret
          exact ⟨rfl, HE2.out _ HBj.out⟩
end
end Go.Proofs.Ytceomfefffngaaa
