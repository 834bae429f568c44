/- The program's slave: numbers of a frame, frames of a number; what is configured. -/
import Derived.Test.YthbmbabndhpdkaaLsA
namespace Go.Proofs.Ythbmbabndhpdkaa
open Go.RowKit
open Classical
set_option linter.unusedVariables false
set_option maxRecDepth 1000000
set_option linter.unusedSimpArgs false
def np (f : F8) : Nat → Nat
  | 0 => 0
  | 1 => f.b1.toNat
  | 2 => f.b1.toNat + 256 * f.b2.toNat
  | 3 => f.b1.toNat + 256 * f.b2.toNat + 65536 * f.b3.toNat
  | _ => numq f
theorem joinB (a b m : Nat) (ha : a < 2 ^ m) (hb : b * 2 ^ m < 4294967296) (h2 : a < 4294967296) : bits .or .u32 (a : Int) ((b * 2 ^ m : Nat) : Int) = ((a + b * 2 ^ m : Nat) : Int) := by
  rw [u32_or_nat _ _ h2 hb, Nat.or_comm, nat_join m (b * 2 ^ m) a (Nat.mul_mod_left _ _) ha, Nat.add_comm]
set_option maxHeartbeats 2000000 in
theorem lnumber_any (f : F8) (w : World) : Calls Try.prog 37 #[.agg f.arr] w fun e w' => e = .returned (.int .u32 (numq f : Nat)) ∧ Below w.heap.size w w' := by
  obtain ⟨W, q, hW, hq, q0, b0, _⟩ := Qb.fresh1 w f
  have HB := hidOf2 b0
  have HQ := hidOf2 q0
  clear q0 b0
  go_enter Try.func37, Try.ntmps37
  go_wp2_with fail
  go_loop [3, 5] (fun m i => ∃ (k j : Nat), k ≤ 4 ∧ i = .int .i64 k ∧ m = .int .u32 (j : Nat) ∧ Hid (j = np f k)) (fun _ i => (4 - intOf i).toNat)
  case atStart => exact ⟨0, 0, by omega, rfl, rfl, rfl⟩
  case round =>
    obtain ⟨k, j, hk, rfl, rfl, HJ⟩ := hrel
    by_cases hk4 : k = 4
    · subst hk4
      go_wp2
      go_ret
      exact ⟨ret_int (by rw [HJ.out]; rfl), by rw [← hq]; exact HB.out⟩
    · have u1 := f.b1.toNat_lt
      have u2 := f.b2.toNat_lt
      have u3 := f.b3.toNat_lt
      have u4 := f.b4.toNat_lt
      obtain rfl | rfl | rfl | rfl : k = 0 ∨ k = 1 ∨ k = 2 ∨ k = 3 := by omega
      · have c1 := (show Qb q f W from HQ.out).c1
        have hj : j = 0 := HJ.out
        subst hj
        have e := joinB 0 f.b1.toNat 0 (by decide) (by omega) (by omega)
        have HN : Hid (f.b1.toNat = np f 1) := rfl
        generalize f.b1.toNat = b at *
        clear hk hk4 HJ
        go_wp2
        go_round
        case rel => exact ⟨1, b, by omega, by go_num, by simp at e ⊢; omega, HN.out⟩
        case measure => simp [intOf]
      · have c1 := (show Qb q f W from HQ.out).c2
        have hj : j = f.b1.toNat := HJ.out
        have e := joinB j f.b2.toNat 8 (by rw [hj]; simp only [Nat.reducePow]; omega) (by simp only [Nat.reducePow]; omega) (by omega)
        have HN : Hid (j + f.b2.toNat * 256 = np f 2) := by show _ = _; rw [hj]; simp only [np, numq]; omega
        have e2 : ((f.b2.toNat * 2 ^ 8 : Nat) : Int) = (f.b2.toNat : Int) * 256 := by simp
        rw [e2] at e
        have e3 : IntKind.u32.wrap ((f.b2.toNat : Int) * 256) = (f.b2.toNat : Int) * 256 := by rw [← e2]; exact wrapU32 _ (by simp only [Nat.reducePow]; omega)
        generalize f.b2.toNat = b at *
        clear hk hk4 HJ e2 hj
        go_wp2
        go_round
        case rel => exact ⟨2, j + b * 256, by omega, by go_num, by first | rfl | exact congrArg _ e | (simp at e ⊢; omega), HN.out⟩
        case measure => simp [intOf]
      · have c1 := (show Qb q f W from HQ.out).c3
        have hj : j = f.b1.toNat + 256 * f.b2.toNat := HJ.out
        have e := joinB j f.b3.toNat 16 (by rw [hj]; simp only [Nat.reducePow]; omega) (by simp only [Nat.reducePow]; omega) (by omega)
        have HN : Hid (j + f.b3.toNat * 65536 = np f 3) := by show _ = _; rw [hj]; simp only [np, numq]; omega
        have e2 : ((f.b3.toNat * 2 ^ 16 : Nat) : Int) = (f.b3.toNat : Int) * 65536 := by simp
        rw [e2] at e
        have e3 : IntKind.u32.wrap ((f.b3.toNat : Int) * 65536) = (f.b3.toNat : Int) * 65536 := by rw [← e2]; exact wrapU32 _ (by simp only [Nat.reducePow]; omega)
        generalize f.b3.toNat = b at *
        clear hk hk4 HJ e2 hj
        go_wp2
        go_round
        case rel => exact ⟨3, j + b * 65536, by omega, by go_num, by first | rfl | exact congrArg _ e | (simp at e ⊢; omega), HN.out⟩
        case measure => simp [intOf]
      · have c1 := (show Qb q f W from HQ.out).c4
        have hj : j = f.b1.toNat + 256 * f.b2.toNat + 65536 * f.b3.toNat := HJ.out
        have e := joinB j f.b4.toNat 24 (by rw [hj]; simp only [Nat.reducePow]; omega) (by simp only [Nat.reducePow]; omega) (by omega)
        have HN : Hid (j + f.b4.toNat * 16777216 = np f 4) := by show _ = _; rw [hj]; simp only [np, numq]; omega
        have e2 : ((f.b4.toNat * 2 ^ 24 : Nat) : Int) = (f.b4.toNat : Int) * 16777216 := by simp
        rw [e2] at e
        have e3 : IntKind.u32.wrap ((f.b4.toNat : Int) * 16777216) = (f.b4.toNat : Int) * 16777216 := by rw [← e2]; exact wrapU32 _ (by simp only [Nat.reducePow]; omega)
        generalize f.b4.toNat = b at *
        clear hk hk4 HJ e2 hj
        go_wp2
        go_round
        case rel => exact ⟨4, j + b * 16777216, by omega, by go_num, by first | rfl | exact congrArg _ e | (simp at e ⊢; omega), HN.out⟩
        case measure => simp [intOf]
theorem order_results {Q : Nat} {f : F8} {w : World} (h : Qb Q f w) (tmps : Array Value) (h2 : tmps[4]?.getD undef = .pointer (some ⟨Q, 0, none⟩)) :
    (results Try.f13 tmps).run Try.prog w = .ok (.agg f.arr) w := by
  have l0 := h.load
  simp [Go.results, Try.results13, h2, asAddr, l0]
def opF (c n : Nat) : Nat → F8
  | 0 => ⟨.ofNat c, 0, 0, 0, 0, 0, 0, 0⟩
  | 1 => ⟨.ofNat c, .ofNat (n % 256), 0, 0, 0, 0, 0, 0⟩
  | 2 => ⟨.ofNat c, .ofNat (n % 256), .ofNat (n / 256 % 256), 0, 0, 0, 0, 0⟩
  | 3 => ⟨.ofNat c, .ofNat (n % 256), .ofNat (n / 256 % 256), .ofNat (n / 65536 % 256), 0, 0, 0, 0⟩
  | _ => ordF c n
theorem setU (f g : F8) (k : Nat) (v : Nat) (hv : v < 256) (h : f.arr.setIfInBounds k (.int .u8 ((UInt8.ofNat v).toNat : Int)) = g.arr) : f.arr.setIfInBounds k (.int .u8 (v : Int)) = g.arr := by
  rw [un8 v hv] at h
  exact h
theorem opF_step (c n i : Nat) (hn : n < 4294967296) (hi : i < 4) (v : Int) (hv : v = ((n / 256 ^ i % 256 : Nat) : Int)) : (opF c n i).arr.setIfInBounds (1 + i) (.int .u8 v) = (opF c n (i + 1)).arr := by
  subst hv
  obtain rfl | rfl | rfl | rfl : i = 0 ∨ i = 1 ∨ i = 2 ∨ i = 3 := by omega
  · exact setU _ _ _ _ (by omega) (by simp only [Nat.pow_zero, Nat.div_one]; rfl)
  · exact setU _ _ _ _ (by omega) (by simp only [Nat.pow_one]; rfl)
  · exact setU _ _ _ _ (by omega) (by simp only [Nat.reducePow]; rfl)
  · have e : n / 256 ^ 3 % 256 = n / 16777216 := by simp only [Nat.reducePow]; omega
    rw [e]
    exact setU _ _ _ _ (by omega) rfl
set_option maxHeartbeats 2000000 in
theorem lorder_any (c n : Nat) (w : World) (hc : c < 256) (hn : n < 4294967296) : Calls Try.prog 13 #[.int .u8 (c : Int), .int .u32 (n : Int)] w fun e w' => e = .returned (.agg (ordF c n).arr) ∧ Below w.heap.size w w' := by
  obtain ⟨W, k, hW, hk, q0, b0, hkl⟩ := Qb.fresh0 w
  obtain ⟨f, hf⟩ : ∃ f : F8, f = opF c n 0 := ⟨_, rfl⟩
  have ha : f.arr = #[.int .u8 (c : Int), .int .u8 0, .int .u8 0, .int .u8 0, .int .u8 0, .int .u8 0, .int .u8 0, .int .u8 0] := by
    rw [hf]
    unfold F8.arr F8.c opF
    simp only [un8 c hc]
    rfl
  have HW : W.heap.size = k + 1 := by rw [← hW, ← hk]; simp
  obtain ⟨X, hX⟩ : ∃ X, W.alloc (.cells f.arr 34) = X := ⟨_, rfl⟩
  have HX : Hid (Qb (k + 1) (opF c n 0) X ∧ Qb k F8.nul X ∧ Below w.heap.size w X) := by
    rw [← hX, ← hf]
    have := Qb.new W f
    rw [HW] at this
    exact ⟨this, q0.below ((Below.refl _ _).alloc (Nat.le_refl _) _), b0.alloc b0.size _⟩
  rw [ha] at hX
  have HX2 := hidOf2 hX
  have HK := hidOf2 HW
  clear q0 b0 ha hkl HW hX hf
  go_enter Try.func13, Try.ntmps13
  go_upto_region 1 with fail
  change Code.wp Try.prog _ _ _ (w.alloc (.cells zA8 34))
  rw [hW]
  go_wp2_with fail
  rw [HX2.out, HK.out]
  clear HX2 hW HK
  go_loopw [9] (fun i x => ∃ m : Nat, m ≤ 4 ∧ i = .int .i64 m ∧ Hid (Qb (k + 1) (opF c n m) x ∧ Qb k F8.nul x ∧ Below w.heap.size w x)) (fun i _ => (4 - intOf i).toNat)
  case atStart => exact ⟨0, by omega, rfl, HX⟩
  case round =>
    obtain ⟨m, hm, rfl, HJ⟩ := hrel
    clear HX
    by_cases hm4 : m = 4
    · subst hm4
      obtain ⟨j1, j2, j3⟩ := HJ.out
      have l1 := j1.load
      have j1' : Qb (k + 1) (ordF c n) wr := j1
      clear HJ
      go_wp2_with (first | (refine ldG j1'.load rfl _ rfl rfl ?_) | (refine sdF (g := ordF c n) j2 rfl _ _ rfl rfl rfl ?_))
      exact bodyPost_ret (order_results (j2.row (ordF c n)) _ rfl) rfl ⟨rfl, below_row8 j3 (by omega) _⟩
    · have HS : Hid (∀ v : Int, v = ((n / 256 ^ m % 256 : Nat) : Int) → Qb (k + 1) (opF c n (m + 1)) (wr.setCell ⟨k + 1, 1 + m, none⟩ (.int .u8 v)) ∧ Qb k F8.nul (wr.setCell ⟨k + 1, 1 + m, none⟩ (.int .u8 v)) ∧ Below w.heap.size w (wr.setCell ⟨k + 1, 1 + m, none⟩ (.int .u8 v))) := fun v hv =>
        ⟨HJ.out.1.put _ _ (opF_step c n m hn (by omega) v hv), (Below.heap_setCell wr _ _ k (by show k ≠ k + 1; omega)).trans HJ.out.2.1, HJ.out.2.2.setCell (p := ⟨k + 1, 1 + m, none⟩) (by show _ ≤ k + 1; omega) _⟩
      have hz := HJ.out.1.zz (1 + m)
      obtain ⟨z, hzc⟩ : ∃ z, wr.cell? ⟨k + 1, 1 + m, none⟩ = some z := by
        rw [HJ.out.1.cell]
        obtain rfl | rfl | rfl | rfl : m = 0 ∨ m = 1 ∨ m = 2 ∨ m = 3 := by omega
        all_goals exact ⟨_, rfl⟩
      obtain rfl | rfl | rfl | rfl : m = 0 ∨ m = 1 ∨ m = 2 ∨ m = 3 := by omega
      all_goals
        clear HJ hm hm4
        simp only [Nat.reduceAdd] at hz hzc
        go_wp2
        go_roundw
        case rel => exact ⟨_, by omega, by go_num, hidOf2 (HS.out _ (by simp; try omega))⟩
        case measure => simp [intOf]
end Go.Proofs.Ythbmbabndhpdkaa
