/- The law TypesWider returns true whatever comes in: with a sign. -/
import Derived.Test.YtoihcjokifjcgabDoorLawTWid
namespace Go.Proofs.YtoihcjokifjcgabDoor
open Go.RowKit Go.Proofs.Ty
set_option linter.unusedVariables false
set_option maxRecDepth 1000000

def nari (i : Nat) : Int := if i = 0 then 2 else if i = 1 then 3 else 4
theorem nari_kind (i : Nat) : kind (nari i) = 2 := by
  unfold nari
  split
  · rfl
  · split <;> rfl
theorem nari_range (i : Nat) : -9223372036854775808 ≤ nari i ∧ nari i < 9223372036854775808 := by
  unfold nari
  split
  · omega
  · split <;> omega
set_option maxHeartbeats 8000000 in
theorem twid_i (a b : Nat) (ha : a < 18446744073709551616) (hb : b < 18446744073709551616) (w : World) (hp : Pow w) :
    Calls Tryd.prog 3 #[.int .u64 a, .int .u64 b, .bool true] w fun e w' => e = .returned (.bool true) ∧ Below w.heap.size w w' := by
  have hL := lives7_any
  obtain ⟨p, hpe⟩ : ∃ p : Vl, p = ⟨21, a, ⟨#[]⟩, by decide, ha, by decide⟩ := ⟨_, rfl⟩
  obtain ⟨q, hqe⟩ : ∃ q : Vl, q = ⟨21, b, ⟨#[]⟩, by decide, hb, by decide⟩ := ⟨_, rfl⟩
  obtain ⟨g, hg⟩ : ∃ g, w.heap.size + 1 = g := ⟨_, rfl⟩
  go_enter Tryd.func3, Tryd.ntmps3
  go_wp2_with fail
  go_loopw [9] (fun i wr => ∃ k : Nat, k ≤ 3 ∧ i = .int .i64 k ∧ (wr.heap[g]? = some (.cells #[.int .i64 2, .int .i64 3, .int .i64 4] 3 (0, 0))) ∧ Below w.heap.size w wr) (fun i _ => 3 - (intOf i).toNat)
  case atStart => exact ⟨0, by omega, rfl, by
      have := heap_alloc_new (w.alloc (.cells #[.int .i64 5, .int .i64 6, .int .i64 7] 3)) (.cells #[.int .i64 2, .int .i64 3, .int .i64 4] 3)
      rw [size_alloc, hg] at this
      exact this, ((Below.refl _ _).alloc (Nat.le_refl _) _).alloc (by rw [size_alloc]; omega) _⟩
  case round =>
    obtain ⟨k, hk, rfl, hR, hB⟩ := hrel
    have hlt : g < wr.heap.size := (Array.getElem?_eq_some_iff.1 hR).1
    by_cases hk3 : k < 3
    · have hcell : wr.cell? ⟨g, k, none⟩ = some (.int .i64 (nari k)) := by
        rw [Lib.cell_of_heap hR]
        match k, hk3 with
        | 0, _ => rfl
        | 1, _ => rfl
        | 2, _ => rfl
      have htk := nari_kind k
      have htr := nari_range k
      obtain ⟨t, ht⟩ : ∃ t, nari k = t := ⟨_, rfl⟩
      rw [ht] at hcell htk htr
      clear ht
      have hkI : (k : Int) < 3 := by omega
      have hlt2 : w.heap.size < wr.heap.size := by omega
      have hlt3 : w.heap.size < wr.heap.size + 1 := by omega
      obtain ⟨x, hxe⟩ : ∃ x : Vl, x = ⟨t, a, ⟨#[]⟩, htr, ha, by decide⟩ := ⟨_, rfl⟩
      obtain ⟨y, hye⟩ : ∃ y : Vl, y = ⟨t, b, ⟨#[]⟩, htr, hb, by decide⟩ := ⟨_, rfl⟩
      have HAx : Hid (#[Value.int .i64 t, .int .u64 a, .string ⟨#[]⟩] = x.arr) := by show _ = _; rw [hxe]; rfl
      have HAy : Hid (#[Value.int .i64 t, .int .u64 b, .string ⟨#[]⟩] = y.arr) := by show _ = _; rw [hye]; rfl
      have HAp : Hid (#[Value.int .i64 21, .int .u64 a, .string ⟨#[]⟩] = p.arr) := by show _ = _; rw [hpe]; rfl
      have HAq : Hid (#[Value.int .i64 21, .int .u64 b, .string ⟨#[]⟩] = q.arr) := by show _ = _; rw [hqe]; rfl
      have hCx := Check_v x
      have hCy := Check_v y
      have hKx : kind x.t = 1 ∨ kind x.t = 2 := by rw [hxe]; show kind t = 1 ∨ kind t = 2; omega
      have hKp : kind p.t = 1 ∨ kind p.t = 2 := by rw [hpe]; exact .inr rfl
      have hcp : p.chk = 0 := by rw [hpe]; exact wide_chki a ha
      have hcq : q.chk = 0 := by rw [hqe]; exact wide_chki b hb
      have hnx : numT x = numi a := by rw [hxe]; unfold numT numi; show (if kind t = 1 then _ else _) = _; rw [htk]; rw [if_neg (by decide)]
      have hnp : numT p = numi a := by rw [hpe]; unfold numT numi; show (if kind 21 = 1 then _ else _) = _; rw [show kind 21 = 2 from rfl, if_neg (by decide)]
      have HX : Hid (x.chk = 0 → y.chk = 0 → ordN x y = cmi a b ∧ ordE x y = 0 ∧ ordN p q = cmi a b ∧ ordE p q = 0) := by
        intro h1 h2
        have e1 : ordE x y = 0 := by unfold ordE; rw [if_neg (by omega), if_neg (by omega), if_neg (fun h => h (by rw [hxe, hye]))]
        have e2 : ordE p q = 0 := by unfold ordE; rw [if_neg (by omega), if_neg (by omega), if_neg (fun h => h (by rw [hpe, hqe]))]
        refine ⟨?_, e1, ?_, e2⟩
        · unfold ordN; rw [if_pos e1]; rw [hxe, hye]; unfold ordR cmi; show (if kind t = 1 then _ else if kind t = 2 then _ else _) = _; rw [htk]; rw [if_neg (by decide), if_pos rfl]
        · unfold ordN; rw [if_pos e2]; rw [hpe, hqe]; unfold ordR cmi; show (if kind 21 = 1 then _ else if kind 21 = 2 then _ else _) = _; rw [show kind 21 = 2 from rfl, if_neg (by decide), if_pos rfl]
      clear hxe hye hcq hpe hqe
      go_upto_region 7 with fail
      go_region
      · rw [HAx.out, HAy.out]
        obtain ⟨fx, fy, b0⟩ := two_vals wr x y
        have fx : Va (wr.heap.size) x ((wr.alloc (.cells x.arr 25)).alloc (.cells y.arr 25)).drew := fx
        have fy : Va (wr.heap.size + 1) y ((wr.alloc (.cells x.arr 25)).alloc (.cells y.arr 25)).drew := fy
        have b0 : Below wr.heap.size wr ((wr.alloc (.cells x.arr 25)).alloc (.cells y.arr 25)).drew := b0.drew
        generalize ((wr.alloc (.cells x.arr 25)).alloc (.cells y.arr 25)).drew = W1 at *
        have R1 := (b0.block _ hlt).trans hR
        have B1 := hB.trans (b0.mono (by omega))
        have s1 := b0.size
        have lx := fx.lt
        have ly := fy.lt
        clear b0 hR hB
        go_wp2_with (refine fx.ld rfl _ rfl rfl ?_)
        refine (hCx _).mono ?_
        rintro e w2 ⟨rfl, b2⟩
        have fx2 := fx.below b2
        have fy2 := fy.below b2
        have R2 := (b2.block _ (by omega)).trans R1
        have B2 := B1.trans (b2.mono (by omega))
        have s2 := b2.size
        clear fx fy b2 R1 B1
        by_cases hx0 : x.chk = 0
        · rw [hx0]
          go_wp2_with (refine fy2.ld rfl _ rfl rfl ?_)
          refine (hCy _).mono ?_
          rintro e w3 ⟨rfl, b3⟩
          have fx3 := fx2.below b3
          have fy3 := fy2.below b3
          have R3 := (b3.block _ (by omega)).trans R2
          have B3 := B2.trans (b3.mono (by omega))
          have s3 := b3.size
          clear fx2 fy2 b3 R2 B2
          by_cases hy0 : y.chk = 0
          · rw [hy0]
            obtain ⟨fp, fq, b4⟩ := two_vals w3 p q
            have R4 := (b4.block _ (by omega)).trans R3
            have B4 := B3.trans (b4.mono (by omega))
            have fx4 := fx3.below b4
            have fy4 := fy3.below b4
            have s4 := b4.size
            have lp := fp.lt
            have lq := fq.lt
            have hp4 : Pow ((w3.alloc (.cells p.arr 25)).alloc (.cells q.arr 25)) := hp.below B4
            have hPx := Print_num x (hKx) hx0 _ hp4
            have hOr := Order_v x y
            have hOp := Order_v p q
            have hx1 := HX.out hx0 hy0
            rw [hx1.1, hx1.2.1] at hOr
            rw [hx1.2.2.1, hx1.2.2.2] at hOp
            rw [hnx] at hPx
            clear fx3 fy3 R3 B3 hx1 HX b4
            go_upto_region 10 with fail
            rw [HAp.out, HAq.out]
            generalize (w3.alloc (.cells p.arr 25)).alloc (.cells q.arr 25) = W4 at *
            go_wp2_with (refine fx4.ld rfl _ rfl rfl ?_)
            refine hPx.mono ?_
            rintro e w5 ⟨rfl, b5⟩
            have fx5 := fx4.below b5
            have fy5 := fy4.below b5
            have fp5 := fp.below b5
            have fq5 := fq.below b5
            have R5 := (b5.block _ (by omega)).trans R4
            have B5 := B4.trans (b5.mono (by omega))
            have s5 := b5.size
            have hPp := Print_num p (hKp) hcp _ (hp.below B5)
            rw [hnp] at hPp
            clear fx4 fy4 fp fq R4 B4 b5 hPx hp4
            go_wp2_with (refine fp5.ld rfl _ rfl rfl ?_)
            refine hPp.mono ?_
            rintro e w6 ⟨rfl, b6⟩
            have fx6 := fx5.below b6
            have fy6 := fy5.below b6
            have fp6 := fp5.below b6
            have fq6 := fq5.below b6
            have R6 := (b6.block _ (by omega)).trans R5
            have B6 := B5.trans (b6.mono (by omega))
            have s6 := b6.size
            clear fx5 fy5 fp5 fq5 R5 B5 b6 hPp
            go_wp2_with (first | refine fx6.ld rfl _ rfl rfl ?_ | refine fy6.ld rfl _ rfl rfl ?_)
            refine (hOr _).mono ?_
            rintro e w7 ⟨rfl, b7⟩
            have fp7 := fp6.below b7
            have fq7 := fq6.below b7
            have R7 := (b7.block _ (by omega)).trans R6
            have B7 := B6.trans (b7.mono (by omega))
            have s7 := b7.size
            clear fx6 fy6 fp6 fq6 R6 B6 b7 hOr
            go_wp2_with (first | refine fp7.ld rfl _ rfl rfl ?_ | refine fq7.ld rfl _ rfl rfl ?_)
            refine (hOp _).mono ?_
            rintro e w8 ⟨rfl, b8⟩
            have R8 := (b8.block _ (by omega)).trans R7
            have B8 := B7.trans (b8.mono (by omega))
            clear fp7 fq7 R7 B7 b8 hOp
            go_wp2
            go_roundw
            case rel => exact ⟨k + 1, by omega, by go_num, R8, B8⟩
            case measure => simp [intOf]; omega
          · have dy : ((y.chk : Int) != 0) = true := by simpa using hy0
            go_wp2
            go_roundw
            case rel => exact ⟨k + 1, by omega, by go_num, R3, B3⟩
            case measure => simp [intOf]; omega
        · have dx : ((x.chk : Int) != 0) = true := by simpa using hx0
          go_wp2
          go_roundw
          case rel => exact ⟨k + 1, by omega, by go_num, R2, B2⟩
          case measure => simp [intOf]; omega
      · rw [HAx.out, HAy.out]
        obtain ⟨fy, fx, b0⟩ := two_vals wr y x
        have fx : Va (wr.heap.size + 1) x ((wr.alloc (.cells y.arr 25)).alloc (.cells x.arr 25)).drew := fx
        have fy : Va (wr.heap.size) y ((wr.alloc (.cells y.arr 25)).alloc (.cells x.arr 25)).drew := fy
        have b0 : Below wr.heap.size wr ((wr.alloc (.cells y.arr 25)).alloc (.cells x.arr 25)).drew := b0.drew
        generalize ((wr.alloc (.cells y.arr 25)).alloc (.cells x.arr 25)).drew = W1 at *
        have R1 := (b0.block _ hlt).trans hR
        have B1 := hB.trans (b0.mono (by omega))
        have s1 := b0.size
        have lx := fx.lt
        have ly := fy.lt
        clear b0 hR hB
        go_wp2_with (refine fx.ld rfl _ rfl rfl ?_)
        refine (hCx _).mono ?_
        rintro e w2 ⟨rfl, b2⟩
        have fx2 := fx.below b2
        have fy2 := fy.below b2
        have R2 := (b2.block _ (by omega)).trans R1
        have B2 := B1.trans (b2.mono (by omega))
        have s2 := b2.size
        clear fx fy b2 R1 B1
        by_cases hx0 : x.chk = 0
        · rw [hx0]
          go_wp2_with (refine fy2.ld rfl _ rfl rfl ?_)
          refine (hCy _).mono ?_
          rintro e w3 ⟨rfl, b3⟩
          have fx3 := fx2.below b3
          have fy3 := fy2.below b3
          have R3 := (b3.block _ (by omega)).trans R2
          have B3 := B2.trans (b3.mono (by omega))
          have s3 := b3.size
          clear fx2 fy2 b3 R2 B2
          by_cases hy0 : y.chk = 0
          · rw [hy0]
            obtain ⟨fp, fq, b4⟩ := two_vals w3 p q
            have R4 := (b4.block _ (by omega)).trans R3
            have B4 := B3.trans (b4.mono (by omega))
            have fx4 := fx3.below b4
            have fy4 := fy3.below b4
            have s4 := b4.size
            have lp := fp.lt
            have lq := fq.lt
            have hp4 : Pow ((w3.alloc (.cells p.arr 25)).alloc (.cells q.arr 25)) := hp.below B4
            have hPx := Print_num x (hKx) hx0 _ hp4
            have hOr := Order_v x y
            have hOp := Order_v p q
            have hx1 := HX.out hx0 hy0
            rw [hx1.1, hx1.2.1] at hOr
            rw [hx1.2.2.1, hx1.2.2.2] at hOp
            rw [hnx] at hPx
            clear fx3 fy3 R3 B3 hx1 HX b4
            go_upto_region 10 with fail
            rw [HAp.out, HAq.out]
            generalize (w3.alloc (.cells p.arr 25)).alloc (.cells q.arr 25) = W4 at *
            go_wp2_with (refine fx4.ld rfl _ rfl rfl ?_)
            refine hPx.mono ?_
            rintro e w5 ⟨rfl, b5⟩
            have fx5 := fx4.below b5
            have fy5 := fy4.below b5
            have fp5 := fp.below b5
            have fq5 := fq.below b5
            have R5 := (b5.block _ (by omega)).trans R4
            have B5 := B4.trans (b5.mono (by omega))
            have s5 := b5.size
            have hPp := Print_num p (hKp) hcp _ (hp.below B5)
            rw [hnp] at hPp
            clear fx4 fy4 fp fq R4 B4 b5 hPx hp4
            go_wp2_with (refine fp5.ld rfl _ rfl rfl ?_)
            refine hPp.mono ?_
            rintro e w6 ⟨rfl, b6⟩
            have fx6 := fx5.below b6
            have fy6 := fy5.below b6
            have fp6 := fp5.below b6
            have fq6 := fq5.below b6
            have R6 := (b6.block _ (by omega)).trans R5
            have B6 := B5.trans (b6.mono (by omega))
            have s6 := b6.size
            clear fx5 fy5 fp5 fq5 R5 B5 b6 hPp
            go_wp2_with (first | refine fx6.ld rfl _ rfl rfl ?_ | refine fy6.ld rfl _ rfl rfl ?_)
            refine (hOr _).mono ?_
            rintro e w7 ⟨rfl, b7⟩
            have fp7 := fp6.below b7
            have fq7 := fq6.below b7
            have R7 := (b7.block _ (by omega)).trans R6
            have B7 := B6.trans (b7.mono (by omega))
            have s7 := b7.size
            clear fx6 fy6 fp6 fq6 R6 B6 b7 hOr
            go_wp2_with (first | refine fp7.ld rfl _ rfl rfl ?_ | refine fq7.ld rfl _ rfl rfl ?_)
            refine (hOp _).mono ?_
            rintro e w8 ⟨rfl, b8⟩
            have R8 := (b8.block _ (by omega)).trans R7
            have B8 := B7.trans (b8.mono (by omega))
            clear fp7 fq7 R7 B7 b8 hOp
            go_wp2
            go_roundw
            case rel => exact ⟨k + 1, by omega, by go_num, R8, B8⟩
            case measure => simp [intOf]; omega
          · have dy : ((y.chk : Int) != 0) = true := by simpa using hy0
            go_wp2
            go_roundw
            case rel => exact ⟨k + 1, by omega, by go_num, R3, B3⟩
            case measure => simp [intOf]; omega
        · have dx : ((x.chk : Int) != 0) = true := by simpa using hx0
          go_wp2
          go_roundw
          case rel => exact ⟨k + 1, by omega, by go_num, R2, B2⟩
          case measure => simp [intOf]; omega
    · have hk3' : k = 3 := by omega
      have dk : decide ((k : Int) < 3) = false := decide_eq_false (by omega)
      clear hk3'
      go_wp2_with fail
      refine (hL _).mono ?_
      rintro e w9 ⟨rfl, b9⟩
      have B9 := hB.trans (b9.mono (by omega))
      go_wp2
      go_ret
      exact ⟨rfl, B9⟩
theorem twid_walk (x y : Int) (hx : 0 ≤ x ∧ x < 18446744073709551616) (hy : 0 ≤ y ∧ y < 18446744073709551616) (sg : Bool) (w : World) (hp : Pow w) :
    Calls Tryd.prog 3 #[.int .u64 x, .int .u64 y, .bool sg] w fun e w' => e = .returned (.bool true) ∧ Below w.heap.size w w' := by
  obtain ⟨a, rfl⟩ := Int.eq_ofNat_of_zero_le hx.1
  obtain ⟨b, rfl⟩ := Int.eq_ofNat_of_zero_le hy.1
  cases sg
  · exact twid_u a b (by omega) (by omega) w hp
  · exact twid_i a b (by omega) (by omega) w hp
end Go.Proofs.YtoihcjokifjcgabDoor
