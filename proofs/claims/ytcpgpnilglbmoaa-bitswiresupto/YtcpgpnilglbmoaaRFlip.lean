/- The contract of the document's own Flip. -/
import Derived.Test.YtcpgpnilglbmoaaFlip
namespace Go.Proofs.Ytcpgpnilglbmoaa
open Go.RowKit Go.Proofs.Bits
set_option linter.unusedVariables false

theorem byteCells_put (l : List UInt8) (k : Nat) (c : UInt8) : (Lib.byteCells l).set k (.int .u8 c.toNat) = Lib.byteCells (l.set k c) := by
  simp [Lib.byteCells, List.map_set]

set_option maxHeartbeats 1000000 in
theorem rFlip_any (s : ByteArray) (v : Value) (zs : List Int) (w : World) (hS : Slots w v (zs.map (Value.int .i64))) (hz : zs.length ≤ 1000000000000) :
    Calls Try.prog 29 #[.string s, v] w fun e w' => e = .returned (.tuple #[.string ⟨(flipV s.data.toList zs).toArray⟩, .int .i64 (flipE s.data.toList zs)]) ∧ Below w.heap.size w w' := by
  by_cases h0 : err s.data.toList = 0
  · obtain ⟨hl, hall⟩ := err_zero h0
    have hs : s.size ≤ 65536 := by simpa using hl
    have H0 : Hid (err s.data.toList = 0) := h0
    clear h0 hl
    obtain ⟨ao, cap, rfl, HAT⟩ := hS.map
    clear hS
    go_enter Try.func29, Try.ntmps29
    go_wp2_with fail
    refine (Check_any s _).mono ?_
    rintro e w1 ⟨rfl, rfl⟩
    rw [H0.out]
    have hconv := run_bytes_of_string (P := Try.prog) w1 9 35 5 s Try.underlying9 Try.underlying35 Try.underlying5
    have hR0 := Row.ofText w1 s (grownCap w1 s.size 0 5) 5
    go_wp2_with fail
    go_loopw [8] (fun i wr => ∃ k : Nat, k ≤ zs.length ∧ i = .int .i64 k ∧ inAll s.size (zs.take k) = true ∧ Row wr w1.heap.size (Lib.byteCells (flips s.data.toList (zs.take k))) ∧ Below w1.heap.size w1 wr) (fun i _ => zs.length - (intOf i).toNat)
    case atStart => exact ⟨0, Nat.zero_le _, rfl, rfl, hR0, ((Below.refl _ _).alloc (Nat.le_refl _) _).drew⟩
    case round =>
      obtain ⟨k, hk, rfl, hin, hR, hb⟩ := hrel
      by_cases hkz : k < zs.length
      · obtain ⟨b, off, rfl, hcat⟩ := HAT wr hb k hkz
        by_cases hz0 : zs[k] < 0
        · have HE : Hid (¬ inAll s.size zs = true) := inAll_not _ _ k hkz (.inl hz0)
          have hd1 : decide (zs[k] < 0) = true := by simpa using hz0
          go_wp2
          go_ret2
          refine ⟨?_, hb⟩
          rw [flipV, flipE, if_pos H0.out, if_pos H0.out, if_neg (by rw [size_len]; exact HE.out), if_neg (by rw [size_len]; exact HE.out)]
          rfl
        · by_cases hz1 : (s.size : Int) ≤ zs[k]
          · have HE : Hid (¬ inAll s.size zs = true) := inAll_not _ _ k hkz (.inr hz1)
            have hd1 : decide (zs[k] < 0) = false := by simpa using hz0
            have hd2 : decide ((s.size : Int) ≤ zs[k]) = true := by simpa using hz1
            go_wp2
            go_ret2
            refine ⟨?_, hb⟩
            rw [flipV, flipE, if_pos H0.out, if_pos H0.out, if_neg (by rw [size_len]; exact HE.out), if_neg (by rw [size_len]; exact HE.out)]
            rfl
          · have HI : Hid (inAll s.size (zs.take (k + 1)) = true) := by
              show inAll _ _ = true
              rw [ltake_snoc zs k hkz]
              exact inAll_snoc _ _ _ hin (by omega) (by omega)
            have HS : Hid (flips s.data.toList (zs.take (k + 1)) = flipAt (flips s.data.toList (zs.take k)) zs[k]) := by
              show flips _ _ = _
              rw [ltake_snoc zs k hkz, flips_snoc]
            have hll := flips_length s.data.toList (zs.take k)
            have hla := flips_all s.data.toList (zs.take k) hall
            rw [size_len] at hll
            generalize flips s.data.toList (zs.take k) = L at hR HS hll hla
            obtain ⟨d, hd⟩ := Int.eq_ofNat_of_zero_le (Int.not_lt.1 hz0)
            rw [hd] at hcat HS hz1
            have hdl : d < L.length := by omega
            have hdi : (d : Int) < (s.size : Int) := by omega
            have hd1 : decide ((d : Int) < 0) = false := by simp
            have hd2 : decide ((s.size : Int) ≤ (d : Int)) = false := by simpa using hz1
            have hdn : d < s.size := by omega
            have hbc : L[d].toNat = 48 ∨ L[d].toNat = 49 := by
              rw [List.all_eq_true] at hla
              exact isBit_cases (hla _ (List.getElem_mem hdl))
            have hcell := hR.cell d (by rw [Lib.byteCells_length]; omega)
            have hfree := hR.free d (by rw [Lib.byteCells_length]; omega)
            rw [show (Lib.byteCells L)[d]'(by rw [Lib.byteCells_length]; omega) = .int .u8 L[d].toNat by simp [Lib.byteCells]] at hcell
            have hR2 := hR.set d (.int .u8 (oth L[d]).toNat)
            rw [byteCells_put] at hR2
            have hf : flipAt L (d : Int) = L.set d (oth L[d]) := by simp [flipAt, hdl]
            have HF : Hid (flips s.data.toList (zs.take (k + 1)) = L.set d (oth L[d])) := HS.out.trans hf
            have HB : Hid ((97 : Int) - (L[d].toNat : Int) = ((oth L[d]).toNat : Int)) := num_oth L[d] hbc
            clear hd hf HS hla hz0 hz1 hin hll
            go_wp2_with fail
            go_region
            all_goals
              go_wp2
              go_roundw
              case rel => exact ⟨k + 1, by omega, by go_num, HI.out, by rw [HF.out, HB.out]; exact hR2, (hb.setCell (p := ⟨w1.heap.size, d, none⟩) (Nat.le_refl _) _).drew⟩
              case measure => simp [intOf]; omega
      · obtain rfl : k = zs.length := by omega
        rw [List.take_length] at hR hin
        have hll := flips_length s.data.toList zs
        rw [size_len] at hll
        have htx := hR.text (grownCap w1 s.size 0 5)
        rw [hll] at htx
        have HIN : Hid (inAll s.size zs = true) := hin
        clear hll hin
        go_wp2
        go_ret2
        refine ⟨?_, hb⟩
        rw [flipV, flipE, if_pos H0.out, if_pos H0.out, if_pos (by rw [size_len]; exact HIN.out), if_pos (by rw [size_len]; exact HIN.out)]
        rfl
  · have H1 : Hid (flipV s.data.toList zs = []) := by show flipV _ _ = []; simp [flipV, h0]
    have H2 : Hid (flipE s.data.toList zs = err s.data.toList) := by show flipE _ _ = _; simp [flipE, h0]
    have hn : (err s.data.toList != 0) = true := by simp [h0]
    clear hS
    go_enter Try.func29, Try.ntmps29
    go_wp2_with (go_at_call 14; refine (Check_any s _).mono ?_; rintro e w1 ⟨rfl, rfl⟩)
    go_ret2
    refine ⟨?_, Below.refl _ _⟩
    rw [H1.out, H2.out]
    rfl
end Go.Proofs.Ytcpgpnilglbmoaa
