/- Contracts: Encode, whose bytes are new. -/
import Derived.Test.YthalhidebkhclaaTy5
namespace Go.Proofs.Ythalhidebkhclaa
open Go.RowKit Go.Proofs.Ty
set_option linter.unusedVariables false
set_option maxRecDepth 1000000
set_option maxHeartbeats 1000000 in
theorem Encode_f (v : Vl) (w : World) :
    Calls Try.prog 38 #[.agg v.arr] w fun e w' => ∃ x, e = .returned (.tuple #[x, .int .i64 v.chk]) ∧ Bytes w' x v.enc ∧ Below w.heap.size w w' ∧ (∀ b, x.ownBlock = some b → w.heap.size ≤ b) := by
  have fA := Va.new w v
  have bA : Below w.heap.size w (w.alloc (.cells v.arr 42)) := (Below.refl _ _).alloc (Nat.le_refl _) _
  have sA := size_alloc w (.cells v.arr 42)
  have hC := Check_v v
  have hS := Size_any v.t
  have hE : Hid (v.enc = if v.chk = 0 then (if 0 < siz v.t then lowL v.n (siz v.t) else v.s.data.toList) else []) := rfl
  have h8 := siz_le v.t
  have hn := v.hn
  have hl := v.hs
  have H2 := chk_le v.t v.n v.s
  change v.chk ≤ 2 at H2
  generalize v.chk = C at *
  generalize siz v.t = z at *
  go_enter Try.func38, Try.ntmps38
  generalize hW : w.alloc (.cells v.arr 42) = W at *
  generalize hq : w.heap.size = q at *
  go_wp2_with (refine fA.ld rfl _ rfl rfl ?_)
  refine (hC _).mono ?_
  rintro e w1 ⟨rfl, b1⟩
  have f1 := fA.below b1
  have B1 := bA.trans (b1.mono (by omega))
  have s1 := b1.size
  have c0 := f1.c0
  have c1 := f1.c1
  have c2 := f1.c2
  clear hC fA bA b1
  by_cases h0 : C = 0
  · subst h0
    by_cases hz : 0 < z
    · have dz : decide (0 < z) = true := by simpa using hz
      rw [dz] at hS
      have e1 := hidOf (show v.enc = lowL v.n z by rw [hE.out]; simp [hz])
      clear hE
      obtain ⟨i0, hi, hz0, hz1, hz2⟩ := info_parts info5
      go_wp2_with (first | (go_at_call 52; refine (hS _).mono ?_; rintro e w2 ⟨rfl, rfl⟩) | (at_make; refine wpList_make_row _ rfl _ _ 24 rfl 5 i0 (.int .u8 0) Try.underlying24 hi hz0 hz1 rfl .i64 .i64 z rfl rfl (by rw [hz2]; omega) (by omega) ?_))
      have hR0 : Row (w2.alloc (.cells (madeCells #[.int .u8 0] z) 5)) w2.heap.size (Lib.byteCells (lowL v.n 0 ++ List.replicate (z - 0) 0)) := by
        have := Row.made w2 (.int .u8 0) z 5
        rw [rep_cells] at this
        exact this
      go_loopw [28] (fun i wr => ∃ k : Nat, k ≤ z ∧ i = .int .i64 k ∧ Row wr w2.heap.size (Lib.byteCells (lowL v.n k ++ List.replicate (z - k) 0)) ∧ Below w2.heap.size w2 wr) (fun i _ => z - (intOf i).toNat)
      case atStart => exact ⟨0, Nat.zero_le _, rfl, hR0, (Below.refl _ _).alloc (Nat.le_refl _) _⟩
      case round =>
        obtain ⟨k, hk, rfl, hR, hb⟩ := hrel
        by_cases hkz : k < z
        · have c1' := (f1.below hb).c1
          have hlen : (Lib.byteCells (lowL v.n k ++ List.replicate (z - k) 0)).length = z := by
            rw [Lib.byteCells_length, List.length_append, lowL_length, List.length_replicate]; omega
          have hc := hR.cell k (by rw [hlen]; exact hkz)
          have hf := hR.free k (by rw [hlen]; exact hkz)
          have HR2 := hR.set k (.int .u8 (UInt8.ofNat (v.n / 256 ^ k)).toNat)
          rw [byteCells_set, low_set _ _ _ hkz, ← byte_at] at HR2
          have HR3 := hidOf HR2
          clear HR2
          go_wp2
          go_roundw
          case rel => exact ⟨k + 1, by omega, by go_num, HR3.out, hb.setCell (p := ⟨w2.heap.size, k, none⟩) (Nat.le_refl _) _⟩
          case measure => simp [intOf]; omega
        · obtain rfl : k = z := by omega
          go_wp2
          go_ret2
          refine ⟨_, rfl, ?_, B1.trans (hb.mono (by omega)), (fun b hb2 => by simp [Value.ownBlock] at hb2; omega)⟩
          rw [e1.out]
          have := Bytes.of_row (l := lowL v.n k) (by simpa using hR) k
          rw [lowL_length] at this
          exact this
    · have dz : decide (0 < z) = false := by simpa using hz
      rw [dz] at hS
      have e1 := hidOf (show v.enc = v.s.data.toList by rw [hE.out]; simp [hz])
      clear hE
      have hconv := run_bytes_of_string (P := Try.prog) w1 9 24 5 v.s Try.underlying9 Try.underlying24 Try.underlying5
      have hR0 := Row.ofText w1 v.s (grownCap w1 v.s.size 0 5) 5
      go_wp2_with (go_at_call 52; refine (hS _).mono ?_; rintro e w2 ⟨rfl, rfl⟩)
      go_ret2
      refine ⟨_, rfl, ?_, (B1.trans ((Below.refl _ _).alloc (by omega) _)).drew, (fun b hb2 => by simp [Value.ownBlock] at hb2; omega)⟩
      rw [e1.out]
      have := Bytes.of_row (l := v.s.data.toList) hR0 (grownCap w2 v.s.size 0 5)
      rw [show v.s.data.toList.length = v.s.size by simp] at this
      exact this
  · have dz : ((C : Int) != 0) = true := by simpa using h0
    have e1 := hidOf (show v.enc = [] by rw [hE.out]; simp [h0])
    clear hE
    go_wp2
    go_ret2
    exact ⟨_, rfl, by rw [e1.out]; exact Bytes.nil _, B1, (fun b hb2 => by cases hb2)⟩
end Go.Proofs.Ythalhidebkhclaa
