/- Contracts: Print of a number. -/
import Derived.Test.YtoihcjokifjcgabDoorTyF
import Derived.Test.YtoihcjokifjcgabDoorTy13
namespace Go.Proofs.YtoihcjokifjcgabDoor
open Go.RowKit Go.Proofs.Ty
set_option linter.unusedVariables false
set_option maxRecDepth 1000000
/-- The digits of a number. -/
def numT (v : Vl) : List UInt8 := if kind v.t = 1 then Lib.decDigits v.n else Lib.itoa (sgnN v.n)
theorem sgn_range (n : Nat) (h : n < 18446744073709551616) : -9223372036854775808 ≤ sgnN n ∧ sgnN n < 9223372036854775808 := by
  unfold sgnN
  split <;> omega
set_option maxHeartbeats 1000000 in
theorem Print_num (v : Vl) (hk : kind v.t = 1 ∨ kind v.t = 2) (hc : v.chk = 0) (w : World) (hp : Pow w) :
    Calls Tryd.prog 5 #[.agg v.arr] w fun e w' => e = .returned (.tuple #[.string ⟨(numT v).toArray⟩, .int .i64 0]) ∧ Below w.heap.size w w' := by
  have fA := Va.new w v
  have bA : Below w.heap.size w (w.alloc (.cells v.arr 25)) := (Below.refl _ _).alloc (Nat.le_refl _) _
  have sA := size_alloc w (.cells v.arr 25)
  have hC := Check_v v
  rw [hc] at hC
  have hK := kindOf_any v.t
  have hU := FormatUint_any v.n v.hn
  have hI := FormatInt_any (sgnN v.n) (sgn_range v.n v.hn).1 (sgn_range v.n v.hn).2
  have hcv := conv_sgn v.n v.hn
  have HN : Hid (numT v = if kind v.t = 1 then Lib.decDigits v.n else Lib.itoa (sgnN v.n)) := rfl
  generalize numT v = D at *
  go_enter Tryd.func5, Tryd.ntmps5
  generalize hW : w.alloc (.cells v.arr 25) = W at *
  generalize hq : w.heap.size = q at *
  go_wp2_with (refine fA.ld rfl _ rfl rfl ?_)
  refine (hC _).mono ?_
  rintro e w1 ⟨rfl, b1⟩
  have f1 := fA.below b1
  have B1 := bA.trans (b1.mono (by omega))
  have s1 := b1.size
  have c0 := f1.c0
  have c1 := f1.c1
  have hp1 : Pow w1 := hp.below (by rw [hq]; exact B1)
  clear hC fA bA b1
  rcases hk with hk | hk
  · have e1 := hidOf (show D = Lib.decDigits v.n by rw [HN.out, if_pos hk])
    have hU1 := hU w1 hp1
    rw [hk] at hK
    clear HN hk
    go_wp2_with (first | (go_at_call 8; refine (hK _).mono ?_; rintro e w1 ⟨rfl, rfl⟩))
    refine hU1.mono ?_
    rintro e w2 ⟨rfl, b2⟩
    have B2 := B1.trans (b2.mono (by omega))
    go_wp2
    go_ret2
    exact ⟨by rw [e1.out]; rfl, B2⟩
  · have e1 := hidOf (show D = Lib.itoa (sgnN v.n) by rw [HN.out, if_neg (by omega)])
    have hI1 := hI w1 hp1
    rw [hk] at hK
    clear HN hk
    go_wp2_with (first | (go_at_call 8; refine (hK _).mono ?_; rintro e w1 ⟨rfl, rfl⟩))
    refine hI1.mono ?_
    rintro e w2 ⟨rfl, b2⟩
    have B2 := B1.trans (b2.mono (by omega))
    go_wp2
    go_ret2
    exact ⟨by rw [e1.out]; rfl, B2⟩
end Go.Proofs.YtoihcjokifjcgabDoor
