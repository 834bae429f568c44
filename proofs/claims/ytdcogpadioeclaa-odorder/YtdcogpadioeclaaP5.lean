/- Contracts: Set. -/
import Derived.Test.YtdcogpadioeclaaO12
namespace Go.Proofs.Ytdcogpadioeclaa
open Go.RowKit Go.Proofs.Ty Go.Sort Go.Lib
set_option linter.unusedVariables false
set_option maxRecDepth 1000000
set_option linter.unusedSimpArgs false
/-- What Set tells, and leaves. -/
def setc (its : List Im) (ix sb : Nat) (v : Vl) : Nat := match fnd its ix sb with
  | none => 4
  | some i => if i.e.ac = 3 then 1 else if v.t ≠ i.e.df.t then 1 else v.chk
def sett (its : List Im) (ix sb : Nat) (v : Vl) : List Im := match fnd its ix sb with
  | none => its
  | some i => if setc its ix sb v = 0 then setV its i.b v.plain else its
set_option maxHeartbeats 8000000 in
theorem Set_any {D R : Nat} {its : List Im} {w : World} (h : Dct D R its w) (ix sb : Nat) (h1 : ix < 65536) (h2 : sb < 256) (v : Vl) :
    Calls Try.prog 20 #[.pointer (some ⟨D, 0, none⟩), .int .u16 ix, .int .u8 sb, .agg v.arr] w fun e w' => e = .returned (.int .i64 (setc its ix sb v)) ∧ Dct D R (sett its ix sb v) w' ∧ Kp (its.map Im.b) w w' := by
  obtain ⟨q, hq⟩ : ∃ q, w.heap.size = q := ⟨_, rfl⟩
  have f0 : Va q v (w.alloc (.cells v.arr 33)) := hq ▸ Va.new w v
  have bA : Below w.heap.size w (w.alloc (.cells v.arr 33)) := (Below.refl _ _).alloc (Nat.le_refl _) _
  have h0 := h.below bA
  have s0 := bA.size
  have HC : Hid (setc its ix sb v = match fnd its ix sb with
    | none => 4
    | some i => if i.e.ac = 3 then 1 else if v.t ≠ i.e.df.t then 1 else v.chk) := rfl
  have HT : Hid (sett its ix sb v = match fnd its ix sb with
    | none => its
    | some i => if setc its ix sb v = 0 then setV its i.b v.plain else its) := rfl
  generalize sett its ix sb v = ST at *
  generalize setc its ix sb v = SC at *
  cases hf : fnd its ix sb with
  | none =>
    rw [hf] at HC HT
    have hF := find_none h0 ix sb h1 h2 hf
    have d1 : ((noc its ix : Int) != 0) = true := by have := noc_ne its ix; simp; omega
    generalize noc its ix = C at *
    clear hf
    go_enter Try.func20, Try.ntmps20
    go_upto_region 1 with fail
    generalize (w.alloc (.cells v.arr 33)) = W at *
    go_wp2_with fail
    refine hF.mono ?_
    rintro e w1 ⟨rfl, b1⟩
    have D1 := hidOf2 (h0.below b1)
    have K1 := hidOf2 (Kp.of_below (bs := its.map Im.b) (bA.trans (b1.mono s0)))
    clear hF h0 h bA b1 f0
    go_wp2
    go_ret
    exact ⟨ret_int (by rw [HC.out]; rfl), by rw [HT.out]; exact D1.out, K1.out⟩
  | some i =>
    rw [hf] at HC HT
    have hF := find_some h0 ix sb h1 h2 hf
    have hi := fnd_mem hf
    unfold ptrI at hF
    clear hf
    go_enter Try.func20, Try.ntmps20
    go_upto_region 1 with fail
    generalize (w.alloc (.cells v.arr 33)) = W at *
    try simp only [hq]
    go_wp2_with fail
    refine hF.mono ?_
    rintro e w1 ⟨rfl, b1⟩
    have D1 := h0.below b1
    have B1 := bA.trans (b1.mono s0)
    have f1 := f0.below b1
    have hI := D1.items i hi
    obtain ⟨_, _, c2, _, _, c11⟩ := hI.c
    have t0 := f1.c0
    have HD1 := hidOf2 D1
    have K1 := hidOf2 (Kp.of_below (bs := its.map Im.b) B1)
    clear hF h0 h bA b1 f0 D1 hI
    by_cases ha : i.e.ac = 3
    · have e1 := hidOf2 (show SC = 1 from HC.out.trans (if_pos ha))
      have e2 := hidOf2 (show ST = its by rw [HT.out, e1.out]; rfl)
      rw [ha] at c2
      clear HC HT
      go_upto_region 4 with fail
      go_quiet (fail)
      go_wp2
      go_ret
      exact ⟨ret_int (by rw [e1.out]; rfl), by rw [e2.out]; exact HD1.out.below (bdr (Below.refl _ _) _), K1.out.trans (Kp.of_below (bdr (Below.refl _ _) _))⟩
    · have da : (i.e.ac == 3) = false := by simpa using ha
      have HC2 := hidOf2 (HC.out.trans (if_neg ha))
      clear HC
      generalize i.e.ac = A at *
      by_cases ht : v.t = i.e.df.t
      · have HC3 := hidOf2 (show SC = v.chk from HC2.out.trans (if_neg (by simpa using ht)))
        have dt : (v.t != i.e.df.t) = false := by simpa using ht
        clear HC2 ht
        go_upto_region 4 with fail
        go_quiet (fail)
        have hC := Check_v v (w1.drewN nq)
        have f2 : Va q v (w1.drewN nq) := f1
        have B2 : Below w.heap.size w (w1.drewN nq) := bdr B1 nq
        have HD2 := hidOf2 (HD1.out.below (bdr (Below.refl _ _) nq))
        clear c2 c11 t0 HD1 K1 f1 B1
        generalize w1.drewN nq = w2 at *
        clear nq
        go_wp2_with (first | (refine f2.ld rfl _ rfl rfl ?_))
        refine hC.mono ?_
        rintro e w3 ⟨rfl, b3⟩
        have f3 := f2.below b3
        have B3 := B2.trans (b3.mono B2.size)
        have HD3 := hidOf2 (HD2.out.below b3)
        clear hC f2 B2 b3 HD2
        by_cases hk : v.chk = 0
        · rw [hk] at HC3 ⊢
          have hP := Plain_v v w3
          go_wp2_with (first | (refine f3.ld rfl _ rfl rfl ?_))
          refine hP.mono ?_
          rintro e w4 ⟨rfl, b4⟩
          have B4 := B3.trans (b4.mono B3.size)
          have D4 := HD3.out.below b4
          have hI4 := D4.items i hi
          have ht4 := hI4.there
          have D5 := hidOf2 (D4.set hi v.plain)
          have K5 := hidOf2 ((Kp.of_below (bs := its.map Im.b) B4).trans (Kp.set (List.mem_map.2 ⟨i, hi, rfl⟩) 14 (vlC v.plain)))
          have e2 := hidOf2 (show ST = setV its i.b v.plain by rw [HT.out, HC3.out]; rfl)
          clear hP f3 B3 HD3 D4 hI4 b4 B4 HT
          go_wp2_with (first | (refine sdV ht4 v.plain rfl _ _ rfl rfl rfl ?_))
          go_ret
          exact ⟨ret_int (by rw [HC3.out]; rfl), by rw [e2.out]; exact D5.out, K5.out⟩
        · have dk : ((v.chk : Int) != 0) = true := by simpa using hk
          have e2 := hidOf2 (show ST = its by rw [HT.out, HC3.out]; exact if_neg hk)
          have K3 := hidOf2 (Kp.of_below (bs := its.map Im.b) B3)
          clear HT
          generalize v.chk = CK at *
          go_wp2
          go_ret
          exact ⟨ret_int (by rw [HC3.out]), by rw [e2.out]; exact HD3.out, K3.out⟩
      · have e1 := hidOf2 (show SC = 1 from HC2.out.trans (if_pos (by simpa using ht)))
        have e2 := hidOf2 (show ST = its by rw [HT.out, e1.out]; rfl)
        have dt : (v.t != i.e.df.t) = true := by simpa using ht
        clear HC2 HT
        go_upto_region 4 with fail
        go_quiet (fail)
        go_wp2
        go_ret
        exact ⟨ret_int (by rw [e1.out]; rfl), by rw [e2.out]; exact HD1.out.below (bdr (Below.refl _ _) _), K1.out.trans (Kp.of_below (bdr (Below.refl _ _) _))⟩
end Go.Proofs.Ytdcogpadioeclaa
