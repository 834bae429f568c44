/- The law NvmActs returns true whatever comes in. -/
import Derived.Test.YthbcpmakhdogmaaNvD6
import Derived.Test.YthbcpmakhdogmaaNvP
namespace Go.Proofs.Ythbcpmakhdogmaa
open Go.RowKit Go.Shelf Go.Proofs.Ty Go.Proofs.Nv Go.Proofs.Bits
set_option linter.unusedVariables false
set_option maxRecDepth 1000000
set_option linter.unusedSimpArgs false
theorem infoA12 : (Try.prog.info? 40).map (·.size) = some 12 := by kernel_rfl
theorem A9.len (a : A9) (h : a.p.length = 8) : a.cells.length = 12 := by simp [A9.cells, Lib.byteCells, h]
theorem nacts_no (pg : Int) (hno : pg < 4 ∨ 32768 < pg) (va : Value) (w : World) :
    Calls Try.prog 3 #[.int .i64 pg, va] w fun e w' => e = .returned (.bool true) ∧ Below w.heap.size w w' := by
  have hN := New_no pg hno w
  have hR := r9New_no pg hno w
  have HLV := lives9_any w
  have hl := Load_nil w
  have hr := Room_nil w
  have hs := Save_nil (.slice none 0 0) w
  have he := Erase_nil w
  go_enter Try.func3, Try.ntmps3
  go_wp2_with (first | (go_at_call 8; refine hN.mono ?_; rintro e x1 ⟨rfl, hx1⟩; rw [hx1]; clear hx1 x1) | (go_at_call 9; refine hR.mono ?_; rintro e x1 ⟨rfl, hx1⟩; rw [hx1]; clear hx1 x1) | (go_at_call 10; refine hl.mono ?_; rintro e x1 ⟨rfl, hx1⟩; rw [hx1]; clear hx1 x1) | (go_at_call 11; refine hr.mono ?_; rintro e x1 ⟨rfl, hx1⟩; rw [hx1]; clear hx1 x1) | (go_at_call 12; refine hs.mono ?_; rintro e x1 ⟨rfl, hx1⟩; rw [hx1]; clear hx1 x1) | (go_at_call 13; refine he.mono ?_; rintro e x1 ⟨rfl, hx1⟩; rw [hx1]; clear hx1 x1) | (go_at_call 14; refine HLV.mono ?_; rintro e w7 ⟨rfl, hb7⟩; have HO6 := hidOf hb7; clear hb7))
  go_ret
  exact ⟨rfl, HO6.out⟩
set_option maxHeartbeats 8000000 in
theorem nacts_ok (n : Nat) (h1 : 4 ≤ n) (h2 : n ≤ 32768) (va : Value) (l : List A9) (w : World) (hS : WdN 12 A9.cells w va l) (hok : ∀ a ∈ l, a.ok w) (hl : l.length ≤ 2513169434843) :
    Calls Try.prog 3 #[.int .i64 n, va] w fun e w' => e = .returned (.bool true) ∧ Below w.heap.size w w' := by
  have hN := New_ok n h1 h2 w
  have HLV := lives9_any
  have HR : Hid (∀ x, Calls Try.prog 9 #[.int .i64 n] x fun e w' => ∃ C P, e = .returned (.tuple #[.pointer (some ⟨C, 0, none⟩), .int .i64 0]) ∧ Dm C P (Ch.new n) w' ∧ Below x.heap.size x w' ∧ x.heap.size ≤ C ∧ x.heap.size ≤ P) := fun x => r9New_ok n h1 h2 x
  have HDO : Hid (∀ (C P D Q : Nat) (c : Ch) (X : World) (a : A9), Jn w C P D Q c c X → a.ok w → Calls Try.prog 15 #[.pointer (some ⟨C, 0, none⟩), .pointer (some ⟨D, 0, none⟩), .agg a.cells.toArray] X (Dn9 w C P D Q)) := fun C P D Q c X a h ha => does9_any h a ha
  have HSA : Hid (∀ (C P D Q : Nat) (c : Ch) (X : World), Jn w C P D Q c c X → Calls Try.prog 16 #[.pointer (some ⟨C, 0, none⟩), .pointer (some ⟨D, 0, none⟩)] X fun e w' => e = .returned (.bool true) ∧ Jn w C P D Q c c w') := fun C P D Q c X h => same9_any h
  obtain ⟨asv, cs, rfl⟩ := hS.shape
  have HSS := hidOf hS
  have HOK := hidOf hok
  have hq1 : decide (w.heap.size = w.heap.size) = true := by simp
  generalize Ch.new n = d0 at *
  obtain ⟨ns, hns⟩ : ∃ n, l.length = n := ⟨_, rfl⟩
  have HNS := hidOf hns
  rw [hns] at hl HSS ⊢
  clear hS hok hns hq1
  go_enter Try.func3, Try.ntmps3
  go_wp2_with (first | (go_at_call 8; refine hN.mono ?_; clear hN; rintro e w1 ⟨C, P, rfl, h1⟩; have HL1 := hidOf h1; have hR := HR.out w1; clear h1 HR) | (go_at_call 9; refine hR.mono ?_; clear hR; rintro e w2 ⟨D, Q, rfl, g1, g2, g3, g4⟩; have HJ0 : Hid (Jn w C P D Q d0 d0 w2) := ⟨(HL1.out.below g2).chip, g1, (HL1.out.below g2).old, HL1.out.c1, HL1.out.p1, Nat.le_trans HL1.out.old.size g3, Nat.le_trans HL1.out.old.size g4, (by have := HL1.out.chip.lt; omega), (by have := HL1.out.chip.lt; omega), (by have := HL1.out.chip.ltP; omega), (by have := HL1.out.chip.ltP; omega)⟩; clear g1 g2 g3 g4))
  go_loopw [11] (fun i wr => ∃ (k : Nat) (c : Ch), k ≤ ns ∧ i = .int .i64 k ∧ Hid (Jn w C P D Q c c wr)) (fun i _ => ns - (intOf i).toNat)
  case atStart => exact ⟨0, d0, Nat.zero_le _, rfl, HJ0⟩
  case round =>
    clear HJ0 HL1
    obtain ⟨k, c, hk, rfl, HW⟩ := hrel
    by_cases hkn : k < ns
    · have hkl : k < l.length := by rw [HNS.out]; exact hkn
      have hak := HOK.out l[k] (List.getElem_mem hkl)
      obtain ⟨b, off, hao, hblt, hcell⟩ : ∃ b off, asv = some ⟨b, off, none⟩ ∧ b < w.heap.size ∧ w.rangeAt b (off + k * 12) l[k].cells := by
        obtain ⟨ao', cap', hv, _, hc⟩ := HSS.out
        obtain ⟨b, off, ha, hb, hr⟩ := hc k hkl
        injection hv with e1 _ _
        exact ⟨b, off, by rw [e1, ha], hb, hr⟩
      obtain ⟨X, hX⟩ : ∃ X, l[k] = X := ⟨_, rfl⟩
      rw [hX] at hak hcell
      subst hao
      have hlen := X.len hak.p8
      have hrg : wr.rangeAt b (off + k * 12) X.cells := fun j v hj => (HW.out.old.cell (p := ⟨b, off + k * 12 + j, none⟩) hblt).trans (hcell j v hj)
      have hdo := HDO.out C P D Q c wr X HW.out hak
      obtain ⟨M, hM⟩ : ∃ M, X.cells = M := ⟨_, rfl⟩
      rw [hM] at hlen hrg hdo
      clear hM hX hak hcell hkl HW
      go_wp2_with (first | (refine wpList_load_mid rfl 40 _ rfl b (off + k * 12) rfl M _ hrg Try.underlying40 rfl (by rw [hlen]; exact infoA12) ?_) | (go_at_call 15; refine hdo.mono ?_; clear hdo; rintro e w4 ⟨rfl, c4, j4⟩; have HJ4 := hidOf j4; clear j4))
      go_roundw
      case rel => exact ⟨k + 1, c4, by omega, by go_num, HJ4⟩
      case measure => simp [intOf]; omega
    · have hsa := HSA.out C P D Q c wr HW.out
      go_wp2_with (first | (go_at_call 16; refine hsa.mono ?_; clear hsa; rintro e w5 ⟨rfl, j5⟩; have HJ5 := hidOf j5; clear j5) | (go_at_call 14; refine (HLV _).mono ?_; rintro e w7 ⟨rfl, hb7⟩; have HO6 := hidOf (HJ5.out.old.trans (hb7.mono HJ5.out.old.size)); clear hb7))
      go_ret
      exact ⟨rfl, HO6.out⟩
theorem nacts_walk (pg : Int) (va : Value) (l : List A9) (w : World) (hS : WdN 12 A9.cells w va l) (hz : l.length ≤ 2513169434843 ∧ ∀ a ∈ l, a.ok w) :
    Calls Try.prog 3 #[.int .i64 pg, va] w fun e w' => e = .returned (.bool true) ∧ Below w.heap.size w w' := by
  by_cases hno : pg < 4 ∨ 32768 < pg
  · exact nacts_no pg hno va w
  · obtain ⟨n, rfl⟩ : ∃ n : Nat, pg = n := ⟨pg.toNat, by omega⟩
    exact nacts_ok n (by omega) (by omega) va l w hS hz.2 hz.1
end Go.Proofs.Ythbcpmakhdogmaa
