/- Contracts: Begins. -/
import Derived.Test.YthalhidebkhclaaP2
namespace Go.Proofs.Ythalhidebkhclaa
open Go.RowKit Go.Proofs.Ty Go.Sort Go.Lib
set_option linter.unusedVariables false
set_option maxRecDepth 1000000
set_option linter.unusedSimpArgs false
theorem build_pair (D E : Nat) (x : World) : (Instr.build 34 #[(0, .pointer (some ⟨D, 0, none⟩)), (1, .pointer (some ⟨E, 0, none⟩))]).run Try.prog x = .ok (.agg #[.pointer (some ⟨D, 0, none⟩), .pointer (some ⟨E, 0, none⟩)]) x := by kernel_rfl
/-- What Begins leaves, of entries that can be. -/
structure Bg (w : World) (X D R E : Nat) (its : List Im) (l : List En) (vL vV : Value) (x : World) : Prop where
  pair : x.heap[X]? = some (.cells #[.pointer (some ⟨D, 0, none⟩), .pointer (some ⟨E, 0, none⟩)] 34 (0, 0))
  dct : Dct D R its x
  vals : ∀ i ∈ its, i.v = i.e.df
  perm : (its.map Im.e).Perm (l.map En.plain)
  base : ∀ i ∈ its, w.heap.size ≤ i.b
  bD : w.heap.size ≤ D
  bX : w.heap.size ≤ X
  bE : w.heap.size ≤ E
  rd : Rd E (insL [] l) vL ((insL [] l).map En.df) vV x
  below : Below w.heap.size w x
set_option maxHeartbeats 8000000 in
theorem Begins_any (v : Value) (l : List En) (w : World) (hW : Wide 14 enC w v l) (hn : l.length ≤ 1172812402927) :
    Calls Try.prog 6 #[v] w fun x w' => Below w.heap.size w w' ∧ (chkL l ≠ 0 → x = .returned (.tuple #[.pointer none, .bool true])) ∧ (chkL l = 0 → ∃ X D R E its vL vV, x = .returned (.tuple #[.pointer (some ⟨X, 0, none⟩), .bool true]) ∧ Bg w X D R E its l vL vV w') := by
  have HW := hidOf2 hW
  obtain ⟨ao0, cp0, rfl⟩ := hW.shape
  have bA : Below w.heap.size w (w.alloc (.cells #[] 59)) := (Below.refl _ _).alloc (Nat.le_refl _) _
  have hWa := hW.same bA.size (fun b _ hl => bA.block b hl)
  have hown := own0E w
  clear hW
  go_enter Try.func6, Try.ntmps6
  go_wp2_with (first | (refine bs0E rfl rfl ?_) | (refine apE rfl _ _ rfl w.heap.size (.slice (some ⟨w.heap.size, 0, none⟩) 0 0) [] rfl hown _ l rfl hWa (by simpa using hn) bA.size ?_; intro v2 w1 P1 G1; rw [List.nil_append] at P1))
  have B1 : Below w.heap.size w w1 := bA.grown G1 bA.size (own_lt hown)
  have hN := oNew_any v2 l w1 (wide_of_own DE P1) (by omega)
  clear P1 G1 hown hWa bA
  refine hN.mono ?_
  rintro e w2 ⟨hbad, hgood⟩
  have HG := hidOf2 hgood
  have HB2 := hidOf2 hbad
  clear hN hgood hbad
  by_cases hc : chkL l = 0
  · obtain ⟨D, R, its, rfl, N2⟩ := HG.out hc
    have B2 := B1.trans (N2.below.mono B1.size)
    have hM := (r8New_any (.slice ao0 l.length cp0) l w2 (HW.out.same B2.size (fun b _ hl => B2.block b hl)) (by omega)).mono (fun _ _ h => And.intro h.1 (h.2.2 hc))
    have HN2 := hidOf2 N2
    clear HG HB2 N2
    go_wp2_with fail
    refine hM.mono ?_
    rintro e w3 ⟨b3, E, vL, vV, rfl, hE3, R3⟩
    have B3 := B2.trans (b3.mono B2.size)
    have hC := oCheck_any (.slice ao0 l.length cp0) l w3 (HW.out.same B3.size (fun b _ hl => B3.block b hl)) (by omega)
    rw [hc] at hC
    have HR3 := hidOf2 R3
    clear hM R3
    go_wp2_with fail
    refine hC.mono ?_
    rintro e w4 ⟨rfl, b4⟩
    have B4 := B3.trans (b4.mono B3.size)
    have D4 := (HN2.out.dct.below b3).below b4
    have R4 := HR3.out.below b4
    have bZ : Below w4.heap.size w4 (w4.alloc (.cells #[.pointer (some ⟨D, 0, none⟩), .pointer (some ⟨E, 0, none⟩)] 34)) := (Below.refl _ _).alloc (Nat.le_refl _) _
    have HF : Hid (Bg w w4.heap.size D R E its l vL vV (w4.alloc (.cells #[.pointer (some ⟨D, 0, none⟩), .pointer (some ⟨E, 0, none⟩)] 34))) := 
      ⟨heap_alloc_new _ _, D4.below bZ, HN2.out.vals, HN2.out.perm, fun i hi => Nat.le_trans B1.size (HN2.out.base i hi), Nat.le_trans B1.size HN2.out.bD, B4.size, Nat.le_trans B2.size hE3, R4.below bZ, B4.trans (bZ.mono B4.size)⟩
    have hbp := build_pair D E
    have hcc := hc
    clear hC HN2 HR3 D4 R4 hc b3 b4
    go_wp2
    go_ret2
    exact ⟨HF.out.below, fun h => absurd hcc h, fun _ => ⟨_, D, R, E, its, vL, vV, rfl, HF.out⟩⟩
  · obtain ⟨rfl, b2⟩ := HB2.out hc
    have B2 := B1.trans (b2.mono B1.size)
    have hM := (r8New_any (.slice ao0 l.length cp0) l w2 (HW.out.same B2.size (fun b _ hl => B2.block b hl)) (by omega)).mono (fun _ _ h => And.intro h.1 (h.2.1 hc))
    clear HG HB2
    have HCC := hidOf2 hc
    have HCO := hidOf2 (fun x hb => oCheck_any (.slice ao0 l.length cp0) l x (HW.out.same (Below.size hb) (fun b _ hl => Below.block hb b hl)) (by omega))
    clear hc HW
    go_wp2_with fail
    refine hM.mono ?_
    rintro e w3 ⟨b3, rfl⟩
    have B3 := B2.trans (b3.mono B2.size)
    have hC := HCO.out w3 B3
    clear hM HCO
    go_wp2_with fail
    refine hC.mono ?_
    rintro e w4 ⟨rfl, b4⟩
    have B4 := B3.trans (b4.mono B3.size)
    clear hC
    go_wp2
    go_ret2
    exact ⟨B4, fun _ => rfl, fun h => absurd h HCC.out⟩
end Go.Proofs.Ythalhidebkhclaa
