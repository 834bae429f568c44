/- The law NvmRoom returns true whatever comes in. -/
import Derived.Test.YthbcpmakhdogmaaNvG
namespace Go.Proofs.Ythbcpmakhdogmaa
open Go.RowKit Go.Shelf Go.Proofs.Ty Go.Proofs.Nv Go.Proofs.Bits
set_option linter.unusedVariables false
set_option maxRecDepth 1000000
set_option linter.unusedSimpArgs false
set_option maxHeartbeats 8000000 in
theorem nroom_walk (p : Nat) (hp : p < 256) (v : Value) (l : List UInt8) (w : World) (hB : Bytes w v l) (hl : l.length ≤ 140737488351232) :
    Calls Try.prog 6 #[.int .u8 p, v] w fun e w' => e = .returned (.bool true) ∧ Below w.heap.size w w' := by
  have hN := New_ok (4 + p) (by omega) (by omega) w
  rw [show ((4 + p : Nat) : Int) = 4 + (p : Int) by omega] at hN
  have hok := Ch.new_ok (n := 4 + p) (by omega) (by omega)
  have hk0 := new_kept (n := 4 + p) (by omega)
  have hrm : (Ch.new (4 + p)).room ≤ 131072 := by unfold Ch.room; show 8 * ((4 + p) / 2 - 1) ≤ _; omega
  have hd0 : (Ch.new (4 + p)).dead = false := rfl
  have hl0 : (Ch.new (4 + p)).left = -1 := rfl
  generalize Ch.new (4 + p) = d0 at *
  obtain ⟨ao, cap, rfl⟩ := bytes_shapeN hB
  have HB := hidOf hB
  have hr1 := save_room d0 l
  have HSA : Hid (∀ C P x, Lw w C P d0 x → _) := fun C P x (hx : Lw w C P d0 x) => hx.app (HB.out.below hx.old) (by omega)
  have HLV := lives9_any
  have HLD : Hid (∀ C P x, Lw w C P (d0.save l).1 x → _) := fun C P x (hx : Lw w C P (d0.save l).1 x) => And.intro (load_lw hx) trivial
  have HRM : Hid (∀ C P x, Lw w C P (d0.save l).1 x → Calls Try.prog 11 #[.pointer (some ⟨C, 0, none⟩)] x (fun e w' => e = .returned (.int .i64 d0.room) ∧ w' = x)) := fun C P x hx => by
    have := Room_any hx.chip
    rw [hr1] at this
    exact this
  have HTX : Hid (∀ x, Below w.heap.size w x → (convert 30 9 (.slice ao l.length cap)).run Try.prog x = .ok (.string ⟨l.toArray⟩) x) := fun x hx => (HB.out.below hx).text
  have HL := hidOf hl
  by_cases hlong : d0.room < l.length
  · have es := save_long (c := d0) l hlong
    rw [es] at HLD HRM
    rw [es] at hr1
    simp only at HLD HRM
    rw [hk0] at HLD
    have HSB : Hid (∀ C P x, Lw w C P d0 x → ∃ WA qA, x.alloc (.cells #[] 5) = WA ∧ x.heap.size = qA ∧ WA.ownsRow qA 5 1 (.slice (some ⟨qA, 0, none⟩) 0 0) ([] : List UInt8).length (Lib.byteCells []) ∧ Bytes WA (.slice ao l.length cap) l ∧ qA ≤ WA.heap.size ∧
      Hid (∀ v1 w2, w2.ownsRow qA 5 1 v1 ([] ++ l).length (Lib.byteCells ([] ++ l)) → WA.grownBy w2 (Value.slice (some ⟨qA, 0, none⟩) 0 0).ownBlock → Calls Try.prog 12 #[.pointer (some ⟨C, 0, none⟩), v1] w2 fun e w' => e = .returned (.int .i64 2) ∧ Lw w C P d0 w')) := fun C P x hx => by
      obtain ⟨WA, qA, h1, h2, h3, h4, h5, h6⟩ := HSA.out C P x hx
      refine ⟨WA, qA, h1, h2, h3, h4, h5, fun v1 w2 ho hg => ?_⟩
      have := h6.out v1 w2 ho hg
      rw [es] at this
      exact this
    clear HSA es
    obtain ⟨nl, hnl⟩ : ∃ n, l.length = n := ⟨_, rfl⟩
    have HNL := hidOf hnl
    rw [hnl] at hlong hl HSB HTX HB ⊢
    have hd1 : decide ((d0.room : Int) < (nl : Int)) = true := by simp; omega
    clear hnl
    go_enter Try.func6, Try.ntmps6
    go_wp2_with (first | (go_at_call 8; refine hN.mono ?_; clear hN; rintro e w1 ⟨C, P, rfl, h1⟩; obtain ⟨WA, qA, hWA, hqA, hoA, hbA, hsA, HSV⟩ := HSB.out C P w1 h1; clear HSB h1) | (at_builtin; refine append_bytes rfl _ _ rfl qA _ [] rfl hoA _ l rfl hbA (by have := HL.out; simp; omega) hsA ?_; intro v1 w2 ho hgr; have hsv := HSV.out v1 w2 ho hgr; clear HSV ho hgr hoA hbA hsA) | (go_at_call 12; refine hsv.mono ?_; clear hsv; rintro e w3 ⟨rfl, h3⟩; have hld := (HLD.out C P w3 h3).1; clear h3 HLD) | (go_at_call 10; refine hld.mono ?_; clear hld; rintro e w5 ⟨v5, rfl, hv5, h5, hb5⟩; obtain ⟨av, cv, hav⟩ := bytes_shapeN hv5; subst hav; have hrr := HRM.out C P w5 h5; have HO5 := hidOf h5.old; clear hv5 h5 hb5) | (go_at_call 11; refine hrr.mono ?_; rintro e x1 ⟨rfl, hx1⟩; rw [hx1]; clear hx1 x1) | (go_at_call 14; refine (HLV _).mono ?_; rintro e w6 ⟨rfl, hb6⟩; have HO6 := hidOf (HO5.out.trans (hb6.mono HO5.out.size)); clear hb6))
    go_ret
    exact ⟨rfl, HO6.out⟩
  · obtain ⟨hg, _⟩ := save_spec hok l (by omega) hd0
    obtain ⟨a1, a2, a3, a4⟩ := hg (.inl (by rw [hl0]; decide))
    rw [hk0] at a3
    rw [a3] at HLD
    have HSB : Hid (∀ C P x, Lw w C P d0 x → ∃ WA qA, x.alloc (.cells #[] 5) = WA ∧ x.heap.size = qA ∧ WA.ownsRow qA 5 1 (.slice (some ⟨qA, 0, none⟩) 0 0) ([] : List UInt8).length (Lib.byteCells []) ∧ Bytes WA (.slice ao l.length cap) l ∧ qA ≤ WA.heap.size ∧
      Hid (∀ v1 w2, w2.ownsRow qA 5 1 v1 ([] ++ l).length (Lib.byteCells ([] ++ l)) → WA.grownBy w2 (Value.slice (some ⟨qA, 0, none⟩) 0 0).ownBlock → Calls Try.prog 12 #[.pointer (some ⟨C, 0, none⟩), v1] w2 fun e w' => e = .returned (.int .i64 0) ∧ Lw w C P (d0.save l).1 w')) := fun C P x hx => by
      obtain ⟨WA, qA, h1, h2, h3, h4, h5, h6⟩ := HSA.out C P x hx
      refine ⟨WA, qA, h1, h2, h3, h4, h5, fun v1 w2 ho hg => ?_⟩
      have := h6.out v1 w2 ho hg
      rw [a1] at this
      exact this
    clear HSA
    generalize (d0.save l).1 = d1 at *
    obtain ⟨nl, hnl⟩ : ∃ n, l.length = n := ⟨_, rfl⟩
    have HNL := hidOf hnl
    rw [hnl] at hlong hl HSB HTX HB ⊢
    have hd1 : decide ((d0.room : Int) < (nl : Int)) = false := by simp; omega
    clear hnl
    go_enter Try.func6, Try.ntmps6
    go_wp2_with (first | (go_at_call 8; refine hN.mono ?_; clear hN; rintro e w1 ⟨C, P, rfl, h1⟩; obtain ⟨WA, qA, hWA, hqA, hoA, hbA, hsA, HSV⟩ := HSB.out C P w1 h1; clear HSB h1) | (at_builtin; refine append_bytes rfl _ _ rfl qA _ [] rfl hoA _ l rfl hbA (by have := HL.out; simp; omega) hsA ?_; intro v1 w2 ho hgr; have hsv := HSV.out v1 w2 ho hgr; clear HSV ho hgr hoA hbA hsA) | (go_at_call 12; refine hsv.mono ?_; clear hsv; rintro e w3 ⟨rfl, h3⟩; have hld := (HLD.out C P w3 h3).1; clear h3 HLD) | (go_at_call 10; refine hld.mono ?_; clear hld; rintro e w5 ⟨v5, rfl, hv5, h5, hb5⟩; have htx := hv5.text; have htx2 := HTX.out w5 h5.old; obtain ⟨av, cv, hav⟩ := bytes_shapeN hv5; subst hav; have hrr := HRM.out C P w5 h5; have HO5 := hidOf h5.old; clear hv5 h5 hb5) | (go_at_call 11; refine hrr.mono ?_; rintro e x1 ⟨rfl, hx1⟩; rw [hx1]; clear hx1 x1) | (go_at_call 14; refine (HLV _).mono ?_; rintro e w6 ⟨rfl, hb6⟩; have HO6 := hidOf (HO5.out.trans (hb6.mono HO5.out.size)); clear hb6))
    go_ret
    exact ⟨rfl, HO6.out⟩
theorem nroom_int (z : Int) (hz : (Lit.int .u8 z).wf = true) (v : Value) (l : List UInt8) (w : World) (hB : Bytes w v l) (hl : l.length ≤ 140737488351232) :
    Calls Try.prog 6 #[.int .u8 z, v] w fun e w' => e = .returned (.bool true) ∧ Below w.heap.size w w' := by
  have hx : 0 ≤ z ∧ z ≤ 255 := by simpa [Lit.wf, IntKind.min, IntKind.max, IntKind.signed, IntKind.bits] using hz
  have := nroom_walk z.toNat (by omega) v l w hB hl
  rw [show ((z.toNat : Nat) : Int) = z by omega] at this
  exact this
end Go.Proofs.Ythbcpmakhdogmaa
