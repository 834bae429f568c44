/- Contracts: Same. -/
import Derived.Test.YthalhidebkhclaaPdN
namespace Go.Proofs.Ythalhidebkhclaa
open Go.RowKit Go.Shelf Go.Proofs.Ty
set_option linter.unusedVariables false
set_option maxRecDepth 1000000
set_option linter.unusedSimpArgs false
theorem Bk.bytes {g cap : Nat} {bs : List UInt8} {w : World} (h : Bk g bs w) (n : Nat) (hn : bs.length = n) : Bytes w (.slice (some ⟨g, 0, none⟩) n cap) bs := by
  refine ⟨_, _, by rw [hn], (fun h => by cases h), fun k hk => ⟨g, 0, rfl, (Array.getElem?_eq_some_iff.1 h).1, ?_⟩⟩
  have := Lib.cell_of_heap h (0 + k)
  rw [this]
  simp [Lib.byteCells, hk]
set_option maxRecDepth 100000 in
set_option maxHeartbeats 8000000 in
theorem pdSame_any {D R : Nat} {its : List Im} {w : World} (h : Dct D R its w) (v : Value) (L : List Sl) (hWd : Wide 3 slC w v L) (hL : L.length ≤ 8796093022000) (hm : Mn its) (hvn : Vn its) (vb : Value) (l : List UInt8) (hB : Bytes w vb l) :
    Calls Try.prog 13 #[.pointer (some ⟨D, 0, none⟩), v, vb] w fun e w' => e = .returned (.bool (decide (ckC its false L = 0 ∧ pkB its L L.length = l))) ∧ Below w.heap.size w w' := by
  obtain ⟨ao, cap, hv⟩ := hWd.shape
  have hvs : v = .slice ao L.length cap := hv
  by_cases hc : ckC its false L = 0
  · have hP := pdPack_ok h v L hWd hL hc hm hvn
    have hq : (∀ X, Below w.heap.size w X → Bytes X vb l) := fun X hX => hB.below hX
    have HQ := hidOf hq
    have hlen : (pkB its L L.length).length = szC L := by rw [pkB_len hvn hc _ (Nat.le_refl _), sz_off hm hc]
    have HLN := hidOf hlen
    obtain ⟨ab, cb, hvb, _⟩ := hB
    subst hvs hvb
    have HE : Hid (decide (ckC its false L = 0 ∧ pkB its L L.length = l) = decide (pkB its L L.length = l)) := by show _ = _; simp [hc]
    rw [HE.out]
    clear h hWd hq hlen hm hvn hc hv
    go_enter Try.func13, Try.ntmps13
    go_wp2_with (first | (go_at_call 10; refine hP.mono ?_; rintro e X3 ⟨g, rfl, b3, hg, hbk⟩; have HB3 := hidOf b3; have hEq := Equal_any _ _ _ _ X3 (hbk.bytes (cap := szC L) (szC L) HLN.out) (HQ.out X3 b3); clear b3 hg hbk) | (go_at_call 26; refine hEq.mono ?_; rintro e X4 ⟨rfl, rfl⟩))
    go_ret
    exact ⟨rfl, HB3.out⟩
  · have hP := pdPack_bad h v L hWd hL hc
    obtain ⟨ab, cb, hvb, _⟩ := hB
    subst hvs hvb
    have HE : Hid (decide (ckC its false L = 0 ∧ pkB its L L.length = l) = false) := by show _ = _; simp [hc]
    rw [HE.out]
    clear h hWd hm hvn hc hv
    go_enter Try.func13, Try.ntmps13
    go_wp2_with (go_at_call 10; refine hP.mono ?_; rintro e X3 ⟨rfl, b3⟩; have HB3 := hidOf b3; clear b3)
    go_ret
    exact ⟨rfl, HB3.out⟩
end Go.Proofs.Ythalhidebkhclaa
