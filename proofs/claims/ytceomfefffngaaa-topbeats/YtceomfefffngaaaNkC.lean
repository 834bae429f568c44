/- The program's node takes a command; Command, Allows. -/
import Derived.Test.YtceomfefffngaaaNkB
namespace Go.Proofs.Ytceomfefffngaaa.Nk
open Go.RowKit
set_option linter.unusedVariables false
set_option maxRecDepth 1000000
set_option linter.unusedSimpArgs false
theorem bytes_two {w : World} {v : Value} {x y : UInt8} (h : Bytes w v [x, y]) : ∃ b off cap, v = .slice (some ⟨b, off, none⟩) 2 cap ∧ w.cell? ⟨b, off, none⟩ = some (.int .u8 x.toNat) ∧ w.cell? ⟨b, off + 1, none⟩ = some (.int .u8 y.toNat) := by
  obtain ⟨ao, cap, rfl, h0, hc⟩ := h
  obtain ⟨b, off, rfl, _, c0⟩ := hc 0 (by simp)
  obtain ⟨b', off', e, _, c1⟩ := hc 1 (by simp)
  cases e
  exact ⟨b, off, cap, rfl, c0, c1⟩
theorem u8n (x : UInt8) : x.toNat < 256 := x.toNat_lt
section
variable {g : Nat} {s : Nd} {w : World}
theorem take_len (v : Value) (l : List UInt8) (h : Na g s w) (hB : Bytes w v l) (hl : l.length ≠ 2) : Calls Try.prog 25 #[.pointer (some ⟨g, 0, none⟩), v] w fun e w' => e = .returned (.int .i64 (s.told l)) ∧ Na g (s.take l) w' ∧ Two g g w w' := by
  have e1 : s.told l = 0 := by
    unfold Nd.told
    split
    · simp at hl
    · rfl
  have e2 : s.take l = s := by
    unfold Nd.take
    split
    · simp at hl
    · rfl
  rw [e1, e2]
  obtain ⟨ao, cap, rfl, hq1, hq2⟩ := hB
  clear hq1 hq2
  have d0 : ((l.length : Int) == 2) = false := by simp; omega
  generalize l.length = n at *
  go_enter Try.func25, Try.ntmps25
  go_wp2
  go_ret
  exact ⟨rfl, h, Two.refl _ _ _⟩
theorem take_deaf (v : Value) (x y : UInt8) (h : Na g s w) (hB : Bytes w v [x, y]) (ht : s.hears y.toNat = false) : Calls Try.prog 25 #[.pointer (some ⟨g, 0, none⟩), v] w fun e w' => e = .returned (.int .i64 0) ∧ w' = w := by
  obtain ⟨b, off, cap, rfl, cx, cy⟩ := bytes_two hB
  have hx := u8n x
  have hy := u8n y
  have HH := hears_any h (y.toNat : Int)
  rw [ht] at HH
  generalize x.toNat = X at *
  generalize y.toNat = Y at *
  clear h hB ht
  go_enter Try.func25, Try.ntmps25
  go_wp2_with (go_at_call 37; refine HH.mono ?_; rintro e w' ⟨rfl, rfl⟩)
  go_ret
  exact ⟨rfl, rfl⟩
theorem take_none (v : Value) (x y : UInt8) (h : Na g s w) (hB : Bytes w v [x, y]) (ht : s.hears y.toNat = true) (hc : isC x.toNat = false) : Calls Try.prog 25 #[.pointer (some ⟨g, 0, none⟩), v] w fun e w' => e = .returned (.int .i64 0) ∧ w' = w := by
  obtain ⟨b, off, cap, rfl, cx, cy⟩ := bytes_two hB
  have hx := u8n x
  have hy := u8n y
  have HH := hears_any h (y.toNat : Int)
  have HC := target_no w _ hc
  rw [ht] at HH
  generalize x.toNat = X at *
  generalize y.toNat = Y at *
  clear h hB ht hc
  go_enter Try.func25, Try.ntmps25
  go_wp2_with (first | (go_at_call 37; refine HH.mono ?_; rintro e w' ⟨rfl, rfl⟩) | (go_at_call 36; refine HC.mono ?_; rintro e w' ⟨rfl, rfl⟩))
  go_ret
  exact ⟨rfl, rfl⟩
theorem take_does (v : Value) (x y : UInt8) (h : Na g s w) (hB : Bytes w v [x, y]) (ht : s.hears y.toNat = true) (hc : isC x.toNat = true) (h1 : -4611686018427387904 ≤ s.boots ∧ s.boots < 4611686018427387904) (h2 : -4611686018427387904 ≤ s.talks ∧ s.talks < 4611686018427387904) : Calls Try.prog 25 #[.pointer (some ⟨g, 0, none⟩), v] w fun e w' => e = .returned (.int .i64 x.toNat) ∧ Na g (s.does x.toNat) w' ∧ Two g g w w' := by
  obtain ⟨b, off, cap, rfl, cx, cy⟩ := bytes_two hB
  have hy := u8n y
  have HH := hears_any h (y.toNat : Int)
  have HC : ∀ x', Calls Try.prog 36 #[.int .i64 x.toNat] x' fun e w' => e = .returned (.tuple #[.int .i64 (tgC x.toNat), .bool true]) ∧ w' = x' := fun x' => target_yes x' _ hc
  have HC := HC w
  obtain ⟨c0, c1, c2, c3, c4, hf⟩ := h.cells
  have f0 := hf 0
  have f2 := hf 2
  have f3 := hf 3
  have f4 := hf 4
  rw [ht] at HH
  generalize y.toNat = Y at *
  rcases isC_cases hc with e | e | e | e | e
  all_goals
    rw [e] at HC ⊢
    have e' : x.toNat = _ := Int.ofNat.inj e
    rw [e'] at cx
    clear hB ht hc
  · have H : Hid (Na g (s.does 1) (w.setCell ⟨g, 2, none⟩ (.int .i64 5))) := Na.mk (Bc.set h 2 _) rfl rfl rfl rfl rfl
    clear h e e'
    go_enter Try.func25, Try.ntmps25
    go_wp2_with (first | (go_at_call 37; refine HH.mono ?_; rintro e w' ⟨rfl, rfl⟩) | (go_at_call 36; refine HC.mono ?_; rintro e w' ⟨rfl, rfl⟩))
    go_ret
    exact ⟨rfl, H.out, (Two.refl _ _ _).at0 _ _⟩
  · have H : Hid (Na g (s.does 2) (w.setCell ⟨g, 2, none⟩ (.int .i64 4))) := Na.mk (Bc.set h 2 _) rfl rfl rfl rfl rfl
    clear h e e'
    go_enter Try.func25, Try.ntmps25
    go_wp2_with (first | (go_at_call 37; refine HH.mono ?_; rintro e w' ⟨rfl, rfl⟩) | (go_at_call 36; refine HC.mono ?_; rintro e w' ⟨rfl, rfl⟩))
    go_ret
    exact ⟨rfl, H.out, (Two.refl _ _ _).at0 _ _⟩
  · have H : Hid (Na g (s.does 128) (w.setCell ⟨g, 2, none⟩ (.int .i64 127))) := Na.mk (Bc.set h 2 _) rfl rfl rfl rfl rfl
    clear h e e'
    go_enter Try.func25, Try.ntmps25
    go_wp2_with (first | (go_at_call 37; refine HH.mono ?_; rintro e w' ⟨rfl, rfl⟩) | (go_at_call 36; refine HC.mono ?_; rintro e w' ⟨rfl, rfl⟩))
    go_ret
    exact ⟨rfl, H.out, (Two.refl _ _ _).at0 _ _⟩
  · have H : Hid (Na g (s.does 129) (((w.setCell ⟨g, 2, none⟩ (.int .i64 0)).setCell ⟨g, 3, none⟩ (.int .i64 (s.boots + 1))).setCell ⟨g, 0, none⟩ (.int .i64 s.next))) := Na.mk (((Bc.set h 2 _).set 3 _).set 0 _) rfl rfl rfl rfl rfl
    clear h e e'
    go_enter Try.func25, Try.ntmps25
    go_wp2_with (first | (go_at_call 37; refine HH.mono ?_; rintro e w' ⟨rfl, rfl⟩) | (go_at_call 36; refine HC.mono ?_; rintro e w' ⟨rfl, rfl⟩))
    go_ret
    exact ⟨rfl, H.out, (((Two.refl _ _ _).at0 _ _).at0 _ _).at0 _ _⟩
  · have H : Hid (Na g (s.does 130) (((w.setCell ⟨g, 2, none⟩ (.int .i64 0)).setCell ⟨g, 4, none⟩ (.int .i64 (s.talks + 1))).setCell ⟨g, 0, none⟩ (.int .i64 s.next))) := Na.mk (((Bc.set h 2 _).set 4 _).set 0 _) rfl rfl rfl rfl rfl
    clear h e e'
    go_enter Try.func25, Try.ntmps25
    go_wp2_with (first | (go_at_call 37; refine HH.mono ?_; rintro e w' ⟨rfl, rfl⟩) | (go_at_call 36; refine HC.mono ?_; rintro e w' ⟨rfl, rfl⟩))
    go_ret
    exact ⟨rfl, H.out, (((Two.refl _ _ _).at0 _ _).at0 _ _).at0 _ _⟩
theorem take_any (v : Value) (l : List UInt8) (h : Na g s w) (hB : Bytes w v l) (h1 : -4611686018427387904 ≤ s.boots ∧ s.boots < 4611686018427387904) (h2 : -4611686018427387904 ≤ s.talks ∧ s.talks < 4611686018427387904) : Calls Try.prog 25 #[.pointer (some ⟨g, 0, none⟩), v] w fun e w' => e = .returned (.int .i64 (s.told l)) ∧ Na g (s.take l) w' ∧ Two g g w w' := by
  by_cases hl : l.length = 2
  · match l, hl with
    | [x, y], _ =>
      cases ht : s.hears y.toNat
      · have e : s.two x.toNat y.toNat = false := by simp [Nd.two, ht]
        simp only [Nd.told, Nd.take, e]
        exact (take_deaf v x y h hB ht).mono fun e w' ⟨h1, h2⟩ => ⟨h1, by rw [h2]; exact h, by rw [h2]; exact Two.refl _ _ _⟩
      · cases hc : isC x.toNat
        · have e : s.two x.toNat y.toNat = false := by simp [Nd.two, hc]
          simp only [Nd.told, Nd.take, e]
          exact (take_none v x y h hB ht hc).mono fun e w' ⟨h1, h2⟩ => ⟨h1, by rw [h2]; exact h, by rw [h2]; exact Two.refl _ _ _⟩
        · have e : s.two x.toNat y.toNat = true := by simp [Nd.two, hc, ht]
          simp only [Nd.told, Nd.take, e, if_true]
          exact take_does v x y h hB ht hc h1 h2
  · exact take_len v l h hB hl
end
end Go.Proofs.Ytceomfefffngaaa.Nk
