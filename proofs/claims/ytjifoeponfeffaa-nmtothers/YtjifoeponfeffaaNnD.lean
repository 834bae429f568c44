/- The document's node: Step, SetID, Take. -/
import Derived.Test.YtjifoeponfeffaaNnC
namespace Go.Proofs.Ytjifoeponfeffaa
open Go.RowKit
set_option linter.unusedVariables false
set_option maxRecDepth 1000000
set_option linter.unusedSimpArgs false
theorem wr8 (x : UInt8) : IntKind.i64.wrap (x.toNat : Int) = x.toNat := by
  have := u8n x
  simp only [IntKind.wrap, IntKind.bits, IntKind.signed]
  simp
  omega
def Nb (g : Nat) (s : Nd) (w : World) : Prop := Bc 30 g s.arr w
section
variable {g : Nat} {s : Nd} {w : World}
theorem Nb.cells (h : Nb g s w) : w.cell? ⟨g, 0, none⟩ = some (.int .i64 s.id) ∧ w.cell? ⟨g, 1, none⟩ = some (.int .i64 s.next) ∧ w.cell? ⟨g, 2, none⟩ = some (.int .i64 s.st) ∧ w.cell? ⟨g, 3, none⟩ = some (.int .i64 s.boots) ∧ w.cell? ⟨g, 4, none⟩ = some (.int .i64 s.talks) ∧ ∀ k, w.frozen? ⟨g, k, none⟩ = false :=
  ⟨Bc.cell h 0, Bc.cell h 1, Bc.cell h 2, Bc.cell h 3, Bc.cell h 4, fun k => Bc.frozen h k⟩
theorem Nb.mk {a b c d e : Int} {S : Nd} (h : Bc 30 g #[.int .i64 a, .int .i64 b, .int .i64 c, .int .i64 d, .int .i64 e] w) (h1 : S.id = a) (h2 : S.next = b) (h3 : S.st = c) (h4 : S.boots = d) (h5 : S.talks = e) : Nb g S w := by
  unfold Nb Nd.arr
  rw [h1, h2, h3, h4, h5]
  exact h
theorem Nb.new (w : World) (n : Int) : Nb w.heap.size ⟨n, n, 0, 0, 0⟩ (w.alloc (.cells #[.int .i64 n, .int .i64 n, .int .i64 0, .int .i64 0, .int .i64 0] 30)) :=
  heap_alloc_new w (.cells #[.int .i64 n, .int .i64 n, .int .i64 0, .int .i64 0, .int .i64 0] 30)
theorem dset_any (h : Nb g s w) (n : Int) : Calls Try.prog 15 #[.pointer (some ⟨g, 0, none⟩), .int .i64 n] w fun e w' => e = .returned (.int .i64 (if isN n then 0 else 1)) ∧ Nb g (s.set n) w' ∧ Two g g w w' := by
  obtain ⟨c0, c1, c2, c3, c4, hf⟩ := h.cells
  have f0 := hf 0
  have f1 := hf 1
  by_cases hn1 : n < 0
  · have d1 : decide (n < 0) = true := by simp [hn1]
    have hn : isN n = false := by simp [isN]; omega
    have H : Hid (Nb g (s.set n) w) := by show _; simp only [Nd.set, hn]; exact h
    rw [hn]
    clear h hn hn1
    go_enter Try.func15, Try.ntmps15
    go_wp2
    go_ret
    exact ⟨rfl, H.out, Two.refl _ _ _⟩
  · have d1 : decide (n < 0) = false := by simp; omega
    by_cases hn2 : 127 < n
    · have d2 : decide (127 < n) = true := by simp [hn2]
      have hn : isN n = false := by simp [isN]; omega
      have H : Hid (Nb g (s.set n) w) := by show _; simp only [Nd.set, hn]; exact h
      rw [hn]
      clear h hn hn1 hn2
      go_enter Try.func15, Try.ntmps15
      go_wp2
      go_ret
      exact ⟨rfl, H.out, Two.refl _ _ _⟩
    · have d2 : decide (127 < n) = false := by simp; omega
      have hn : isN n = true := by simp [isN]; omega
      rw [hn]
      by_cases h0 : s.st = 0
      · have H : Hid (Nb g (s.set n) ((w.setCell ⟨g, 1, none⟩ (.int .i64 n)).setCell ⟨g, 0, none⟩ (.int .i64 n))) := Nb.mk ((Bc.set h 1 _).set 0 _) (by simp [Nd.set, hn, h0]) (by simp [Nd.set, hn, h0]) (by simp [Nd.set, hn, h0]) (by simp [Nd.set, hn, h0]) (by simp [Nd.set, hn, h0])
        rw [h0] at c2
        clear h hn h0 hn1 hn2
        go_enter Try.func15, Try.ntmps15
        go_wp2
        go_ret
        exact ⟨rfl, H.out, ((Two.refl _ _ _).at0 _ _).at0 _ _⟩
      · have H : Hid (Nb g (s.set n) (w.setCell ⟨g, 1, none⟩ (.int .i64 n))) := Nb.mk (Bc.set h 1 _) (by simp [Nd.set, hn, h0]) (by simp [Nd.set, hn, h0]) (by simp [Nd.set, hn, h0]) (by simp [Nd.set, hn, h0]) (by simp [Nd.set, hn, h0])
        have d0 : (s.st == 0) = false := by simp [h0]
        clear h hn h0 hn1 hn2
        go_enter Try.func15, Try.ntmps15
        go_wp2
        go_ret
        exact ⟨rfl, H.out, (Two.refl _ _ _).at0 _ _⟩
theorem dstep_any (h : Nb g s w) : Calls Try.prog 13 #[.pointer (some ⟨g, 0, none⟩)] w fun e w' => e = .returned (.bool s.goes) ∧ Nb g s.step w' ∧ Two g g w w' := by
  obtain ⟨c0, c1, c2, c3, c4, hf⟩ := h.cells
  have f2 := hf 2
  by_cases h0 : s.st = 0
  · rw [h0] at c2
    by_cases h1 : s.id = 0
    · have hg : s.goes = false := by simp [Nd.goes, h0, h1]
      have H : Hid (Nb g s.step w) := by show _; simp only [Nd.step, hg]; exact h
      rw [h1] at c0
      rw [hg]
      clear h hg h0 h1
      go_enter Try.func13, Try.ntmps13
      go_wp2
      go_ret
      exact ⟨rfl, H.out, Two.refl _ _ _⟩
    · have d1 : (s.id == 0) = false := by simp [h1]
      have hg : s.goes = true := by simp [Nd.goes, h0, h1]
      have H : Hid (Nb g s.step (w.setCell ⟨g, 2, none⟩ (.int .i64 127))) := Nb.mk (Bc.set h 2 _) (by simp [Nd.step, hg]) (by simp [Nd.step, hg]) (by simp [Nd.step, hg]) (by simp [Nd.step, hg]) (by simp [Nd.step, hg])
      rw [hg]
      clear h h0 h1 hg
      go_enter Try.func13, Try.ntmps13
      go_wp2
      go_ret
      exact ⟨rfl, H.out, (Two.refl _ _ _).at0 _ _⟩
  · have d0 : (s.st == 0) = false := by simp [h0]
    have hg : s.goes = false := by simp [Nd.goes, h0]
    have H : Hid (Nb g s.step w) := by show _; simp only [Nd.step, hg]; exact h
    rw [hg]
    clear h hg h0
    go_enter Try.func13, Try.ntmps13
    go_wp2
    go_ret
    exact ⟨rfl, H.out, Two.refl _ _ _⟩
theorem dtake_len (v : Value) (l : List UInt8) (hB : Bytes w v l) (hl : l.length ≠ 2) : Calls Try.prog 11 #[.pointer (some ⟨g, 0, none⟩), v] w fun e w' => e = .returned (.int .i64 0) ∧ ∃ n, w' = w.drewN n := by
  obtain ⟨ao, cap, rfl, hq1, hq2⟩ := hB
  clear hq1 hq2
  have d0 : ((l.length : Int) != 2) = true := by simp; omega
  generalize l.length = n at *
  go_enter Try.func11, Try.ntmps11
  go_wp2_with fail
  go_quiet (fail)
  go_wp2
  go_ret
  exact ⟨rfl, _, rfl⟩
theorem dtake_none (v : Value) (x y : UInt8) (h : Nb g s w) (hB : Bytes w v [x, y]) (ho : s.Ok) (ht : s.two x.toNat y.toNat = false) : Calls Try.prog 11 #[.pointer (some ⟨g, 0, none⟩), v] w fun e w' => e = .returned (.int .i64 0) ∧ ∃ n, w' = w.drewN n := by
  obtain ⟨b, off, cap, rfl, cx, cy⟩ := bytes_two hB
  obtain ⟨c0, c1, c2, c3, c4, hf⟩ := h.cells
  have hx : IntKind.i64.wrap (x.toNat : Int) = x.toNat := wr8 x
  have hy : IntKind.i64.wrap (y.toNat : Int) = y.toNat := wr8 y
  have HI : ∀ x', Calls Try.prog 20 #[.int .i64 x.toNat] x' fun e w' => e = .returned (.bool (isC x.toNat)) ∧ w' = x' := fun x' => is_any x' _
  clear h hB
  cases hc : isC x.toNat
  · rw [hc] at HI
    clear ht ho hc
    generalize x.toNat = X at *
    generalize y.toNat = Y at *
    go_enter Try.func11, Try.ntmps11
    go_wp2_with fail
    go_quiet ((go_at_call 20; exact Calls.quiet_of_same (HI _)))
    go_wp2
    go_ret
    exact ⟨rfl, _, rfl⟩
  · rw [hc] at HI
    have ht2 : s.hears y.toNat = false := by simpa [Nd.two, hc] using ht
    clear ht hc
    generalize x.toNat = X at *
    generalize y.toNat = Y at *
    by_cases h1 : s.id = 0
    · rw [h1] at c0
      clear ho ht2 h1
      go_enter Try.func11, Try.ntmps11
      go_wp2_with fail
      go_quiet ((go_at_call 20; exact Calls.quiet_of_same (HI _)))
      go_wp2
      go_ret
      exact ⟨rfl, _, rfl⟩
    · have d1 : (s.id == 0) = false := by simp [h1]
      by_cases h2 : s.st = 0
      · rw [h2] at c2
        clear ho ht2 h1 h2
        go_enter Try.func11, Try.ntmps11
        go_wp2_with fail
        go_quiet ((go_at_call 20; exact Calls.quiet_of_same (HI _)))
        go_wp2
        go_ret
        exact ⟨rfl, _, rfl⟩
      · have d2 : (s.st == 0) = false := by simp [h2]
        have hq : ¬ (Y : Int) = 0 ∧ ¬ (Y : Int) = s.id := by
          simp [Nd.hears, h2] at ht2
          omega
        obtain ⟨q1, q2⟩ := hq
        have d3 : ((Y : Int) != 0) = true := by simp; omega
        have d4 : ((Y : Int) != s.id) = true := by simp [q2]
        clear ho ht2 h1 h2 q1 q2
        go_enter Try.func11, Try.ntmps11
        go_wp2_with fail
        go_quiet ((go_at_call 20; exact Calls.quiet_of_same (HI _)))
        go_wp2
        go_ret
        exact ⟨rfl, _, rfl⟩
set_option maxHeartbeats 2000000 in
theorem dtake_does (v : Value) (x y : UInt8) (h : Nb g s w) (hB : Bytes w v [x, y]) (ho : s.Ok) (ht : s.hears y.toNat = true) (hc : isC x.toNat = true) (h1 : -4611686018427387904 ≤ s.boots ∧ s.boots < 4611686018427387904) (h2 : -4611686018427387904 ≤ s.talks ∧ s.talks < 4611686018427387904) : Calls Try.prog 11 #[.pointer (some ⟨g, 0, none⟩), v] w fun e w' => e = .returned (.int .i64 x.toNat) ∧ Nb g (s.does x.toNat) w' ∧ Two g g w w' := by
  obtain ⟨b, off, cap, rfl, cx, cy⟩ := bytes_two hB
  obtain ⟨c0, c1, c2, c3, c4, hf⟩ := h.cells
  have f0 := hf 0
  have f2 := hf 2
  have f3 := hf 3
  have f4 := hf 4
  have hy : IntKind.i64.wrap (y.toNat : Int) = y.toNat := wr8 y
  have HI : ∀ x', Calls Try.prog 20 #[.int .i64 x.toNat] x' fun e w' => e = .returned (.bool true) ∧ w' = x' := fun x' => is_yes x' _ hc
  have hh : s.st ≠ 0 ∧ ((y.toNat : Int) = 0 ∨ (y.toNat : Int) = s.id) := by simpa [Nd.hears] using ht
  obtain ⟨h3, hh⟩ := hh
  have hi : s.id ≠ 0 := ho.resolve_left h3
  have d1 : (s.id == 0) = false := by simp [hi]
  have d2 : (s.st == 0) = false := by simp [h3]
  have hwy : ((y.toNat : Int) != 0) = false ∨ ((y.toNat : Int) != 0) = true ∧ ((y.toNat : Int) != s.id) = false := by
    by_cases e : (y.toNat : Int) = 0
    · exact .inl (bne_eq_false_iff_eq.2 e)
    · exact .inr ⟨bne_iff_ne.2 e, bne_eq_false_iff_eq.2 (hh.resolve_left e)⟩
  clear hB ht ho h3 hh hi
  generalize y.toNat = Y at *
  rcases isC_cases hc with e | e | e | e | e
  all_goals
    rw [e] at HI ⊢
    have e' : x.toNat = _ := Int.ofNat.inj e
    rw [e'] at cx
    clear hc
  · have H : Hid (∀ n, Nb g (s.does 1) ((w.drewN n).setCell ⟨g, 2, none⟩ (.int .i64 5))) := fun n => Nb.mk (Bc.set (Bc.drawn h n) 2 _) rfl rfl rfl rfl rfl
    clear h e e'
    rcases hwy with d3 | ⟨d3, d4⟩
    all_goals
      go_enter Try.func11, Try.ntmps11
      go_wp2_with fail
      go_quiet ((go_at_call 20; exact Calls.quiet_of_same (HI _)))
      go_wp2
      go_ret
      exact ⟨rfl, H.out _, (((Two.refl _ _ _).drawn _).at0 _ _)⟩
  · have H : Hid (∀ n, Nb g (s.does 2) ((w.drewN n).setCell ⟨g, 2, none⟩ (.int .i64 4))) := fun n => Nb.mk (Bc.set (Bc.drawn h n) 2 _) rfl rfl rfl rfl rfl
    clear h e e'
    rcases hwy with d3 | ⟨d3, d4⟩
    all_goals
      go_enter Try.func11, Try.ntmps11
      go_wp2_with fail
      go_quiet ((go_at_call 20; exact Calls.quiet_of_same (HI _)))
      go_wp2
      go_ret
      exact ⟨rfl, H.out _, (((Two.refl _ _ _).drawn _).at0 _ _)⟩
  · have H : Hid (∀ n, Nb g (s.does 128) ((w.drewN n).setCell ⟨g, 2, none⟩ (.int .i64 127))) := fun n => Nb.mk (Bc.set (Bc.drawn h n) 2 _) rfl rfl rfl rfl rfl
    clear h e e'
    rcases hwy with d3 | ⟨d3, d4⟩
    all_goals
      go_enter Try.func11, Try.ntmps11
      go_wp2_with fail
      go_quiet ((go_at_call 20; exact Calls.quiet_of_same (HI _)))
      go_wp2
      go_ret
      exact ⟨rfl, H.out _, (((Two.refl _ _ _).drawn _).at0 _ _)⟩
  · have H : Hid (∀ n, Nb g (s.does 129) ((((w.drewN n).setCell ⟨g, 3, none⟩ (.int .i64 (s.boots + 1))).setCell ⟨g, 2, none⟩ (.int .i64 0)).setCell ⟨g, 0, none⟩ (.int .i64 s.next))) := fun n => Nb.mk (Bc.set (Bc.set (Bc.set (Bc.drawn h n) 3 _) 2 _) 0 _) rfl rfl rfl rfl rfl
    clear h e e'
    rcases hwy with d3 | ⟨d3, d4⟩
    all_goals
      go_enter Try.func11, Try.ntmps11
      go_wp2_with fail
      go_quiet ((go_at_call 20; exact Calls.quiet_of_same (HI _)))
      go_wp2
      go_ret
      exact ⟨rfl, H.out _, (((((Two.refl _ _ _).drawn _).at0 _ _).at0 _ _).at0 _ _)⟩
  · have H : Hid (∀ n, Nb g (s.does 130) ((((w.drewN n).setCell ⟨g, 4, none⟩ (.int .i64 (s.talks + 1))).setCell ⟨g, 2, none⟩ (.int .i64 0)).setCell ⟨g, 0, none⟩ (.int .i64 s.next))) := fun n => Nb.mk (Bc.set (Bc.set (Bc.set (Bc.drawn h n) 4 _) 2 _) 0 _) rfl rfl rfl rfl rfl
    clear h e e'
    rcases hwy with d3 | ⟨d3, d4⟩
    all_goals
      go_enter Try.func11, Try.ntmps11
      go_wp2_with fail
      go_quiet ((go_at_call 20; exact Calls.quiet_of_same (HI _)))
      go_wp2
      go_ret
      exact ⟨rfl, H.out _, (((((Two.refl _ _ _).drawn _).at0 _ _).at0 _ _).at0 _ _)⟩
theorem dtake_any (v : Value) (l : List UInt8) (h : Nb g s w) (hB : Bytes w v l) (ho : s.Ok) (h1 : -4611686018427387904 ≤ s.boots ∧ s.boots < 4611686018427387904) (h2 : -4611686018427387904 ≤ s.talks ∧ s.talks < 4611686018427387904) : Calls Try.prog 11 #[.pointer (some ⟨g, 0, none⟩), v] w fun e w' => e = .returned (.int .i64 (s.told l)) ∧ Nb g (s.take l) w' ∧ Two g g w w' := by
  by_cases hl : l.length = 2
  · match l, hl with
    | [x, y], _ =>
      cases ht : s.two x.toNat y.toNat
      · simp only [Nd.told, Nd.take, ht]
        refine (dtake_none v x y h hB ho ht).mono ?_
        rintro e w' ⟨h1, n, rfl⟩
        exact ⟨h1, Bc.drawn h n, (Two.refl _ _ _).drawn _⟩
      · have ht' := ht
        simp [Nd.two] at ht'
        simp only [Nd.told, Nd.take, ht, if_true]
        exact dtake_does v x y h hB ho ht'.1 ht'.2 h1 h2
  · have e1 : s.told l = 0 := by
      unfold Nd.told
      split
      · simp at hl
      · rfl
    have e2 : s.take l = s := by
      unfold Nd.take
      split
      · simp at hl
      · rfl
    rw [e1, e2]
    refine (dtake_len v l hB hl).mono ?_
    rintro e w' ⟨h1, n, rfl⟩
    exact ⟨h1, Bc.drawn h n, (Two.refl _ _ _).drawn _⟩
end
end Go.Proofs.Ytjifoeponfeffaa
