/- What is cleared; what is told. -/
import Derived.Test.YtlkocebgkmdeoaaEmK
namespace Go.Proofs.Ytlkocebgkmdeoaa
open Go.RowKit
set_option linter.unusedVariables false
set_option maxRecDepth 1000000
set_option linter.unusedSimpArgs false
section
variable {g : Nat} {P : Nat → Prop} {s : Te} {vn vp vw v : Value} {w x y : World}
set_option maxHeartbeats 600000 in
theorem clear_any (h : Ptv g P s vn vp vw w) (hP : ∀ k, w.heap.size ≤ k → P k) (hl : s.now.length ≤ 2305843009213693951) (c : Nat) :
    Calls Try.prog 11 #[.pointer (some ⟨g, 0, none⟩), .int .u16 c] w fun e w' => e = .returned (.bool (s.there c)) ∧ Pt g P (s.clear c) w' ∧ Kq P w w' := by
  have hF := find_any h hl c
  by_cases hi : 0 ≤ ix s.now c
  · have ht : s.there c = true := decide_eq_true hi
    have hr : s.clear c = s.cl (fi s.now c) := by unfold Te.clear; rw [ht]; rfl
    rw [ht, hr]
    have hfl : fi s.now c < s.now.length := by
      unfold ix at hi
      by_cases h9 : fi s.now c < s.now.length
      · exact h9
      · rw [if_neg h9] at hi; omega
    have hix : ix s.now c = fi s.now c := by unfold ix; rw [if_pos hfl]
    rw [hix] at hF
    have HH := hidOf2 h
    have HLT := hidOf2 hfl
    obtain ⟨i, hii⟩ : ∃ i, fi s.now c = i := ⟨_, rfl⟩
    rw [hii] at hF HLT ⊢
    obtain ⟨an, cn, hv⟩ := own_shapeT h.rn
    subst hv
    have hi62 : i < 4611686018427387904 := by omega
    have hw1 : IntKind.i64.wrap ((i : Int) + 1) = (i : Int) + 1 := by rw [IntKind.wrap_i64]; omega
    have hdd : decide ((i : Int) < 0) = false := by simp
    have HD : Hid (∀ u, Below w.heap.size w u → Calls Try.prog 29 #[.slice an s.now.length cn, .int .i64 i, .int .i64 ((i : Int) + 1)] u fun e w' => ∃ a9 c9, e = .returned (.slice a9 (s.now.eraseIdx i).length c9) ∧ Ptv g P { s with now := s.now.eraseIdx i } (.slice a9 (s.now.eraseIdx i).length c9) vp vw (w'.setCell ⟨g, 2, none⟩ (.slice a9 (s.now.eraseIdx i).length c9)) ∧ Kq P w (w'.setCell ⟨g, 2, none⟩ (.slice a9 (s.now.eraseIdx i).length c9)) ∧ w'.cell? ⟨g, 2, none⟩ = some (.slice an s.now.length cn) ∧ w'.frozen? ⟨g, 2, none⟩ = false) := fun u hb => by
      have hu := HH.out.below hb
      refine (delT_any hu.rn HLT.out hl).mono ?_
      rintro e w' ⟨v', rfl, h1, h2, h3⟩
      obtain ⟨a9, c9, rfl⟩ := own_shape5 h2
      have z := hu.grownN (s.now.eraseIdx i) h2 h3 (fun k e => .inl (h1 ▸ e)) (fun k hk => hP k (Nat.le_trans hb.size hk))
      exact ⟨a9, c9, rfl, z.1, (Kq.of_below hb).trans z.2.1, z.2.2.1, z.2.2.2⟩
    have HT : Hid (∀ v1 (z : World), Ptv g P { s with now := s.now.eraseIdx i } v1 vp vw z → Kq P w z → Calls Try.prog 26 #[.pointer (some ⟨g, 0, none⟩), .int .u16 (hd (s.now.eraseIdx i)), .agg #[.int .u8 0, .int .u8 0, .int .u8 0, .int .u8 0, .int .u8 0]] z fun e w' => e = .returned (.tuple #[]) ∧ Pt g P (s.cl i) w' ∧ Kq P w w') := fun v1 z hz kz => by
      have := tell_any hz (fun k hk => hP k (Nat.le_trans kz.size hk)) (by show (s.now.eraseIdx i).length ≤ _; rw [List.length_eraseIdx]; split <;> omega) (hd (s.now.eraseIdx i)) (hd_lt _) 0 0 0 0 0
      refine this.mono ?_
      rintro e w' ⟨rfl, vw', h9, k9⟩
      exact ⟨rfl, ⟨_, _, _, h9⟩, kz.trans k9⟩
    have HL : Hid (∀ v1 (z : World), Ptv g P { s with now := s.now.eraseIdx i } v1 vp vw z → Calls Try.prog 30 #[.pointer (some ⟨g, 0, none⟩)] z fun e w' => e = .returned (.int .u16 (hd (s.now.eraseIdx i))) ∧ w' = z) := fun v1 z hz => longest_any hz
    have HC2 : Hid (∀ u, Below w.heap.size w u → u.cell? ⟨g, 2, none⟩ = some (.slice an s.now.length cn)) := fun u hb => (HH.out.below hb).cells.2.2.1
    clear ht hr hfl hix hi hii h
    generalize hd (s.now.eraseIdx i) = H at *
    go_enter Try.func11, Try.ntmps11
    go_upto_region 4 with (go_at_call 24; refine hF.mono ?_; rintro e w1 ⟨rfl, b1⟩)
    have c2 := HC2.out _ b1
    go_upto_region 5 with (go_at_call 29; refine (HD.out _ b1).mono ?_; rintro e w2 ⟨a9, c9, rfl, z1, z2, z3, z4⟩)
    obtain ⟨w3, hw3⟩ : ∃ u, w2.setCell ⟨g, 2, none⟩ (.slice a9 (s.now.eraseIdx i).length c9) = u := ⟨_, rfl⟩
    rw [hw3] at z1 z2 ⊢
    have hT := HT.out _ _ z1 z2
    have hL := HL.out _ _ z1
    clear HT HL HD HC2 c2 z3 z4 hw3 z1 z2
    go_wp2_with (first | (go_at_call 30; refine hL.mono ?_; rintro e w4 ⟨rfl, hw4⟩; rw [hw4]) | (go_at_call 26; refine hT.mono ?_; rintro e w5 ⟨rfl, h9, k9⟩))
    go_ret
    exact ⟨rfl, h9, k9⟩
  · have ht : s.there c = false := decide_eq_false hi
    have hr : s.clear c = s := by unfold Te.clear; rw [ht]; rfl
    rw [ht, hr]
    have HH := hidOf2 (fun (u : World) (b : Below w.heap.size w u) => And.intro (h.below b) (Kq.of_below (P := P) b))
    have hdd : decide (ix s.now c < 0) = true := by simp; omega
    generalize ix s.now c = I at *
    clear h ht hr hi
    go_enter Try.func11, Try.ntmps11
    go_wp2_with (go_at_call 24; refine hF.mono ?_; rintro e w1 ⟨rfl, b1⟩)
    go_ret
    exact ⟨rfl, ⟨_, _, _, (HH.out _ b1).1⟩, (HH.out _ b1).2⟩
end
end Go.Proofs.Ytlkocebgkmdeoaa
