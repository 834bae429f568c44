/- The law FrameOrder returns true whatever two frames come in. -/
import Derived.Test.YthcigoijkohihaaTwo
namespace Go.Proofs.Ythcigoijkohihaa
open Go.RowKit Go.Proofs.Bits
set_option linter.unusedVariables false
set_option maxRecDepth 1000000

theorem allOk_two {f g : Fr} (hf : f.chk = 0) (hg : g.chk = 0) : allOk [f, g] = true := by simp [allOk, hf, hg]
theorem first_same {f g : Fr} (hf : f.chk = 0) (hg : g.chk = 0) (h : f.field = g.field) : firstE [f, g] = 5 ∧ firstN [f, g] = 0 := by
  have e : firstE [f, g] = 5 := by
    unfold firstE
    rw [if_neg (by simp), allOk_two hf hg, if_pos rfl, if_neg]
    simp [flds, h]
  exact ⟨e, by unfold firstN; rw [e]; rfl⟩
theorem first_two {f g : Fr} (hf : f.chk = 0) (hg : g.chk = 0) (h : f.field ≠ g.field) : firstE [f, g] = 0 ∧ firstN [f, g] = if g.field < f.field then 1 else 0 := by
  have e : firstE [f, g] = 0 := by
    unfold firstE
    rw [if_neg (by simp), allOk_two hf hg, if_pos rfl, if_pos]
    simp [flds, h]
  refine ⟨e, ?_⟩
  unfold firstN
  rw [e, if_pos rfl]
  have e1 : best (flds [f, g]) 1 = 0 := by simp [best]
  show best (flds [f, g]) 2 = _
  rw [best, e1]
  simp [flds]
theorem less_txt (a b : List UInt8) : Op.bytesLess (⟨a.toArray⟩ : ByteArray).toList (⟨b.toArray⟩ : ByteArray).toList = decide (a < b) := by
  rw [Go.Proofs.bytesLess_eq, Lib.toList_data, Lib.toList_data]
theorem beq_list (a b : List UInt8) : ((⟨a.toArray⟩ : ByteArray).toList == (⟨b.toArray⟩ : ByteArray).toList) = decide (a = b) := by
  rw [Lib.toList_data, Lib.toList_data, Bool.eq_iff_iff]; simp
set_option maxHeartbeats 4000000 in
theorem forder_ok (f g : Fr) (w : World) (hf : f.chk = 0) (hgk : g.chk = 0) :
    Calls Try.prog 8 #[f.val, g.val] w fun e w' => e = .returned (.bool true) ∧ Below w.heap.size w w' := by
  have f1 := (Fa.new w f).alloc (.cells g.arr 25)
  have g1 := Fa.new (w.alloc (.cells f.arr 25)) g
  have B1 : Below w.heap.size w ((w.alloc (.cells f.arr 25)).alloc (.cells g.arr 25)) := ((Below.refl _ _).alloc (Nat.le_refl _) _).alloc (by rw [size_alloc]; omega) _
  rw [size_alloc] at g1
  have hF := fField_any f
  have hG := fField_any g
  rw [hf] at hF
  rw [hgk] at hG
  unfold Fr.val at *
  go_enter Try.func8, Try.ntmps8
  go_wp2_with (first | refine f1.ldw rfl _ rfl rfl ?_ | refine g1.ldw rfl _ rfl rfl ?_)
  refine (hF _).mono ?_
  rintro e w2 ⟨rfl, b2⟩
  have f2 : Fa w.heap.size f w2 := (b2.block _ f1.lt).trans f1
  have g2 : Fa (w.heap.size + 1) g w2 := (b2.block _ g1.lt).trans g1
  have B2 := B1.trans (b2.mono (by have := f1.lt; omega))
  clear f1 g1 B1 b2
  go_wp2_with (first | refine f2.ldw rfl _ rfl rfl ?_ | refine g2.ldw rfl _ rfl rfl ?_)
  refine (hG _).mono ?_
  rintro e w3 ⟨rfl, b3⟩
  have f3 : Fa w.heap.size f w3 := (b3.block _ f2.lt).trans f2
  have g3 : Fa (w.heap.size + 1) g w3 := (b3.block _ g2.lt).trans g2
  have B3 := B2.trans (b3.mono (by have := f2.lt; omega))
  clear f2 g2 B2 b3
  have b4 : Below w.heap.size w (w3.alloc (.cells (f.arr ++ g.arr) 25)) := B3.alloc B3.size _
  have f4 : Fa w.heap.size f (w3.alloc (.cells (f.arr ++ g.arr) 25)) := f3.alloc _
  have g4 : Fa (w.heap.size + 1) g (w3.alloc (.cells (f.arr ++ g.arr) 25)) := g3.alloc _
  have HF := First_any _ [f, g] _ (by simp) (frames_two f g w3)
  have hfv : fldV f = f.field := by unfold fldV; rw [if_pos hf]
  have hgv : fldV g = g.field := by unfold fldV; rw [if_pos hgk]
  have q1 := beq_list (fldV f) (fldV g)
  have q2 := less_txt (fldV g) (fldV f)
  go_wp2_with (first | refine f3.ldw rfl _ rfl rfl ?_ | refine g3.ldw rfl _ rfl rfl ?_ | refine two_bs f g rfl _ _ rfl rfl rfl ?_)
  refine HF.mono ?_
  rintro e w5 ⟨rfl, b5⟩
  have f5 : Fa w.heap.size f w5 := (b5.block _ f4.lt).trans f4
  have g5 : Fa (w.heap.size + 1) g w5 := (b5.block _ g4.lt).trans g4
  have B5 := b4.trans (b5.mono b4.size)
  have b6 : Below w.heap.size w (w5.alloc (.cells (g.arr ++ f.arr) 25)) := B5.alloc B5.size _
  have HG := First_any _ [g, f] _ (by simp) (frames_two g f w5)
  clear f3 g3 f4 g4 HF b4 b5 B3 hF hG
  go_wp2_with (first | refine f5.ldw rfl _ rfl rfl ?_ | refine g5.ldw rfl _ rfl rfl ?_ | refine two_bs g f rfl _ _ rfl rfl rfl ?_)
  refine HG.mono ?_
  rintro e w7 ⟨rfl, b7⟩
  have B7 := b6.trans (b7.mono b6.size)
  clear f5 g5 HG b6 b7
  have hL := lives2_any w7
  rw [hfv, hgv] at q1 q2
  by_cases hab : f.field = g.field
  · obtain ⟨e1, e2⟩ := first_same hf hgk hab
    obtain ⟨e3, e4⟩ := first_same hgk hf hab.symm
    rw [e1, e2, e3, e4]
    rw [show decide (f.field = g.field) = true by simpa using hab] at q1
    clear q2 hfv hgv hab e1 e2 e3 e4
    generalize (⟨f.field.toArray⟩ : ByteArray) = A at *
    generalize (⟨g.field.toArray⟩ : ByteArray) = B at *
    go_wp2_with (go_at_call 18; refine hL.mono ?_; rintro e w8 ⟨rfl, b8⟩)
    go_ret
    exact ⟨rfl, B7.trans (b8.mono B7.size)⟩
  · obtain ⟨e1, e2⟩ := first_two hf hgk hab
    obtain ⟨e3, e4⟩ := first_two hgk hf (Ne.symm hab)
    rw [show decide (f.field = g.field) = false by simpa using hab] at q1
    by_cases hlt : g.field < f.field
    · have hnl : ¬ f.field < g.field := fun h => Std.lt_irrefl (Std.lt_trans h hlt)
      rw [if_pos hlt] at e2
      rw [if_neg hnl] at e4
      rw [show decide (g.field < f.field) = true by simpa using hlt] at q2
      rw [e1, e2, e3, e4]
      clear hfv hgv hab e1 e2 e3 e4 hlt hnl
      generalize (⟨f.field.toArray⟩ : ByteArray) = A at *
      generalize (⟨g.field.toArray⟩ : ByteArray) = B at *
      go_wp2_with (go_at_call 18; refine hL.mono ?_; rintro e w8 ⟨rfl, b8⟩)
      go_ret
      exact ⟨rfl, B7.trans (b8.mono B7.size)⟩
    · have hl2 : f.field < g.field := Std.lt_of_le_of_ne (Std.not_lt.1 hlt) hab
      rw [if_neg hlt] at e2
      rw [if_pos hl2] at e4
      rw [show decide (g.field < f.field) = false by simpa using hlt] at q2
      rw [e1, e2, e3, e4]
      clear hfv hgv hab e1 e2 e3 e4 hlt hl2
      generalize (⟨f.field.toArray⟩ : ByteArray) = A at *
      generalize (⟨g.field.toArray⟩ : ByteArray) = B at *
      go_wp2_with (go_at_call 18; refine hL.mono ?_; rintro e w8 ⟨rfl, b8⟩)
      go_ret
      exact ⟨rfl, B7.trans (b8.mono B7.size)⟩
set_option maxHeartbeats 4000000 in
theorem forder_bad (f g : Fr) (w : World) (h : f.chk = 1 ∨ g.chk = 1) :
    Calls Try.prog 8 #[f.val, g.val] w fun e w' => e = .returned (.bool true) ∧ Below w.heap.size w w' := by
  have f1 := (Fa.new w f).alloc (.cells g.arr 25)
  have g1 := Fa.new (w.alloc (.cells f.arr 25)) g
  have B1 : Below w.heap.size w ((w.alloc (.cells f.arr 25)).alloc (.cells g.arr 25)) := ((Below.refl _ _).alloc (Nat.le_refl _) _).alloc (by rw [size_alloc]; omega) _
  rw [size_alloc] at g1
  have hF := fField_any f
  have hG := fField_any g
  unfold Fr.val at *
  have hcf := chk_cases f
  have hcg := chk_cases g
  generalize f.chk = cf at *
  generalize g.chk = cg at *
  go_enter Try.func8, Try.ntmps8
  go_wp2_with (first | refine f1.ldw rfl _ rfl rfl ?_ | refine g1.ldw rfl _ rfl rfl ?_)
  refine (hF _).mono ?_
  rintro e w2 ⟨rfl, b2⟩
  have g2 : Fa (w.heap.size + 1) g w2 := (b2.block _ g1.lt).trans g1
  have B2 := B1.trans (b2.mono (by have := f1.lt; omega))
  clear f1 g1 B1 b2
  go_wp2_with (first | refine g2.ldw rfl _ rfl rfl ?_)
  refine (hG _).mono ?_
  rintro e w3 ⟨rfl, b3⟩
  have B3 := B2.trans (b3.mono B2.size)
  have hL := lives2_any w3
  clear g2 B2 b3 hF hG
  generalize (⟨(fldV f).toArray⟩ : ByteArray) = A at *
  generalize (⟨(fldV g).toArray⟩ : ByteArray) = B at *
  rcases hcf with rfl | rfl
  · obtain rfl : cg = 1 := by rcases h with h | h <;> omega
    clear h hcg
    go_wp2_with (go_at_call 18; refine hL.mono ?_; rintro e w8 ⟨rfl, b8⟩)
    go_ret
    exact ⟨rfl, B3.trans (b8.mono B3.size)⟩
  · clear h hcg
    go_wp2_with (go_at_call 18; refine hL.mono ?_; rintro e w8 ⟨rfl, b8⟩)
    go_ret
    exact ⟨rfl, B3.trans (b8.mono B3.size)⟩
theorem forder_walk (f g : Fr) (w : World) :
    Calls Try.prog 8 #[f.val, g.val] w fun e w' => e = .returned (.bool true) ∧ Below w.heap.size w w' := by
  rcases chk_cases f with hf | hf
  · rcases chk_cases g with hg | hg
    · exact forder_ok f g w hf hg
    · exact forder_bad f g w (.inr hg)
  · exact forder_bad f g w (.inl hf)
end Go.Proofs.Ythcigoijkohihaa
